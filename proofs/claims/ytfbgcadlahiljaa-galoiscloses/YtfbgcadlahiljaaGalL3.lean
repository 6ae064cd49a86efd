/-
  hasselaw.GaloisOre returns true for every two lattices and list. No condition but that slices read as slices of rows and of numbers.
-/
import Derived.Test.YtfbgcadlahiljaaGalL2
namespace Go.Proofs.Ytfbgcadlahiljaa
open Go.RowKit

/-- Right ones, opened for a walk. -/
theorem GS.open {A B : LA} {f : MA} {u : Nat} {w : World} (h : GS A B f u w) (hc : GCk A B f 0) :
    ∃ q b1 o1 b2 o2 q' b1' o1' b2' o2' fb fo : Nat, A = ⟨(q : Nat), some ⟨b1, o1, none⟩, q, A.ca, A.SA, A.FA, some ⟨b2, o2, none⟩, q, A.cb, A.SB, A.FB⟩ ∧ B = ⟨(q' : Nat), some ⟨b1', o1', none⟩, q', B.ca, B.SA, B.FA, some ⟨b2', o2', none⟩, q', B.cb, B.SB, B.FB⟩ ∧ f = ⟨some ⟨fb, fo, none⟩, q, f.ca, f.F⟩ ∧
      1 ≤ q ∧ q ≤ 40 ∧ 1 ≤ q' ∧ q' ≤ 40 ∧ q = A.q ∧ q' = B.q ∧
      (∀ wx, Below w.heap.size w wx → Tb wx b1 o1 q (fun x => rAt (A.SA x)) A.m) ∧ (∀ wx, Below w.heap.size w wx → Tb wx b1' o1' q' (fun x => rAt (B.SA x)) B.m) ∧ (∀ wx, Below w.heap.size w wx → ∀ k, k < q → wx.cell? ⟨fb, fo + k, none⟩ = some (.int .i64 (f.f k : Nat))) := by
  obtain ⟨q, b1, o1, b2, o2, q', b1', o1', b2', o2', fb, fo, e1, e2, e3, e4, e5, e1', e2', e3', e4', e5', e6, el, h1, h40, hlat, h1', h40', hlat', hmp, eq, eq', ht1, ht2, ht1', ht2', hr⟩ := h.good hc
  refine ⟨q, b1, o1, b2, o2, q', b1', o1', b2', o2', fb, fo, ?_, ?_, ?_, h1, h40, h1', h40', eq, eq', fun wx hx => ht1.step hx, fun wx hx => ht1'.step hx, fun wx hx k hk => cell_step hx (hr k hk)⟩
  · cases A; simp only [LA.mk.injEq]; simp only at e1 e2 e3 e4 e5; exact ⟨e1, e2, e3.symm, trivial, trivial, trivial, e4, e5.symm, trivial, trivial, trivial⟩
  · cases B; simp only [LA.mk.injEq]; simp only at e1' e2' e3' e4' e5'; exact ⟨e1', e2', e3'.symm, trivial, trivial, trivial, e4', e5'.symm, trivial, trivial, trivial⟩
  · cases f; simp only [MA.mk.injEq]; simp only at e6 el; exact ⟨e6, el.symm, trivial, trivial⟩

set_option maxHeartbeats 8000000 in
theorem galoisOre_all (A B : LA) (f : MA) (w : World) (hA : A.In w) (hB : B.In w) (hf : f.In w) :
    Calls Try.prog 6 #[A.v, B.v, f.v] w fun e w' => e = .returned (.bool true) ∧ Below w.heap.size w w' := by
  have HB1 : Hid (Below w.heap.size w (two w A B)) := two_below w A B
  have hG := GS.new hA hB hf
  have eW : Hid (two w A B = (w.alloc (.cells #[.int .i64 A.n, .slice A.a A.la A.ca, .slice A.b A.lb A.cb] 24)).alloc (.cells #[.int .i64 B.n, .slice B.a B.la B.ca, .slice B.b B.lb B.cb] 24)) := rfl
  generalize two w A B = W at *
  obtain ⟨X, hX⟩ : ∃ X, X = A := ⟨_, rfl⟩
  obtain ⟨Y, hY⟩ : ∃ Y, Y = B := ⟨_, rfl⟩
  obtain ⟨Z, hZ⟩ : ∃ Z, Z = f := ⟨_, rfl⟩
  have HG : Hid (GS X Y Z w.heap.size W) := by rw [hX, hY, hZ]; exact hG
  clear hG
  have Ckeeps : Hid (∀ wx, GS X Y Z w.heap.size wx → Calls Try.prog 9 #[X.v, Y.v, Z.v] wx fun e w' => KPost X Y Z e ∧ Below wx.heap.size wx w') := fun wx h => keeps_any X Y Z wx h.ia h.ib h.fi
  have Cback : Hid (∀ wx, GS X Y Z w.heap.size wx → Calls Try.prog 14 #[X.v, Y.v, Z.v] wx fun e w' => BPost X Y Z e w' ∧ Below wx.heap.size wx w') := fun wx h => back_any X Y Z wx h.ia h.ib h.fi
  have HE : Hid (X = A ∧ Y = B ∧ Z = f) := ⟨hX, hY, hZ⟩
  have HV : Hid (X.v = A.v ∧ Y.v = B.v ∧ Z.v = f.v) := by rw [hX, hY, hZ]; exact ⟨rfl, rfl, rfl⟩
  have HX : Hid (∀ wx, GS X Y Z w.heap.size wx → A.Bx wx w.heap.size ∧ B.Bx wx (w.heap.size + 1)) := fun wx h => by
    have h1 := h.xa
    have h2 := h.xb
    rw [hX] at h1
    rw [hY] at h2
    exact ⟨h1, h2⟩
  rw [HV.out.1, HV.out.2.1, HV.out.2.2] at Ckeeps
  rw [HV.out.1, HV.out.2.1, HV.out.2.2] at Cback
  clear hX hY hZ hA hB hf HV
  obtain ⟨n, a, la, ca, SA, FA, b, lb, cb, SB, FB⟩ := A
  obtain ⟨n', a', la', ca', SA', FA', b', lb', cb', SB', FB'⟩ := B
  obtain ⟨fa, fl, fc, F⟩ := f
  simp only [LA.v, MA.v, LA.Bx] at *
  obtain ⟨⟨l0, l1, l2⟩, k0, k1, k2⟩ := HX.out _ HG.out
  go_enter Try.func6, Try.ntmps6
  go_wp2_with fail
  rw [← eW.out]
  go_wp2_with fail
  clear eW
  refine (galoisBegun_any _).mono ?_
  rintro e w0 ⟨rfl, hb0⟩
  have HB0 : Hid (Below w.heap.size w w0) := Below.then HB1.out hb0
  have HG0 : Hid (GS X Y Z w.heap.size w0) := HG.out.step hb0
  clear hb0 HG HB1 l0 l1 l2 k0 k1 k2
  obtain ⟨⟨l0, l1, l2⟩, k0, k1, k2⟩ := HX.out _ HG0.out
  go_wp2_with fail

  refine (Ckeeps.out _ HG0.out).mono ?_
  rintro e w1 ⟨⟨c, v, hc, rfl, hv⟩, hb1⟩
  have HB2 : Hid (Below w.heap.size w w1) := Below.then HB0.out hb1
  have HG1 : Hid (GS X Y Z w.heap.size w1) := HG0.out.step hb1
  have HC : Hid (GCk X Y Z c) := hc
  have HV : Hid ((c ≠ 0 ∧ v = false) ∨ (c = 0 ∧ (v = true ↔ KeepL X Y Z))) := hv
  clear hb1 HG0 HB0 l0 l1 l2 k0 k1 k2 hc hv Ckeeps
  obtain ⟨⟨l0, l1, l2⟩, k0, k1, k2⟩ := HX.out _ HG1.out
  go_wp2_with fail
  refine (Cback.out _ HG1.out).mono ?_
  rintro e w2 ⟨⟨c', gv, ok, hc', rfl, hg⟩, hb2⟩
  obtain rfl := hc'.one HC.out
  have HB3 : Hid (Below w.heap.size w w2) := Below.then HB2.out hb2
  have HG2 : Hid (GS X Y Z w.heap.size w2) := HG1.out.step hb2
  clear hb2 HG1 HB2 l0 l1 l2 k0 k1 k2 hc' Cback
  by_cases h0 : c' = 0
  · subst h0
    have hv2 : v = true ↔ KeepL X Y Z := by
      rcases HV.out with ⟨h, _⟩ | ⟨_, h⟩
      · exact absurd rfl h
      · exact h
    have hg2 : (ok = false ∧ gv = .slice none 0 0 ∧ ¬ KeepL X Y Z) ∨ (ok = true ∧ KeepL X Y Z ∧ NSl w2 gv (bkL X Y Z)) := by
      rcases hg with ⟨h, _⟩ | ⟨_, h⟩
      · exact absurd rfl h
      · exact h
    clear hg HV
    rcases hg2 with ⟨rfl, rfl, hk⟩ | ⟨rfl, hk, hs⟩
    · obtain rfl : v = false := by
        rcases v with _ | _
        · rfl
        · exact absurd (hv2.1 rfl) hk
      clear hv2 hk
      go_wp2_with fail
      go_ret
      exact ⟨rfl, HB3.out⟩
    · obtain rfl : v = true := hv2.2 hk
      obtain ⟨q, b1, o1, b2, o2, q', b1', o1', b2', o2', fb, fo, eA, eB, eF, h1, h40, h1', h40', eq, eq', ht1, ht1', hr⟩ := HG2.out.open HC.out
      obtain ⟨hEX, hEY, hEZ⟩ := HE.out
      rw [eA] at hEX
      rw [eB] at hEY
      rw [eF] at hEZ
      simp only [LA.mk.injEq] at hEX hEY
      simp only [MA.mk.injEq] at hEZ
      obtain ⟨rfl, rfl, rfl, _, _, _, rfl, rfl, _, _, _⟩ := hEX
      obtain ⟨rfl, rfl, rfl, _, _, _, rfl, rfl, _, _, _⟩ := hEY
      obtain ⟨rfl, rfl, _, _⟩ := hEZ
      obtain ⟨gb, go, gc, rfl, hgc⟩ := hs.cells (by rw [bkL_len]; omega)
      rw [bkL_len, ← eq'] at hgc
      rw [bkL_len, ← eq']
      obtain ⟨g, Hg⟩ : ∃ g, Hid (g = bk X.q X.m X.j Y.m Z.f) := ⟨_, rfl⟩
      have gg := HC.out.gg.1
      have HGL : Hid (∀ y, g y < q) := fun y => by rw [Hg.out, eq]; exact bk_lt gg.la gg.a1 y
      have HFL : Hid (Mp q q' Z.f) := by rw [eq, eq']; exact gg.mp
      have HIF : Hid (∀ x y, x < q → y < q' → (Y.m (Z.f x) y = Z.f x ↔ X.m x (g y) = x)) := fun x y hx hy => by
        rw [Hg.out]; exact bk_iff gg.la gg.a1 gg.lb gg.b1 gg.mp hk (by omega) (by omega)
      obtain ⟨W4, eW4⟩ : ∃ W4, W4 = w2 := ⟨_, rfl⟩
      rw [← eW4] at hgc ht1 ht1' hr
      have HGC : Hid (∀ wx, Below W4.heap.size W4 wx → ∀ y, y < q' → wx.cell? ⟨gb, go + y, none⟩ = some (.int .i64 (g y : Nat))) := fun wx hx y hy => by
        rw [hgc wx hx y hy, bkL_at _ _ _ (by omega), Hg.out]
      have HT1 : Hid (∀ wx, Below W4.heap.size W4 wx → Tb wx b1 o1 q (fun x => rAt (X.SA x)) X.m) := ht1
      have HT1' : Hid (∀ wx, Below W4.heap.size W4 wx → Tb wx b1' o1' q' (fun x => rAt (Y.SA x)) Y.m) := ht1'
      have HR : Hid (∀ wx, Below W4.heap.size W4 wx → ∀ k, k < q → wx.cell? ⟨fb, fo + k, none⟩ = some (.int .i64 (Z.f k : Nat))) := hr
      have HLL : Hid (∀ wx, Below W4.heap.size W4 wx → LB wx w.heap.size (q : Nat) (some ⟨b1, o1, none⟩) q ca (some ⟨b2, o2, none⟩) q cb ∧ LB wx (w.heap.size + 1) (q' : Nat) (some ⟨b1', o1', none⟩) q' ca' (some ⟨b2', o2', none⟩) q' cb') := fun wx hx => HX.out wx (HG2.out.step (by rw [← eW4]; exact hx))
      rw [← eW4] at HB3 ⊢
      obtain ⟨⟨l0, l1, l2⟩, k0, k1, k2⟩ := HLL.out _ (Below.refl _ _)
      clear hv2 hk hs hgc ht1 ht1' hr gg Hg HG2 HX HE eA eB eF eq eq' HC eW4
      go_wp2_with fail
      clear l0 l1 l2 k0 k1 k2
      go_loopw [12] (fun i wx => ∃ x : Nat, x ≤ q ∧ i = .int .i64 x ∧ Hid (Below W4.heap.size W4 wx)) (fun i _ => q - (intOf i).toNat)
      case atStart => exact ⟨0, Nat.zero_le _, rfl, Below.refl _ _⟩
      case round =>
        obtain ⟨x, hx, rfl, HW⟩ := hrel
        obtain ⟨⟨l0, l1, l2⟩, k0, k1, k2⟩ := HLL.out _ HW.out
        by_cases hxl : x < q
        · go_wp2_with fail
          clear l0 l1 l2 k0 k1 k2
          go_loopw [13] (fun i wx => ∃ y : Nat, y ≤ q' ∧ i = .int .i64 y ∧ Hid (Below W4.heap.size W4 wx)) (fun i _ => q' - (intOf i).toNat)
          case atStart => exact ⟨0, Nat.zero_le _, rfl, HW⟩
          case round =>
            clear HW
            obtain ⟨y, hy, rfl, HW⟩ := hrel
            obtain ⟨⟨l0, l1, l2⟩, k0, k1, k2⟩ := HLL.out _ HW.out
            by_cases hyl : y < q'
            · have hgy := HGL.out y
              have hfx := HFL.out x hxl
              obtain ⟨v1, hv1⟩ : ∃ v, (Y.m (Z.f x) y == Z.f x) = v := ⟨_, rfl⟩
              have hv2 : (X.m x (g y) == x) = v1 := by
                rw [← hv1, Bool.eq_iff_iff, beq_iff_eq, beq_iff_eq]
                exact (HIF.out x y hxl hyl).symm
              have KX : Hid (Below W4.heap.size W4 wr) := HW.out
              have KK : Below W4.heap.size W4 wr.drew := HW.out.drew
              have i1 : (x : Int) < (q : Int) := by omega
              have i2 : (y : Int) < (q' : Int) := by omega
              have i3 : ((g y : Nat) : Int) < (q : Int) := by omega
              have i4 : ((Z.f x : Nat) : Int) < (q' : Int) := by omega
              have i5 : decide (((g y : Nat) : Int) < 0) = false := by simp
              have i6 : decide ((q : Int) ≤ ((g y : Nat) : Int)) = false := by simp; omega
              have a0 : ∀ w', Below W4.heap.size W4 w' → w'.cell? ⟨w.heap.size, 0, none⟩ = some (.int .i64 (q : Nat)) := fun w' h => (HLL.out w' h).1.1
              have a1 : ∀ w', Below W4.heap.size W4 w' → w'.cell? ⟨w.heap.size, 1, none⟩ = some (.slice (some ⟨b1, o1, none⟩) q ca) := fun w' h => (HLL.out w' h).1.2.1
              have a2 : ∀ w', Below W4.heap.size W4 w' → w'.cell? ⟨w.heap.size, 2, none⟩ = some (.slice (some ⟨b2, o2, none⟩) q cb) := fun w' h => (HLL.out w' h).1.2.2
              have c0 : ∀ w', Below W4.heap.size W4 w' → w'.cell? ⟨w.heap.size + 1, 0, none⟩ = some (.int .i64 (q' : Nat)) := fun w' h => (HLL.out w' h).2.1
              have c1 : ∀ w', Below W4.heap.size W4 w' → w'.cell? ⟨w.heap.size + 1, 1, none⟩ = some (.slice (some ⟨b1', o1', none⟩) q' ca') := fun w' h => (HLL.out w' h).2.2.1
              have c2 : ∀ w', Below W4.heap.size W4 w' → w'.cell? ⟨w.heap.size + 1, 2, none⟩ = some (.slice (some ⟨b2', o2', none⟩) q' cb') := fun w' h => (HLL.out w' h).2.2.2
              have d0 : ∀ w', Below W4.heap.size W4 w' → w'.cell? ⟨fb, fo + x, none⟩ = some (.int .i64 (Z.f x : Nat)) := fun w' h => HR.out w' h x hxl
              have d1 : ∀ w', Below W4.heap.size W4 w' → w'.cell? ⟨gb, go + y, none⟩ = some (.int .i64 (g y : Nat)) := fun w' h => HGC.out w' h y hyl
              rcases v1 with _ | _
              · go_wp2_with fail
                clear l0 l1 l2 k0 k1 k2 HW
                refine wp_region_held_drew (S := (fun w' => Below W4.heap.size W4 w')) (by kernel_rfl) (KK) (fun hHeld => ?_)
                refine wpAnyH_take (i := 0) (oi := { dst := some 71, op := Go.Op.move (Go.Operand.tmp 9), type := 25, pos := "fix.go:269", after := #[], guard := none }) (v := ?_) rfl (by kernel_rfl) (by kernel_rfl) (by kernel_rfl) (fun _ _ _ h => h) (Or.inl ⟨by rfl, ?hy⟩) (by assumption) ?_
                case hy => (intro w9 hSw; (try dsimp only at hSw); go_simp; try with_reducible rfl)
                try simp only [Act.put, List.setIfInBounds_toArray, List.set_cons_zero, List.set_cons_succ]
                refine wpAnyH_take (i := 1) (oi := { dst := some 72, op := Go.Op.move (Go.Operand.tmp 13), type := 3, pos := "fix.go:269", after := #[], guard := none }) (v := ?_) rfl (by kernel_rfl) (by kernel_rfl) (by kernel_rfl) (fun _ _ _ h => h) (Or.inl ⟨by rfl, ?hy⟩) (by assumption) ?_
                case hy => (intro w9 hSw; (try dsimp only at hSw); go_simp; try with_reducible rfl)
                try simp only [Act.put, List.setIfInBounds_toArray, List.set_cons_zero, List.set_cons_succ]
                refine wpAnyH_take (i := 2) (oi := { dst := some 73, op := Go.Op.indexAddr 25 (Go.Operand.tmp 71) (Go.Operand.tmp 72), type := 0, pos := "fix.go:269", after := #[{ on := 0, ground := Go.Ground.data }, { on := 1, ground := Go.Ground.data }], guard := none }) (v := ?_) rfl (by kernel_rfl) (by kernel_rfl) (by kernel_rfl) (fun _ _ _ h => h) (Or.inl ⟨by rfl, ?hy⟩) (by assumption) ?_
                case hy => (intro w9 hSw; (try dsimp only at hSw); go_simp; try with_reducible rfl)
                try simp only [Act.put, List.setIfInBounds_toArray, List.set_cons_zero, List.set_cons_succ]
                refine wpAnyH_take (i := 3) (oi := { dst := some 74, op := Go.Op.load 3 (Go.Operand.tmp 73), type := 3, pos := "fix.go:269", after := #[{ on := 2, ground := Go.Ground.data }], guard := none }) (v := ?_) rfl (by kernel_rfl) (by kernel_rfl) (by kernel_rfl) (fun _ _ _ h => h) (Or.inl ⟨by rfl, ?hy⟩) (by assumption) ?_
                case hy => (intro w9 hSw; (try dsimp only at hSw); go_simp; try with_reducible rfl)
                try simp only [Act.put, List.setIfInBounds_toArray, List.set_cons_zero, List.set_cons_succ]
                refine wpAnyH_take (i := 4) (oi := { dst := some 75, op := Go.Op.binOp Go.BinOp.lss 3 (Go.Operand.tmp 74) (Go.Operand.const (Go.Value.int Go.IntKind.i64 0)) 3, type := 4, pos := "fix.go:269", after := #[{ on := 3, ground := Go.Ground.data }], guard := none }) (v := (.bool false)) rfl (by kernel_rfl) (by kernel_rfl) (by kernel_rfl) (fun _ _ _ h => h) (Or.inl ⟨by rfl, ?hy⟩) (by assumption) ?_
                case hy => (intro w9 hSw; (try dsimp only at hSw); go_simp <;> (first | with_reducible rfl | (simp; omega) | omega))
                try simp only [Act.put, List.setIfInBounds_toArray, List.set_cons_zero, List.set_cons_succ]
                refine wpAnyH_take (i := 5) (oi := { dst := some 76, op := Go.Op.move (Go.Operand.tmp 75), type := 4, pos := "fix.go:269", after := #[{ on := 4, ground := Go.Ground.data }], guard := none }) (v := ?_) rfl (by kernel_rfl) (by kernel_rfl) (by kernel_rfl) (fun _ _ _ h => h) (Or.inl ⟨by rfl, ?hy⟩) (by assumption) ?_
                case hy => (intro w9 hSw; (try dsimp only at hSw); go_simp; try with_reducible rfl)
                try simp only [Act.put, List.setIfInBounds_toArray, List.set_cons_zero, List.set_cons_succ]
                refine wpAnyH_take (i := 6) (oi := { dst := some 77, op := Go.Op.move (Go.Operand.tmp 9), type := 25, pos := "fix.go:269", after := #[{ on := 5, ground := Go.Ground.guard }], guard := some (5, false) }) (v := ?_) rfl (by kernel_rfl) (by kernel_rfl) (by kernel_rfl) (fun _ _ _ h => h) (Or.inl ⟨by rfl, ?hy⟩) (by assumption) ?_
                case hy => (intro w9 hSw; (try dsimp only at hSw); go_simp; try with_reducible rfl)
                try simp only [Act.put, List.setIfInBounds_toArray, List.set_cons_zero, List.set_cons_succ]
                refine wpAnyH_take (i := 7) (oi := { dst := some 78, op := Go.Op.move (Go.Operand.tmp 13), type := 3, pos := "fix.go:269", after := #[{ on := 5, ground := Go.Ground.guard }], guard := some (5, false) }) (v := ?_) rfl (by kernel_rfl) (by kernel_rfl) (by kernel_rfl) (fun _ _ _ h => h) (Or.inl ⟨by rfl, ?hy⟩) (by assumption) ?_
                case hy => (intro w9 hSw; (try dsimp only at hSw); go_simp; try with_reducible rfl)
                try simp only [Act.put, List.setIfInBounds_toArray, List.set_cons_zero, List.set_cons_succ]
                refine wpAnyH_take (i := 8) (oi := { dst := some 79, op := Go.Op.indexAddr 25 (Go.Operand.tmp 77) (Go.Operand.tmp 78), type := 0, pos := "fix.go:269", after := #[{ on := 6, ground := Go.Ground.data }, { on := 7, ground := Go.Ground.data }, { on := 5, ground := Go.Ground.guard }], guard := some (5, false) }) (v := ?_) rfl (by kernel_rfl) (by kernel_rfl) (by kernel_rfl) (fun _ _ _ h => h) (Or.inl ⟨by rfl, ?hy⟩) (by assumption) ?_
                case hy => (intro w9 hSw; (try dsimp only at hSw); go_simp; try with_reducible rfl)
                try simp only [Act.put, List.setIfInBounds_toArray, List.set_cons_zero, List.set_cons_succ]
                refine wpAnyH_take (i := 9) (oi := { dst := some 80, op := Go.Op.load 3 (Go.Operand.tmp 79), type := 3, pos := "fix.go:269", after := #[{ on := 8, ground := Go.Ground.data }, { on := 5, ground := Go.Ground.guard }], guard := some (5, false) }) (v := ?_) rfl (by kernel_rfl) (by kernel_rfl) (by kernel_rfl) (fun _ _ _ h => h) (Or.inl ⟨by rfl, ?hy⟩) (by assumption) ?_
                case hy => (intro w9 hSw; (try dsimp only at hSw); go_simp; try with_reducible rfl)
                try simp only [Act.put, List.setIfInBounds_toArray, List.set_cons_zero, List.set_cons_succ]
                refine wpAnyH_take (i := 10) (oi := { dst := some 81, op := Go.Op.fieldAddr 24 (Go.Operand.tmp 3) 0, type := 0, pos := "fix.go:269", after := #[{ on := 5, ground := Go.Ground.guard }], guard := some (5, false) }) (v := ?_) rfl (by kernel_rfl) (by kernel_rfl) (by kernel_rfl) (fun _ _ _ h => h) (Or.inl ⟨by rfl, ?hy⟩) (by assumption) ?_
                case hy => (intro w9 hSw; (try dsimp only at hSw); go_simp; try with_reducible rfl)
                try simp only [Act.put, List.setIfInBounds_toArray, List.set_cons_zero, List.set_cons_succ]
                refine wpAnyH_take (i := 11) (oi := { dst := some 82, op := Go.Op.load 3 (Go.Operand.tmp 81), type := 3, pos := "fix.go:269", after := #[{ on := 10, ground := Go.Ground.data }, { on := 5, ground := Go.Ground.guard }], guard := some (5, false) }) (v := ?_) rfl (by kernel_rfl) (by kernel_rfl) (by kernel_rfl) (fun _ _ _ h => h) (Or.inl ⟨by rfl, ?hy⟩) (by assumption) ?_
                case hy => (intro w9 hSw; (try dsimp only at hSw); go_simp; try with_reducible rfl)
                try simp only [Act.put, List.setIfInBounds_toArray, List.set_cons_zero, List.set_cons_succ]
                refine wpAnyH_take (i := 12) (oi := { dst := some 83, op := Go.Op.binOp Go.BinOp.geq 3 (Go.Operand.tmp 80) (Go.Operand.tmp 82) 3, type := 4, pos := "fix.go:269", after := #[{ on := 9, ground := Go.Ground.data }, { on := 11, ground := Go.Ground.data }, { on := 5, ground := Go.Ground.guard }], guard := some (5, false) }) (v := (.bool false)) rfl (by kernel_rfl) (by kernel_rfl) (by kernel_rfl) (fun _ _ _ h => h) (Or.inl ⟨by rfl, ?hy⟩) (by assumption) ?_
                case hy => (intro w9 hSw; (try dsimp only at hSw); go_simp <;> (first | with_reducible rfl | (simp; omega) | omega))
                try simp only [Act.put, List.setIfInBounds_toArray, List.set_cons_zero, List.set_cons_succ]
                refine wpAnyH_take (i := 13) (oi := { dst := some 84, op := Go.Op.pick (Go.Operand.tmp 76) (Go.Operand.const (Go.Value.bool true)) (Go.Operand.tmp 83), type := 4, pos := "fix.go:269", after := #[{ on := 5, ground := Go.Ground.data }, { on := 12, ground := Go.Ground.data }], guard := none }) (v := ?_) rfl (by kernel_rfl) (by kernel_rfl) (by kernel_rfl) (fun _ _ _ h => h) (Or.inl ⟨by rfl, ?hy⟩) (by assumption) ?_
                case hy => (intro w9 hSw; (try dsimp only at hSw); go_simp; try with_reducible rfl)
                try simp only [Act.put, List.setIfInBounds_toArray, List.set_cons_zero, List.set_cons_succ]
                refine wpAnyH_take (i := 14) (oi := { dst := some 85, op := Go.Op.move (Go.Operand.tmp 84), type := 4, pos := "fix.go:269", after := #[{ on := 13, ground := Go.Ground.data }, { on := 5, ground := Go.Ground.chain }], guard := none }) (v := ?_) rfl (by kernel_rfl) (by kernel_rfl) (by kernel_rfl) (fun _ _ _ h => h) (Or.inl ⟨by rfl, ?hy⟩) (by assumption) ?_
                case hy => (intro w9 hSw; (try dsimp only at hSw); go_simp; try with_reducible rfl)
                try simp only [Act.put, List.setIfInBounds_toArray, List.set_cons_zero, List.set_cons_succ]
                refine wpAnyH_take (i := 15) (oi := { dst := some 86, op := Go.Op.load 24 (Go.Operand.tmp 4), type := 24, pos := "fix.go:269", after := #[{ on := 14, ground := Go.Ground.guard }], guard := some (14, false) }) (v := ?_) rfl (by kernel_rfl) (by kernel_rfl) (by kernel_rfl) (fun _ _ _ h => h) (Or.inl ⟨by rfl, ?hy⟩) (by assumption) ?_
                case hy => (intro w9 hSw; (try dsimp only at hSw); go_simp; try with_reducible rfl)
                try simp only [Act.put, List.setIfInBounds_toArray, List.set_cons_zero, List.set_cons_succ]
                refine wpAnyH_take (i := 16) (oi := { dst := some 87, op := Go.Op.move (Go.Operand.tmp 2), type := 25, pos := "fix.go:269", after := #[{ on := 14, ground := Go.Ground.guard }], guard := some (14, false) }) (v := ?_) rfl (by kernel_rfl) (by kernel_rfl) (by kernel_rfl) (fun _ _ _ h => h) (Or.inl ⟨by rfl, ?hy⟩) (by assumption) ?_
                case hy => (intro w9 hSw; (try dsimp only at hSw); go_simp; try with_reducible rfl)
                try simp only [Act.put, List.setIfInBounds_toArray, List.set_cons_zero, List.set_cons_succ]
                refine wpAnyH_take (i := 17) (oi := { dst := some 88, op := Go.Op.move (Go.Operand.tmp 12), type := 3, pos := "fix.go:269", after := #[{ on := 14, ground := Go.Ground.guard }], guard := some (14, false) }) (v := ?_) rfl (by kernel_rfl) (by kernel_rfl) (by kernel_rfl) (fun _ _ _ h => h) (Or.inl ⟨by rfl, ?hy⟩) (by assumption) ?_
                case hy => (intro w9 hSw; (try dsimp only at hSw); go_simp; try with_reducible rfl)
                try simp only [Act.put, List.setIfInBounds_toArray, List.set_cons_zero, List.set_cons_succ]
                refine wpAnyH_take (i := 18) (oi := { dst := some 89, op := Go.Op.indexAddr 25 (Go.Operand.tmp 87) (Go.Operand.tmp 88), type := 0, pos := "fix.go:269", after := #[{ on := 16, ground := Go.Ground.data }, { on := 17, ground := Go.Ground.data }, { on := 14, ground := Go.Ground.guard }], guard := some (14, false) }) (v := ?_) rfl (by kernel_rfl) (by kernel_rfl) (by kernel_rfl) (fun _ _ _ h => h) (Or.inl ⟨by rfl, ?hy⟩) (by assumption) ?_
                case hy => (intro w9 hSw; (try dsimp only at hSw); go_simp; try with_reducible rfl)
                try simp only [Act.put, List.setIfInBounds_toArray, List.set_cons_zero, List.set_cons_succ]
                refine wpAnyH_take (i := 19) (oi := { dst := some 90, op := Go.Op.load 3 (Go.Operand.tmp 89), type := 3, pos := "fix.go:269", after := #[{ on := 18, ground := Go.Ground.data }, { on := 14, ground := Go.Ground.guard }], guard := some (14, false) }) (v := ?_) rfl (by kernel_rfl) (by kernel_rfl) (by kernel_rfl) (fun _ _ _ h => h) (Or.inl ⟨by rfl, ?hy⟩) (by assumption) ?_
                case hy => (intro w9 hSw; (try dsimp only at hSw); go_simp; try with_reducible rfl)
                try simp only [Act.put, List.setIfInBounds_toArray, List.set_cons_zero, List.set_cons_succ]
                refine wpAnyH_take (i := 20) (oi := { dst := some 91, op := Go.Op.move (Go.Operand.tmp 13), type := 3, pos := "fix.go:269", after := #[{ on := 14, ground := Go.Ground.guard }], guard := some (14, false) }) (v := ?_) rfl (by kernel_rfl) (by kernel_rfl) (by kernel_rfl) (fun _ _ _ h => h) (Or.inl ⟨by rfl, ?hy⟩) (by assumption) ?_
                case hy => (intro w9 hSw; (try dsimp only at hSw); go_simp; try with_reducible rfl)
                try simp only [Act.put, List.setIfInBounds_toArray, List.set_cons_zero, List.set_cons_succ]
                refine wpAnyH_take (i := 22) (oi := { dst := some 93, op := Go.Op.load 24 (Go.Operand.tmp 3), type := 24, pos := "fix.go:269", after := #[{ on := 14, ground := Go.Ground.guard }], guard := some (14, false) }) (v := ?_) rfl (by kernel_rfl) (by kernel_rfl) (by kernel_rfl) (fun _ _ _ h => h) (Or.inl ⟨by rfl, ?hy⟩) (by assumption) ?_
                case hy => (intro w9 hSw; (try dsimp only at hSw); go_simp; try with_reducible rfl)
                try simp only [Act.put, List.setIfInBounds_toArray, List.set_cons_zero, List.set_cons_succ]
                refine wpAnyH_take (i := 23) (oi := { dst := some 94, op := Go.Op.move (Go.Operand.tmp 12), type := 3, pos := "fix.go:269", after := #[{ on := 14, ground := Go.Ground.guard }], guard := some (14, false) }) (v := ?_) rfl (by kernel_rfl) (by kernel_rfl) (by kernel_rfl) (fun _ _ _ h => h) (Or.inl ⟨by rfl, ?hy⟩) (by assumption) ?_
                case hy => (intro w9 hSw; (try dsimp only at hSw); go_simp; try with_reducible rfl)
                try simp only [Act.put, List.setIfInBounds_toArray, List.set_cons_zero, List.set_cons_succ]
                refine wpAnyH_take (i := 24) (oi := { dst := some 95, op := Go.Op.move (Go.Operand.tmp 9), type := 25, pos := "fix.go:269", after := #[{ on := 14, ground := Go.Ground.guard }], guard := some (14, false) }) (v := ?_) rfl (by kernel_rfl) (by kernel_rfl) (by kernel_rfl) (fun _ _ _ h => h) (Or.inl ⟨by rfl, ?hy⟩) (by assumption) ?_
                case hy => (intro w9 hSw; (try dsimp only at hSw); go_simp; try with_reducible rfl)
                try simp only [Act.put, List.setIfInBounds_toArray, List.set_cons_zero, List.set_cons_succ]
                refine wpAnyH_take (i := 25) (oi := { dst := some 96, op := Go.Op.move (Go.Operand.tmp 13), type := 3, pos := "fix.go:269", after := #[{ on := 14, ground := Go.Ground.guard }], guard := some (14, false) }) (v := ?_) rfl (by kernel_rfl) (by kernel_rfl) (by kernel_rfl) (fun _ _ _ h => h) (Or.inl ⟨by rfl, ?hy⟩) (by assumption) ?_
                case hy => (intro w9 hSw; (try dsimp only at hSw); go_simp; try with_reducible rfl)
                try simp only [Act.put, List.setIfInBounds_toArray, List.set_cons_zero, List.set_cons_succ]
                refine wpAnyH_take (i := 26) (oi := { dst := some 97, op := Go.Op.indexAddr 25 (Go.Operand.tmp 95) (Go.Operand.tmp 96), type := 0, pos := "fix.go:269", after := #[{ on := 24, ground := Go.Ground.data }, { on := 25, ground := Go.Ground.data }, { on := 14, ground := Go.Ground.guard }], guard := some (14, false) }) (v := ?_) rfl (by kernel_rfl) (by kernel_rfl) (by kernel_rfl) (fun _ _ _ h => h) (Or.inl ⟨by rfl, ?hy⟩) (by assumption) ?_
                case hy => (intro w9 hSw; (try dsimp only at hSw); go_simp; try with_reducible rfl)
                try simp only [Act.put, List.setIfInBounds_toArray, List.set_cons_zero, List.set_cons_succ]
                refine wpAnyH_take (i := 27) (oi := { dst := some 98, op := Go.Op.load 3 (Go.Operand.tmp 97), type := 3, pos := "fix.go:269", after := #[{ on := 26, ground := Go.Ground.data }, { on := 14, ground := Go.Ground.guard }], guard := some (14, false) }) (v := ?_) rfl (by kernel_rfl) (by kernel_rfl) (by kernel_rfl) (fun _ _ _ h => h) (Or.inl ⟨by rfl, ?hy⟩) (by assumption) ?_
                case hy => (intro w9 hSw; (try dsimp only at hSw); go_simp; try with_reducible rfl)
                try simp only [Act.put, List.setIfInBounds_toArray, List.set_cons_zero, List.set_cons_succ]
                refine wpAnyH_ready (rs := [21]) (by kernel_rfl) (by simp) ?_
                refine AllReadyH.cons (o := { dst := some 92, op := Go.Op.call { callee := Go.Callee.value (Go.Operand.func 18), args := #[Go.Operand.tmp 86, Go.Operand.tmp 90, Go.Operand.tmp 91], argTypes := #[24, 3, 3] }, type := 4, pos := "fix.go:269", after := #[{ on := 15, ground := Go.Ground.data }, { on := 19, ground := Go.Ground.data }, { on := 20, ground := Go.Ground.data }, { on := 14, ground := Go.Ground.chain }, { on := 14, ground := Go.Ground.guard }], guard := some (14, false) }) rfl (fun K hK => ?_) AllReadyH.nil
                go_simp
                refine (under_as q' b1' o1' ca' _ q' cb' _ Y.m (Z.f x) y _ _ hv1 (HT1'.out _ (by assumption)) hfx hyl).mono ?_
                rintro e w8 ⟨rfl, hb8⟩
                refine hK.out _ _ ?_ (fun hHeld => ?_)
                · first | assumption | exact Below.then (by assumption) (by assumption)
                clear hK K
                try simp only [Act.put, List.setIfInBounds_toArray, List.set_cons_zero, List.set_cons_succ]
                refine wpAnyH_ready (rs := [28]) (by kernel_rfl) (by simp) ?_
                refine AllReadyH.cons (o := { dst := some 99, op := Go.Op.call { callee := Go.Callee.value (Go.Operand.func 18), args := #[Go.Operand.tmp 93, Go.Operand.tmp 94, Go.Operand.tmp 98], argTypes := #[24, 3, 3] }, type := 4, pos := "fix.go:269", after := #[{ on := 22, ground := Go.Ground.data }, { on := 23, ground := Go.Ground.data }, { on := 27, ground := Go.Ground.data }, { on := 21, ground := Go.Ground.chain }, { on := 14, ground := Go.Ground.guard }], guard := some (14, false) }) rfl (fun K hK => ?_) AllReadyH.nil
                go_simp
                refine (under_as q b1 o1 ca _ q cb _ X.m x (g y) _ _ hv2 (HT1.out _ (by assumption)) hxl hgy).mono ?_
                rintro e w9 ⟨rfl, hb9⟩
                refine hK.out _ _ ?_ (fun hHeld => ?_)
                · first | assumption | exact Below.then (by assumption) (by assumption)
                clear hK K
                try simp only [Act.put, List.setIfInBounds_toArray, List.set_cons_zero, List.set_cons_succ]
                refine wpAnyH_take (i := 29) (oi := { dst := some 100, op := Go.Op.binOp Go.BinOp.neq 4 (Go.Operand.tmp 92) (Go.Operand.tmp 99) 4, type := 4, pos := "fix.go:269", after := #[{ on := 21, ground := Go.Ground.data }, { on := 28, ground := Go.Ground.data }, { on := 14, ground := Go.Ground.guard }], guard := some (14, false) }) (v := ?_) rfl (by kernel_rfl) (by kernel_rfl) (by kernel_rfl) (fun _ _ _ h => h) (Or.inl ⟨by rfl, ?hy⟩) (by assumption) ?_
                case hy => (intro w9 hSw; (try dsimp only at hSw); go_simp; try with_reducible rfl)
                try simp only [Act.put, List.setIfInBounds_toArray, List.set_cons_zero, List.set_cons_succ]
                refine wpAnyH_take (i := 30) (oi := { dst := some 101, op := Go.Op.pick (Go.Operand.tmp 85) (Go.Operand.const (Go.Value.bool true)) (Go.Operand.tmp 100), type := 4, pos := "fix.go:269", after := #[{ on := 14, ground := Go.Ground.data }, { on := 29, ground := Go.Ground.data }], guard := none }) (v := ?_) rfl (by kernel_rfl) (by kernel_rfl) (by kernel_rfl) (fun _ _ _ h => h) (Or.inl ⟨by rfl, ?hy⟩) (by assumption) ?_
                case hy => (intro w9 hSw; (try dsimp only at hSw); go_simp; try with_reducible rfl)
                try simp only [Act.put, List.setIfInBounds_toArray, List.set_cons_zero, List.set_cons_succ]
                refine wpAnyH_done (by kernel_rfl) ?_ _
                try simp only [Act.put, List.setIfInBounds_toArray, List.set_cons_zero, List.set_cons_succ]
                go_wp2_with fail
                go_roundw
                case rel => exact ⟨y + 1, by omega, by go_num, by first | assumption | exact hHeld⟩
                case measure => simp [intOf]; omega
              · go_wp2_with fail
                clear l0 l1 l2 k0 k1 k2 HW
                refine wp_region_held_drew (S := (fun w' => Below W4.heap.size W4 w')) (by kernel_rfl) (KK) (fun hHeld => ?_)
                refine wpAnyH_take (i := 0) (oi := { dst := some 71, op := Go.Op.move (Go.Operand.tmp 9), type := 25, pos := "fix.go:269", after := #[], guard := none }) (v := ?_) rfl (by kernel_rfl) (by kernel_rfl) (by kernel_rfl) (fun _ _ _ h => h) (Or.inl ⟨by rfl, ?hy⟩) (by assumption) ?_
                case hy => (intro w9 hSw; (try dsimp only at hSw); go_simp; try with_reducible rfl)
                try simp only [Act.put, List.setIfInBounds_toArray, List.set_cons_zero, List.set_cons_succ]
                refine wpAnyH_take (i := 1) (oi := { dst := some 72, op := Go.Op.move (Go.Operand.tmp 13), type := 3, pos := "fix.go:269", after := #[], guard := none }) (v := ?_) rfl (by kernel_rfl) (by kernel_rfl) (by kernel_rfl) (fun _ _ _ h => h) (Or.inl ⟨by rfl, ?hy⟩) (by assumption) ?_
                case hy => (intro w9 hSw; (try dsimp only at hSw); go_simp; try with_reducible rfl)
                try simp only [Act.put, List.setIfInBounds_toArray, List.set_cons_zero, List.set_cons_succ]
                refine wpAnyH_take (i := 2) (oi := { dst := some 73, op := Go.Op.indexAddr 25 (Go.Operand.tmp 71) (Go.Operand.tmp 72), type := 0, pos := "fix.go:269", after := #[{ on := 0, ground := Go.Ground.data }, { on := 1, ground := Go.Ground.data }], guard := none }) (v := ?_) rfl (by kernel_rfl) (by kernel_rfl) (by kernel_rfl) (fun _ _ _ h => h) (Or.inl ⟨by rfl, ?hy⟩) (by assumption) ?_
                case hy => (intro w9 hSw; (try dsimp only at hSw); go_simp; try with_reducible rfl)
                try simp only [Act.put, List.setIfInBounds_toArray, List.set_cons_zero, List.set_cons_succ]
                refine wpAnyH_take (i := 3) (oi := { dst := some 74, op := Go.Op.load 3 (Go.Operand.tmp 73), type := 3, pos := "fix.go:269", after := #[{ on := 2, ground := Go.Ground.data }], guard := none }) (v := ?_) rfl (by kernel_rfl) (by kernel_rfl) (by kernel_rfl) (fun _ _ _ h => h) (Or.inl ⟨by rfl, ?hy⟩) (by assumption) ?_
                case hy => (intro w9 hSw; (try dsimp only at hSw); go_simp; try with_reducible rfl)
                try simp only [Act.put, List.setIfInBounds_toArray, List.set_cons_zero, List.set_cons_succ]
                refine wpAnyH_take (i := 4) (oi := { dst := some 75, op := Go.Op.binOp Go.BinOp.lss 3 (Go.Operand.tmp 74) (Go.Operand.const (Go.Value.int Go.IntKind.i64 0)) 3, type := 4, pos := "fix.go:269", after := #[{ on := 3, ground := Go.Ground.data }], guard := none }) (v := (.bool false)) rfl (by kernel_rfl) (by kernel_rfl) (by kernel_rfl) (fun _ _ _ h => h) (Or.inl ⟨by rfl, ?hy⟩) (by assumption) ?_
                case hy => (intro w9 hSw; (try dsimp only at hSw); go_simp <;> (first | with_reducible rfl | (simp; omega) | omega))
                try simp only [Act.put, List.setIfInBounds_toArray, List.set_cons_zero, List.set_cons_succ]
                refine wpAnyH_take (i := 5) (oi := { dst := some 76, op := Go.Op.move (Go.Operand.tmp 75), type := 4, pos := "fix.go:269", after := #[{ on := 4, ground := Go.Ground.data }], guard := none }) (v := ?_) rfl (by kernel_rfl) (by kernel_rfl) (by kernel_rfl) (fun _ _ _ h => h) (Or.inl ⟨by rfl, ?hy⟩) (by assumption) ?_
                case hy => (intro w9 hSw; (try dsimp only at hSw); go_simp; try with_reducible rfl)
                try simp only [Act.put, List.setIfInBounds_toArray, List.set_cons_zero, List.set_cons_succ]
                refine wpAnyH_take (i := 6) (oi := { dst := some 77, op := Go.Op.move (Go.Operand.tmp 9), type := 25, pos := "fix.go:269", after := #[{ on := 5, ground := Go.Ground.guard }], guard := some (5, false) }) (v := ?_) rfl (by kernel_rfl) (by kernel_rfl) (by kernel_rfl) (fun _ _ _ h => h) (Or.inl ⟨by rfl, ?hy⟩) (by assumption) ?_
                case hy => (intro w9 hSw; (try dsimp only at hSw); go_simp; try with_reducible rfl)
                try simp only [Act.put, List.setIfInBounds_toArray, List.set_cons_zero, List.set_cons_succ]
                refine wpAnyH_take (i := 7) (oi := { dst := some 78, op := Go.Op.move (Go.Operand.tmp 13), type := 3, pos := "fix.go:269", after := #[{ on := 5, ground := Go.Ground.guard }], guard := some (5, false) }) (v := ?_) rfl (by kernel_rfl) (by kernel_rfl) (by kernel_rfl) (fun _ _ _ h => h) (Or.inl ⟨by rfl, ?hy⟩) (by assumption) ?_
                case hy => (intro w9 hSw; (try dsimp only at hSw); go_simp; try with_reducible rfl)
                try simp only [Act.put, List.setIfInBounds_toArray, List.set_cons_zero, List.set_cons_succ]
                refine wpAnyH_take (i := 8) (oi := { dst := some 79, op := Go.Op.indexAddr 25 (Go.Operand.tmp 77) (Go.Operand.tmp 78), type := 0, pos := "fix.go:269", after := #[{ on := 6, ground := Go.Ground.data }, { on := 7, ground := Go.Ground.data }, { on := 5, ground := Go.Ground.guard }], guard := some (5, false) }) (v := ?_) rfl (by kernel_rfl) (by kernel_rfl) (by kernel_rfl) (fun _ _ _ h => h) (Or.inl ⟨by rfl, ?hy⟩) (by assumption) ?_
                case hy => (intro w9 hSw; (try dsimp only at hSw); go_simp; try with_reducible rfl)
                try simp only [Act.put, List.setIfInBounds_toArray, List.set_cons_zero, List.set_cons_succ]
                refine wpAnyH_take (i := 9) (oi := { dst := some 80, op := Go.Op.load 3 (Go.Operand.tmp 79), type := 3, pos := "fix.go:269", after := #[{ on := 8, ground := Go.Ground.data }, { on := 5, ground := Go.Ground.guard }], guard := some (5, false) }) (v := ?_) rfl (by kernel_rfl) (by kernel_rfl) (by kernel_rfl) (fun _ _ _ h => h) (Or.inl ⟨by rfl, ?hy⟩) (by assumption) ?_
                case hy => (intro w9 hSw; (try dsimp only at hSw); go_simp; try with_reducible rfl)
                try simp only [Act.put, List.setIfInBounds_toArray, List.set_cons_zero, List.set_cons_succ]
                refine wpAnyH_take (i := 10) (oi := { dst := some 81, op := Go.Op.fieldAddr 24 (Go.Operand.tmp 3) 0, type := 0, pos := "fix.go:269", after := #[{ on := 5, ground := Go.Ground.guard }], guard := some (5, false) }) (v := ?_) rfl (by kernel_rfl) (by kernel_rfl) (by kernel_rfl) (fun _ _ _ h => h) (Or.inl ⟨by rfl, ?hy⟩) (by assumption) ?_
                case hy => (intro w9 hSw; (try dsimp only at hSw); go_simp; try with_reducible rfl)
                try simp only [Act.put, List.setIfInBounds_toArray, List.set_cons_zero, List.set_cons_succ]
                refine wpAnyH_take (i := 11) (oi := { dst := some 82, op := Go.Op.load 3 (Go.Operand.tmp 81), type := 3, pos := "fix.go:269", after := #[{ on := 10, ground := Go.Ground.data }, { on := 5, ground := Go.Ground.guard }], guard := some (5, false) }) (v := ?_) rfl (by kernel_rfl) (by kernel_rfl) (by kernel_rfl) (fun _ _ _ h => h) (Or.inl ⟨by rfl, ?hy⟩) (by assumption) ?_
                case hy => (intro w9 hSw; (try dsimp only at hSw); go_simp; try with_reducible rfl)
                try simp only [Act.put, List.setIfInBounds_toArray, List.set_cons_zero, List.set_cons_succ]
                refine wpAnyH_take (i := 12) (oi := { dst := some 83, op := Go.Op.binOp Go.BinOp.geq 3 (Go.Operand.tmp 80) (Go.Operand.tmp 82) 3, type := 4, pos := "fix.go:269", after := #[{ on := 9, ground := Go.Ground.data }, { on := 11, ground := Go.Ground.data }, { on := 5, ground := Go.Ground.guard }], guard := some (5, false) }) (v := (.bool false)) rfl (by kernel_rfl) (by kernel_rfl) (by kernel_rfl) (fun _ _ _ h => h) (Or.inl ⟨by rfl, ?hy⟩) (by assumption) ?_
                case hy => (intro w9 hSw; (try dsimp only at hSw); go_simp <;> (first | with_reducible rfl | (simp; omega) | omega))
                try simp only [Act.put, List.setIfInBounds_toArray, List.set_cons_zero, List.set_cons_succ]
                refine wpAnyH_take (i := 13) (oi := { dst := some 84, op := Go.Op.pick (Go.Operand.tmp 76) (Go.Operand.const (Go.Value.bool true)) (Go.Operand.tmp 83), type := 4, pos := "fix.go:269", after := #[{ on := 5, ground := Go.Ground.data }, { on := 12, ground := Go.Ground.data }], guard := none }) (v := ?_) rfl (by kernel_rfl) (by kernel_rfl) (by kernel_rfl) (fun _ _ _ h => h) (Or.inl ⟨by rfl, ?hy⟩) (by assumption) ?_
                case hy => (intro w9 hSw; (try dsimp only at hSw); go_simp; try with_reducible rfl)
                try simp only [Act.put, List.setIfInBounds_toArray, List.set_cons_zero, List.set_cons_succ]
                refine wpAnyH_take (i := 14) (oi := { dst := some 85, op := Go.Op.move (Go.Operand.tmp 84), type := 4, pos := "fix.go:269", after := #[{ on := 13, ground := Go.Ground.data }, { on := 5, ground := Go.Ground.chain }], guard := none }) (v := ?_) rfl (by kernel_rfl) (by kernel_rfl) (by kernel_rfl) (fun _ _ _ h => h) (Or.inl ⟨by rfl, ?hy⟩) (by assumption) ?_
                case hy => (intro w9 hSw; (try dsimp only at hSw); go_simp; try with_reducible rfl)
                try simp only [Act.put, List.setIfInBounds_toArray, List.set_cons_zero, List.set_cons_succ]
                refine wpAnyH_take (i := 15) (oi := { dst := some 86, op := Go.Op.load 24 (Go.Operand.tmp 4), type := 24, pos := "fix.go:269", after := #[{ on := 14, ground := Go.Ground.guard }], guard := some (14, false) }) (v := ?_) rfl (by kernel_rfl) (by kernel_rfl) (by kernel_rfl) (fun _ _ _ h => h) (Or.inl ⟨by rfl, ?hy⟩) (by assumption) ?_
                case hy => (intro w9 hSw; (try dsimp only at hSw); go_simp; try with_reducible rfl)
                try simp only [Act.put, List.setIfInBounds_toArray, List.set_cons_zero, List.set_cons_succ]
                refine wpAnyH_take (i := 16) (oi := { dst := some 87, op := Go.Op.move (Go.Operand.tmp 2), type := 25, pos := "fix.go:269", after := #[{ on := 14, ground := Go.Ground.guard }], guard := some (14, false) }) (v := ?_) rfl (by kernel_rfl) (by kernel_rfl) (by kernel_rfl) (fun _ _ _ h => h) (Or.inl ⟨by rfl, ?hy⟩) (by assumption) ?_
                case hy => (intro w9 hSw; (try dsimp only at hSw); go_simp; try with_reducible rfl)
                try simp only [Act.put, List.setIfInBounds_toArray, List.set_cons_zero, List.set_cons_succ]
                refine wpAnyH_take (i := 17) (oi := { dst := some 88, op := Go.Op.move (Go.Operand.tmp 12), type := 3, pos := "fix.go:269", after := #[{ on := 14, ground := Go.Ground.guard }], guard := some (14, false) }) (v := ?_) rfl (by kernel_rfl) (by kernel_rfl) (by kernel_rfl) (fun _ _ _ h => h) (Or.inl ⟨by rfl, ?hy⟩) (by assumption) ?_
                case hy => (intro w9 hSw; (try dsimp only at hSw); go_simp; try with_reducible rfl)
                try simp only [Act.put, List.setIfInBounds_toArray, List.set_cons_zero, List.set_cons_succ]
                refine wpAnyH_take (i := 18) (oi := { dst := some 89, op := Go.Op.indexAddr 25 (Go.Operand.tmp 87) (Go.Operand.tmp 88), type := 0, pos := "fix.go:269", after := #[{ on := 16, ground := Go.Ground.data }, { on := 17, ground := Go.Ground.data }, { on := 14, ground := Go.Ground.guard }], guard := some (14, false) }) (v := ?_) rfl (by kernel_rfl) (by kernel_rfl) (by kernel_rfl) (fun _ _ _ h => h) (Or.inl ⟨by rfl, ?hy⟩) (by assumption) ?_
                case hy => (intro w9 hSw; (try dsimp only at hSw); go_simp; try with_reducible rfl)
                try simp only [Act.put, List.setIfInBounds_toArray, List.set_cons_zero, List.set_cons_succ]
                refine wpAnyH_take (i := 19) (oi := { dst := some 90, op := Go.Op.load 3 (Go.Operand.tmp 89), type := 3, pos := "fix.go:269", after := #[{ on := 18, ground := Go.Ground.data }, { on := 14, ground := Go.Ground.guard }], guard := some (14, false) }) (v := ?_) rfl (by kernel_rfl) (by kernel_rfl) (by kernel_rfl) (fun _ _ _ h => h) (Or.inl ⟨by rfl, ?hy⟩) (by assumption) ?_
                case hy => (intro w9 hSw; (try dsimp only at hSw); go_simp; try with_reducible rfl)
                try simp only [Act.put, List.setIfInBounds_toArray, List.set_cons_zero, List.set_cons_succ]
                refine wpAnyH_take (i := 20) (oi := { dst := some 91, op := Go.Op.move (Go.Operand.tmp 13), type := 3, pos := "fix.go:269", after := #[{ on := 14, ground := Go.Ground.guard }], guard := some (14, false) }) (v := ?_) rfl (by kernel_rfl) (by kernel_rfl) (by kernel_rfl) (fun _ _ _ h => h) (Or.inl ⟨by rfl, ?hy⟩) (by assumption) ?_
                case hy => (intro w9 hSw; (try dsimp only at hSw); go_simp; try with_reducible rfl)
                try simp only [Act.put, List.setIfInBounds_toArray, List.set_cons_zero, List.set_cons_succ]
                refine wpAnyH_take (i := 22) (oi := { dst := some 93, op := Go.Op.load 24 (Go.Operand.tmp 3), type := 24, pos := "fix.go:269", after := #[{ on := 14, ground := Go.Ground.guard }], guard := some (14, false) }) (v := ?_) rfl (by kernel_rfl) (by kernel_rfl) (by kernel_rfl) (fun _ _ _ h => h) (Or.inl ⟨by rfl, ?hy⟩) (by assumption) ?_
                case hy => (intro w9 hSw; (try dsimp only at hSw); go_simp; try with_reducible rfl)
                try simp only [Act.put, List.setIfInBounds_toArray, List.set_cons_zero, List.set_cons_succ]
                refine wpAnyH_take (i := 23) (oi := { dst := some 94, op := Go.Op.move (Go.Operand.tmp 12), type := 3, pos := "fix.go:269", after := #[{ on := 14, ground := Go.Ground.guard }], guard := some (14, false) }) (v := ?_) rfl (by kernel_rfl) (by kernel_rfl) (by kernel_rfl) (fun _ _ _ h => h) (Or.inl ⟨by rfl, ?hy⟩) (by assumption) ?_
                case hy => (intro w9 hSw; (try dsimp only at hSw); go_simp; try with_reducible rfl)
                try simp only [Act.put, List.setIfInBounds_toArray, List.set_cons_zero, List.set_cons_succ]
                refine wpAnyH_take (i := 24) (oi := { dst := some 95, op := Go.Op.move (Go.Operand.tmp 9), type := 25, pos := "fix.go:269", after := #[{ on := 14, ground := Go.Ground.guard }], guard := some (14, false) }) (v := ?_) rfl (by kernel_rfl) (by kernel_rfl) (by kernel_rfl) (fun _ _ _ h => h) (Or.inl ⟨by rfl, ?hy⟩) (by assumption) ?_
                case hy => (intro w9 hSw; (try dsimp only at hSw); go_simp; try with_reducible rfl)
                try simp only [Act.put, List.setIfInBounds_toArray, List.set_cons_zero, List.set_cons_succ]
                refine wpAnyH_take (i := 25) (oi := { dst := some 96, op := Go.Op.move (Go.Operand.tmp 13), type := 3, pos := "fix.go:269", after := #[{ on := 14, ground := Go.Ground.guard }], guard := some (14, false) }) (v := ?_) rfl (by kernel_rfl) (by kernel_rfl) (by kernel_rfl) (fun _ _ _ h => h) (Or.inl ⟨by rfl, ?hy⟩) (by assumption) ?_
                case hy => (intro w9 hSw; (try dsimp only at hSw); go_simp; try with_reducible rfl)
                try simp only [Act.put, List.setIfInBounds_toArray, List.set_cons_zero, List.set_cons_succ]
                refine wpAnyH_take (i := 26) (oi := { dst := some 97, op := Go.Op.indexAddr 25 (Go.Operand.tmp 95) (Go.Operand.tmp 96), type := 0, pos := "fix.go:269", after := #[{ on := 24, ground := Go.Ground.data }, { on := 25, ground := Go.Ground.data }, { on := 14, ground := Go.Ground.guard }], guard := some (14, false) }) (v := ?_) rfl (by kernel_rfl) (by kernel_rfl) (by kernel_rfl) (fun _ _ _ h => h) (Or.inl ⟨by rfl, ?hy⟩) (by assumption) ?_
                case hy => (intro w9 hSw; (try dsimp only at hSw); go_simp; try with_reducible rfl)
                try simp only [Act.put, List.setIfInBounds_toArray, List.set_cons_zero, List.set_cons_succ]
                refine wpAnyH_take (i := 27) (oi := { dst := some 98, op := Go.Op.load 3 (Go.Operand.tmp 97), type := 3, pos := "fix.go:269", after := #[{ on := 26, ground := Go.Ground.data }, { on := 14, ground := Go.Ground.guard }], guard := some (14, false) }) (v := ?_) rfl (by kernel_rfl) (by kernel_rfl) (by kernel_rfl) (fun _ _ _ h => h) (Or.inl ⟨by rfl, ?hy⟩) (by assumption) ?_
                case hy => (intro w9 hSw; (try dsimp only at hSw); go_simp; try with_reducible rfl)
                try simp only [Act.put, List.setIfInBounds_toArray, List.set_cons_zero, List.set_cons_succ]
                refine wpAnyH_ready (rs := [21]) (by kernel_rfl) (by simp) ?_
                refine AllReadyH.cons (o := { dst := some 92, op := Go.Op.call { callee := Go.Callee.value (Go.Operand.func 18), args := #[Go.Operand.tmp 86, Go.Operand.tmp 90, Go.Operand.tmp 91], argTypes := #[24, 3, 3] }, type := 4, pos := "fix.go:269", after := #[{ on := 15, ground := Go.Ground.data }, { on := 19, ground := Go.Ground.data }, { on := 20, ground := Go.Ground.data }, { on := 14, ground := Go.Ground.chain }, { on := 14, ground := Go.Ground.guard }], guard := some (14, false) }) rfl (fun K hK => ?_) AllReadyH.nil
                go_simp
                refine (under_as q' b1' o1' ca' _ q' cb' _ Y.m (Z.f x) y _ _ hv1 (HT1'.out _ (by assumption)) hfx hyl).mono ?_
                rintro e w8 ⟨rfl, hb8⟩
                refine hK.out _ _ ?_ (fun hHeld => ?_)
                · first | assumption | exact Below.then (by assumption) (by assumption)
                clear hK K
                try simp only [Act.put, List.setIfInBounds_toArray, List.set_cons_zero, List.set_cons_succ]
                refine wpAnyH_ready (rs := [28]) (by kernel_rfl) (by simp) ?_
                refine AllReadyH.cons (o := { dst := some 99, op := Go.Op.call { callee := Go.Callee.value (Go.Operand.func 18), args := #[Go.Operand.tmp 93, Go.Operand.tmp 94, Go.Operand.tmp 98], argTypes := #[24, 3, 3] }, type := 4, pos := "fix.go:269", after := #[{ on := 22, ground := Go.Ground.data }, { on := 23, ground := Go.Ground.data }, { on := 27, ground := Go.Ground.data }, { on := 21, ground := Go.Ground.chain }, { on := 14, ground := Go.Ground.guard }], guard := some (14, false) }) rfl (fun K hK => ?_) AllReadyH.nil
                go_simp
                refine (under_as q b1 o1 ca _ q cb _ X.m x (g y) _ _ hv2 (HT1.out _ (by assumption)) hxl hgy).mono ?_
                rintro e w9 ⟨rfl, hb9⟩
                refine hK.out _ _ ?_ (fun hHeld => ?_)
                · first | assumption | exact Below.then (by assumption) (by assumption)
                clear hK K
                try simp only [Act.put, List.setIfInBounds_toArray, List.set_cons_zero, List.set_cons_succ]
                refine wpAnyH_take (i := 29) (oi := { dst := some 100, op := Go.Op.binOp Go.BinOp.neq 4 (Go.Operand.tmp 92) (Go.Operand.tmp 99) 4, type := 4, pos := "fix.go:269", after := #[{ on := 21, ground := Go.Ground.data }, { on := 28, ground := Go.Ground.data }, { on := 14, ground := Go.Ground.guard }], guard := some (14, false) }) (v := ?_) rfl (by kernel_rfl) (by kernel_rfl) (by kernel_rfl) (fun _ _ _ h => h) (Or.inl ⟨by rfl, ?hy⟩) (by assumption) ?_
                case hy => (intro w9 hSw; (try dsimp only at hSw); go_simp; try with_reducible rfl)
                try simp only [Act.put, List.setIfInBounds_toArray, List.set_cons_zero, List.set_cons_succ]
                refine wpAnyH_take (i := 30) (oi := { dst := some 101, op := Go.Op.pick (Go.Operand.tmp 85) (Go.Operand.const (Go.Value.bool true)) (Go.Operand.tmp 100), type := 4, pos := "fix.go:269", after := #[{ on := 14, ground := Go.Ground.data }, { on := 29, ground := Go.Ground.data }], guard := none }) (v := ?_) rfl (by kernel_rfl) (by kernel_rfl) (by kernel_rfl) (fun _ _ _ h => h) (Or.inl ⟨by rfl, ?hy⟩) (by assumption) ?_
                case hy => (intro w9 hSw; (try dsimp only at hSw); go_simp; try with_reducible rfl)
                try simp only [Act.put, List.setIfInBounds_toArray, List.set_cons_zero, List.set_cons_succ]
                refine wpAnyH_done (by kernel_rfl) ?_ _
                try simp only [Act.put, List.setIfInBounds_toArray, List.set_cons_zero, List.set_cons_succ]
                go_wp2_with fail
                go_roundw
                case rel => exact ⟨y + 1, by omega, by go_num, by first | assumption | exact hHeld⟩
                case measure => simp [intOf]; omega
            · obtain rfl : y = q' := by omega
              go_wp2_with fail
              go_roundw
              case rel => exact ⟨x + 1, by omega, by go_num, HW⟩
              case measure => simp [intOf]; omega
        · obtain rfl : x = q := by omega
          go_wp2_with fail
          go_ret
          exact ⟨rfl, Below.then HB3.out HW.out⟩
  · have hne : (c' != 0) = true := by simpa using h0
    have hcc : (c' == c') = true := beq_self_eq_true _
    clear hg HV
    go_wp2_with fail
    go_ret
    exact ⟨rfl, HB3.out⟩
theorem galoisOre_any (n0 : Int) (a0 : Option Addr) (la0 ca0 : Nat) (SA0 : Nat → Option Addr × Nat × Nat) (FA0 : Nat → Nat → Int) (b0 : Option Addr) (lb0 cb0 : Nat) (SB0 : Nat → Option Addr × Nat × Nat) (FB0 : Nat → Nat → Int)
    (n1 : Int) (a1 : Option Addr) (la1 ca1 : Nat) (SA1 : Nat → Option Addr × Nat × Nat) (FA1 : Nat → Nat → Int) (b1 : Option Addr) (lb1 cb1 : Nat) (SB1 : Nat → Option Addr × Nat × Nat) (FB1 : Nat → Nat → Int) (a2 : Option Addr) (b2 c2 : Nat) (f2 : Nat → Int) (w : World)
    (hla0 : la0 ≤ maxLen) (hlb0 : lb0 ≤ maxLen) (hla1 : la1 ≤ maxLen) (hlb1 : lb1 ≤ maxLen) (hl2 : b2 ≤ maxLen) (hra0 : RR w a0 la0 SA0 FA0) (hrb0 : RR w b0 lb0 SB0 FB0) (hra1 : RR w a1 la1 SA1 FA1) (hrb1 : RR w b1 lb1 SB1 FB1) (hr2 : Row w a2 b2 f2) :
    Calls Try.prog 6 #[.agg #[.int .i64 n0, .slice a0 la0 ca0, .slice b0 lb0 cb0], .agg #[.int .i64 n1, .slice a1 la1 ca1, .slice b1 lb1 cb1], .slice a2 b2 c2] w fun e w' => e = .returned (.bool true) ∧ Below w.heap.size w w' :=
  galoisOre_all ⟨n0, a0, la0, ca0, SA0, FA0, b0, lb0, cb0, SB0, FB0⟩ ⟨n1, a1, la1, ca1, SA1, FA1, b1, lb1, cb1, SB1, FB1⟩ ⟨a2, b2, c2, f2⟩ w ⟨hla0, hlb0, hra0, hrb0⟩ ⟨hla1, hlb1, hra1, hrb1⟩ ⟨hl2, hr2⟩

end Go.Proofs.Ytfbgcadlahiljaa
