/-
  hasselaw.GaloisCloses returns true for every two lattices and list. No condition but that slices read as slices of rows and of numbers.
-/
import Derived.Test.YtfbgcadlahiljaaGalL4
import Derived.Test.YtfbgcadlahiljaaGalN
import Derived.Test.YtfbgcadlahiljaaPlaceR
namespace Go.Proofs.Ytfbgcadlahiljaa
open Go.RowKit

theorem Try.info4 : (Try.prog.info? 4).map (fun i => (i.zero, i.size, i.bytes)) = some (some (.bool false), 1, 1) := by kernel_rfl
/-- A slice of truths of the call's own. -/
def OwnB (w : World) (b n : Nat) (s : Nat → Bool) : Prop := ∀ k, k < n → w.cell? ⟨b, k, none⟩ = some (.bool (s k)) ∧ w.frozen? ⟨b, k, none⟩ = false
theorem ownB_made {w : World} {base b m : Nat} (h : w.ownsRow base 4 1 (.slice (some ⟨b, 0, none⟩) m m) m (madeCells (Value.bool false).cells (m * 1)).toList) : OwnB w b m (fun _ => false) := by
  intro k hk
  refine ⟨?_, h.frozenAt k⟩
  rw [h.cellAt k (by omega)]
  have e : (Value.bool false).cells = #[Value.bool false] := rfl
  rw [e, toList_madeCells_one]
  simp [hk]
theorem OwnB.keep {w w' : World} {b n B : Nat} {s : Nat → Bool} (h : OwnB w b n s) (hB : Below B w w') (hb : b < B) : OwnB w' b n s :=
  fun k hk => ⟨(hB.cell (p := ⟨b, k, none⟩) hb).trans (h k hk).1, (hB.frozen (p := ⟨b, k, none⟩) hb).trans (h k hk).2⟩
theorem OwnB.lt {w : World} {b n : Nat} {s : Nat → Bool} (h : OwnB w b n s) {k : Nat} (hk : k < n) : b < w.heap.size := World.block_lt_of_cell? _ _ (h k hk).1
theorem OwnB.congr {w : World} {b n : Nat} {s t : Nat → Bool} (ho : OwnB w b n s) (e : ∀ k, k < n → s k = t k) : OwnB w b n t :=
  fun k hk => by rw [← e k hk]; exact ho k hk
theorem OwnB.set {w : World} {b n : Nat} {f : Nat → Nat} {x : Nat} (h : OwnB w b n (sn f x)) : OwnB (w.setCell ⟨b, f x, none⟩ (.bool true)) b n (sn f (x + 1)) := by
  intro k hk
  refine ⟨?_, by rw [World.frozen?_setCell]; exact (h k hk).2⟩
  rw [sn]
  by_cases e : k = f x
  · subst e; rw [World.cell?_setCell_same _ _ _ (h _ hk).1]; simp
  · rw [World.cell?_setCell_other _ _ _ _ (fun q => by injection q with _ q2; exact e (by omega)), (h k hk).1]; simp [e]

set_option maxHeartbeats 8000000 in
theorem galoisCloses_all (A B : LA) (f : MA) (w : World) (hA : A.In w) (hB : B.In w) (hf : f.In w) :
    Calls Try.prog 8 #[A.v, B.v, f.v] w fun e w' => e = .returned (.bool true) ∧ Below w.heap.size w w' := by
  have HB1 : Hid (Below w.heap.size w (two w A B)) := two_below w A B
  have hG := GS.new hA hB hf
  have eW : Hid (two w A B = (w.alloc (.cells #[.int .i64 A.n, .slice A.a A.la A.ca, .slice A.b A.lb A.cb] 24)).alloc (.cells #[.int .i64 B.n, .slice B.a B.la B.ca, .slice B.b B.lb B.cb] 24)) := rfl
  generalize two w A B = W at *
  obtain ⟨X, hX⟩ : ∃ X, X = A := ⟨_, rfl⟩
  obtain ⟨Y, hY⟩ : ∃ Y, Y = B := ⟨_, rfl⟩
  obtain ⟨Z, hZ⟩ : ∃ Z, Z = f := ⟨_, rfl⟩
  have HG : Hid (GS X Y Z w.heap.size W) := by rw [hX, hY, hZ]; exact hG
  clear hG
  have Cclosed : Hid (∀ wx, GS X Y Z w.heap.size wx → Calls Try.prog 17 #[X.v, Y.v, Z.v] wx fun e w' => CPost X Y Z e w' ∧ Below wx.heap.size wx w') := fun wx h => closed_any X Y Z wx h.ia h.ib h.fi
  have Cback : Hid (∀ wx, GS X Y Z w.heap.size wx → Calls Try.prog 14 #[X.v, Y.v, Z.v] wx fun e w' => BPost X Y Z e w' ∧ Below wx.heap.size wx w') := fun wx h => back_any X Y Z wx h.ia h.ib h.fi
  have HE : Hid (X = A ∧ Y = B ∧ Z = f) := ⟨hX, hY, hZ⟩
  have HV : Hid (X.v = A.v ∧ Y.v = B.v ∧ Z.v = f.v) := by rw [hX, hY, hZ]; exact ⟨rfl, rfl, rfl⟩
  have HX : Hid (∀ wx, GS X Y Z w.heap.size wx → A.Bx wx w.heap.size ∧ B.Bx wx (w.heap.size + 1)) := fun wx h => by
    have h1 := h.xa
    have h2 := h.xb
    rw [hX] at h1
    rw [hY] at h2
    exact ⟨h1, h2⟩
  rw [HV.out.1, HV.out.2.1, HV.out.2.2] at Cclosed
  rw [HV.out.1, HV.out.2.1, HV.out.2.2] at Cback
  clear hX hY hZ hA hB hf HV
  obtain ⟨n, a, la, ca, SA, FA, b, lb, cb, SB, FB⟩ := A
  obtain ⟨n', a', la', ca', SA', FA', b', lb', cb', SB', FB'⟩ := B
  obtain ⟨fa, fl, fc, F⟩ := f
  simp only [LA.v, MA.v, LA.Bx] at *
  obtain ⟨⟨l0, l1, l2⟩, k0, k1, k2⟩ := HX.out _ HG.out
  go_enter Try.func8, Try.ntmps8
  go_wp2_with fail
  rw [← eW.out]
  go_wp2_with fail
  clear eW
  refine (galoisBegun_any _).mono ?_
  rintro e w0 ⟨rfl, hb0⟩
  have HB0 : Hid (Below w.heap.size w w0) := Below.then HB1.out hb0
  have HG0 : Hid (GS X Y Z w.heap.size w0) := HG.out.step hb0
  clear hb0 HG HB1 l0 l1 l2 k0 k1 k2
  obtain ⟨⟨l0, l1, l2⟩, k0, k1, k2⟩ := HX.out _ HG0.out
  go_wp2_with fail

  refine (Cclosed.out _ HG0.out).mono ?_
  rintro e w1 ⟨⟨c0, c, v, hc, hcc, rfl, hv⟩, hb1⟩
  have HB2 : Hid (Below w.heap.size w w1) := Below.then HB0.out hb1
  have HG1 : Hid (GS X Y Z w.heap.size w1) := HG0.out.step hb1
  clear hb1 HG0 HB0 l0 l1 l2 k0 k1 k2 Cclosed
  obtain ⟨⟨l0, l1, l2⟩, k0, k1, k2⟩ := HX.out _ HG1.out
  rcases hv with ⟨h0, rfl⟩ | ⟨rfl, hcl⟩
  · have hne : (c != 0) = true := by simpa using h0
    clear hc hcc
    go_wp2_with fail
    go_ret
    exact ⟨rfl, HB2.out⟩
  · have hK0 : c0 = 0 ∧ KeepL X Y Z := by
      rcases hcc with ⟨h0, h1⟩ | ⟨h0, ⟨h1, _⟩ | ⟨_, h1⟩⟩
      · exact absurd h1.symm h0
      · omega
      · exact ⟨h0, h1⟩
    obtain ⟨rfl, hk⟩ := hK0
    have HC : Hid (GCk X Y Z 0) := hc
    have HK : Hid (KeepL X Y Z) := hk
    have HCL : Hid (NSl w1 v (filt (cloB X Y Z) X.q)) := hcl
    clear hc hcc hk hcl
    go_wp2_with fail
    refine (Cback.out _ HG1.out).mono ?_
    rintro e w2 ⟨⟨c, gv, ok, hc, rfl, hg⟩, hb2⟩
    obtain rfl := hc.one HC.out
    have HB3 : Hid (Below w.heap.size w w2) := Below.then HB2.out hb2
    have HG2 : Hid (GS X Y Z w.heap.size w2) := HG1.out.step hb2
    have HCL2 : Hid (NSl w2 v (filt (cloB X Y Z) X.q)) := HCL.out.below hb2
    clear hb2 HG1 HB2 l0 l1 l2 k0 k1 k2 hc Cback HCL
    rcases hg with ⟨h, _⟩ | ⟨_, ⟨_, _, h⟩ | ⟨rfl, _, hs⟩⟩
    · exact absurd rfl h
    · exact absurd HK.out h
    · have hk := HK.out
      obtain ⟨q, b1, o1, b2, o2, q', b1', o1', b2', o2', fb, fo, eA, eB, eF, h1, h40, h1', h40', eq, eq', ht1, ht1', hr⟩ := HG2.out.open HC.out
      obtain ⟨hEX, hEY, hEZ⟩ := HE.out
      rw [eA] at hEX
      rw [eB] at hEY
      rw [eF] at hEZ
      simp only [LA.mk.injEq] at hEX hEY
      simp only [MA.mk.injEq] at hEZ
      obtain ⟨rfl, rfl, rfl, _, _, _, rfl, rfl, _, _, _⟩ := hEX
      obtain ⟨rfl, rfl, rfl, _, _, _, rfl, rfl, _, _, _⟩ := hEY
      obtain ⟨rfl, rfl, _, _⟩ := hEZ
      have gg := HC.out.gg.1
      obtain ⟨gb, go, gc, rfl, hgc⟩ := hs.cells (by rw [bkL_len]; omega)
      rw [bkL_len, ← eq'] at hgc
      rw [bkL_len, ← eq']
      obtain ⟨g, Hg⟩ : ∃ g, Hid (g = bk X.q X.m X.j Y.m Z.f) := ⟨_, rfl⟩
      have HGL : Hid (∀ y, g y < q) := fun y => by rw [Hg.out, eq]; exact bk_lt gg.la gg.a1 y
      have HFL : Hid (Mp q q' Z.f) := by rw [eq, eq']; exact gg.mp
      obtain ⟨W4, eW4⟩ : ∃ W4, W4 = w2 := ⟨_, rfl⟩
      rw [← eW4] at hgc ht1 ht1' hr
      have HGC : Hid (∀ wx, Below W4.heap.size W4 wx → ∀ y, y < q' → wx.cell? ⟨gb, go + y, none⟩ = some (.int .i64 (g y : Nat))) := fun wx hx y hy => by
        rw [hgc wx hx y hy, bkL_at _ _ _ (by omega), Hg.out]
      have HGI : Hid (MA.In ⟨some ⟨gb, go, none⟩, q', gc, fun y => (g y : Nat)⟩ W4) := ⟨show q' ≤ maxLen by unfold maxLen; omega, fun k hk => ⟨gb, go, rfl, HGC.out _ (Below.refl _ _) k hk⟩⟩
      have HGM : Hid (MCk (q' : Nat) (q : Nat) q' (fun y => (g y : Nat)) 0) := .inr ⟨rfl, .inr ⟨rfl, fun k _ => by
        have := HGL.out k
        show 0 ≤ ((g k : Nat) : Int) ∧ ((g k : Nat) : Int) < ((q : Nat) : Int)
        omega⟩⟩
      obtain ⟨R1, HT1⟩ : ∃ R1 : Nat → Nat × Nat × Nat, Hid (∀ wx, Below W4.heap.size W4 wx → Tb wx b1 o1 q R1 X.m) := ⟨_, ht1⟩
      obtain ⟨R1', HT1'⟩ : ∃ R1' : Nat → Nat × Nat × Nat, Hid (∀ wx, Below W4.heap.size W4 wx → Tb wx b1' o1' q' R1' Y.m) := ⟨_, ht1'⟩
      have HR : Hid (∀ wx, Below W4.heap.size W4 wx → ∀ k, k < q → wx.cell? ⟨fb, fo + k, none⟩ = some (.int .i64 (Z.f k : Nat))) := hr
      have HLL : Hid (∀ wx, Below W4.heap.size W4 wx → LB wx w.heap.size (q : Nat) (some ⟨b1, o1, none⟩) q ca (some ⟨b2, o2, none⟩) q cb ∧ LB wx (w.heap.size + 1) (q' : Nat) (some ⟨b1', o1', none⟩) q' ca' (some ⟨b2', o2', none⟩) q' cb') := fun wx hx => HX.out wx (HG2.out.step (by rw [← eW4]; exact hx))

      obtain ⟨I, HI⟩ : ∃ I, Hid (I = cloB X Y Z) := ⟨_, rfl⟩
      have HIX : Hid (∀ x, I x = (g (Z.f x) == x)) := fun x => by rw [HI.out, Hg.out]; rfl
      have HCNT : Hid ((filt I q).length = cnt2 (sn Z.f q) q') := by
        have h2 := closed_cnt gg.la gg.a1 gg.lb gg.b1 gg.mp hk
        rw [← eq, ← eq'] at h2
        show (filt I q).length = _
        rw [filt_cnt, HI.out, ← h2]
        exact cnt2_congr q fun x _ => by rw [eq]; rfl
      have HBB : Hid (∀ y, y < q' → g (Z.f (g y)) = g y) := fun y hy => by
        rw [Hg.out]; exact bk_back gg.la gg.a1 gg.lb gg.b1 gg.mp hk (by omega)
      have HUP : Hid (∀ x, x < q → X.m x (g (Z.f x)) = x) := fun x hx => by
        rw [Hg.out]; exact bk_up gg.la gg.a1 gg.lb gg.b1 gg.mp hk (by omega)
      have hcl3 := HCL2.out
      rw [← HI.out, ← eq] at hcl3
      obtain ⟨ca0, cc, rfl, hcr⟩ := hcl3
      rw [← eW4] at hcr
      have HCR4 : Hid (∀ wx, Below W4.heap.size W4 wx → Row wx ca0 (filt I q).length (fun k => (nth (filt I q) k : Nat))) := fun wx hx => hcr.below hx
      have hln : (filt I q).length ≤ maxLen := Nat.le_trans (filt_len _ _) (by unfold maxLen; omega)
      have hlq := filt_len I q
      rw [← eW4] at HB3 ⊢
      obtain ⟨⟨l0, l1, l2⟩, k0, k1, k2⟩ := HLL.out _ (Below.refl _ _)
      clear hk hs hgc ht1 ht1' hr gg Hg HG2 HX HE eA eB eF eq eq' HC eW4 HI HK HCL2 hcr
      obtain ⟨f, hf⟩ : ∃ f, f = Z.f := ⟨_, rfl⟩
      rw [← hf] at HR HFL HIX HCNT HBB HUP
      clear hf
      generalize X.m = m at *
      go_wp2_with fail
      refine (mapped_any ⟨some ⟨gb, go, none⟩, q', gc, fun y => (g y : Nat)⟩ (q' : Nat) (q : Nat) _ HGI.out).mono ?_
      rintro e w3 ⟨⟨c, rfl, hc⟩, rfl⟩
      obtain rfl : c = 0 := hc.one HGM.out
      clear hc HGM HGI
      obtain ⟨i0, hi, hz0, hz1, hz2⟩ := info_parts Try.info4
      go_wp2_with (at_make; refine wpList_make_full _ rfl _ _ 42 rfl W4.heap.size 4 i0 (.bool false) 1 Try.underlying42 hi hz0 hz1 .i64 .i64 _ _ q' rfl rfl rfl rfl (by rw [hz2]; omega) (by unfold maxLen; omega) (Nat.le_refl _) ?_; intro w5 hown5 hgrow5; have hb5 : Below W4.heap.size W4 w5 := (Below.refl _ _).grown hgrow5 (Nat.le_refl _) (by simp))
      have HO5 : Hid (OwnB w5 W4.heap.size q' (sn f 0)) := ownB_made hown5
      have HB5 : Hid (Below W4.heap.size W4 w5) := hb5
      clear hown5 hgrow5 hb5 hi hz0 hz1 hz2 l0 l1 l2 k0 k1 k2
      go_loopw [12, 13] (fun t i wx => ∃ x : Nat, x ≤ q ∧ i = .int .i64 x ∧ t = .int .i64 (cnt2 (sn f x) q' : Nat) ∧ Hid (OwnB wx W4.heap.size q' (sn f x)) ∧ Hid (Below W4.heap.size W4 wx)) (fun _ i _ => q - (intOf i).toNat)
      case atStart =>
        refine ⟨0, Nat.zero_le _, rfl, ?_, HO5.out, HB5.out⟩
        have : cnt2 (sn f 0) q' = 0 := by
          have h := cnt2_congr (P := sn f 0) (Q := fun _ => false) q' (fun _ _ => rfl)
          rw [h]
          clear h
          generalize q' = k
          induction k with
          | zero => rfl
          | succ k ih => rw [cnt2_no rfl, ih]
        rw [this]; rfl
      case round =>
        clear HO5 HB5
        obtain ⟨x, hx, rfl, rfl, HO, HW⟩ := hrel
        obtain ⟨⟨l0, l1, l2⟩, k0, k1, k2⟩ := HLL.out _ HW.out
        by_cases hxl : x < q
        · have hfx := HFL.out x hxl
          have hgf := HGL.out (f x)
          have r1 := HR.out _ HW.out x hxl
          have r2 := (HO.out _ hfx).1
          have i1 : (x : Int) < (q : Int) := by omega
          have i2 : ((f x : Nat) : Int) < (q' : Int) := by omega
          have i3 : ((g (f x) : Nat) : Int) < (q : Int) := by omega
          have hcl := cnt2_le (sn f x) q'
          have hup : (m x (g (f x)) == x) = true := by simpa using HUP.out x hxl
          have hpl : ∃ k, k < (filt I q).length ∧ nth (filt I q) k = g (f x) := by
            have hm : g (f x) ∈ filt I q := (filt_mem I q _).2 ⟨hgf, by rw [HIX.out]; simpa using HBB.out _ hfx⟩
            obtain ⟨k, hk, e⟩ := List.mem_iff_getElem.1 hm
            exact ⟨k, hk, by unfold nth; rw [List.getD_eq_getElem?_getD, List.getElem?_eq_getElem hk]; exact e⟩
          rcases hs : sn f x (f x) with _ | _
          · have HN : Hid (cnt2 (sn f (x + 1)) q' = cnt2 (sn f x) q' + 1) := sn_cnt_new hfx hs
            have hfr := (HO.out _ hfx).2
            rw [hs] at r2
            go_wp2_with fail
            obtain ⟨W5, eW5⟩ : ∃ W5, Hid (W5 = wr.setCell ⟨W4.heap.size, f x, none⟩ (.bool true)) := ⟨_, rfl⟩
            rw [← eW5.out]
            have HO5 : Hid (OwnB W5 W4.heap.size q' (sn f (x + 1))) := by rw [eW5.out]; exact HO.out.set
            have HW5 : Hid (Below W4.heap.size W4 W5) := by rw [eW5.out]; exact Below.setCell (p := ⟨W4.heap.size, f x, none⟩) HW.out (Nat.le_refl _) _
            clear l0 l1 l2 k0 k1 k2 r1 r2 HO HW hfr eW5 hs
            have KK : Below W5.heap.size W5 W5.drew := (Below.refl _ _).drew
            have HCR : Hid (∀ wx, Below W5.heap.size W5 wx → Row wx ca0 (filt I q).length (fun k => (nth (filt I q) k : Nat))) := fun wx hx => HCR4.out wx (Below.then HW5.out hx)
            have HTA : Hid (∀ wx, Below W5.heap.size W5 wx → Tb wx b1 o1 q R1 m) := fun wx hx => HT1.out wx (Below.then HW5.out hx)
            have a0 : ∀ w', Below W5.heap.size W5 w' → w'.cell? ⟨w.heap.size, 0, none⟩ = some (.int .i64 (q : Nat)) := fun w' h => (HLL.out w' (Below.then HW5.out h)).1.1
            have a1 : ∀ w', Below W5.heap.size W5 w' → w'.cell? ⟨w.heap.size, 1, none⟩ = some (.slice (some ⟨b1, o1, none⟩) q ca) := fun w' h => (HLL.out w' (Below.then HW5.out h)).1.2.1
            have a2 : ∀ w', Below W5.heap.size W5 w' → w'.cell? ⟨w.heap.size, 2, none⟩ = some (.slice (some ⟨b2, o2, none⟩) q cb) := fun w' h => (HLL.out w' (Below.then HW5.out h)).1.2.2
            have d0 : ∀ w', Below W5.heap.size W5 w' → w'.cell? ⟨fb, fo + x, none⟩ = some (.int .i64 (f x : Nat)) := fun w' h => HR.out w' (Below.then HW5.out h) x hxl
            have d1 : ∀ w', Below W5.heap.size W5 w' → w'.cell? ⟨gb, go + f x, none⟩ = some (.int .i64 (g (f x) : Nat)) := fun w' h => HGC.out w' (Below.then HW5.out h) _ hfx
            refine wp_region_held_drew (S := (fun w' => Below W5.heap.size W5 w')) (by kernel_rfl) (KK) (fun hHeld => ?_)
            refine wpAnyH_take (i := 0) (oi := { dst := some 73, op := Go.Op.move (Go.Operand.tmp 7), type := 25, pos := "fix.go:323", after := #[], guard := none }) (v := ?_) rfl (by kernel_rfl) (by kernel_rfl) (by kernel_rfl) (fun _ _ _ h => h) (Or.inl ⟨by rfl, ?hy⟩) (by assumption) ?_
            case hy => (intro w9 hSw; (try dsimp only at hSw); go_simp; try with_reducible rfl)
            try simp only [Act.put, List.setIfInBounds_toArray, List.set_cons_zero, List.set_cons_succ]
            refine wpAnyH_take (i := 1) (oi := { dst := some 74, op := Go.Op.move (Go.Operand.tmp 9), type := 25, pos := "fix.go:323", after := #[], guard := none }) (v := ?_) rfl (by kernel_rfl) (by kernel_rfl) (by kernel_rfl) (fun _ _ _ h => h) (Or.inl ⟨by rfl, ?hy⟩) (by assumption) ?_
            case hy => (intro w9 hSw; (try dsimp only at hSw); go_simp; try with_reducible rfl)
            try simp only [Act.put, List.setIfInBounds_toArray, List.set_cons_zero, List.set_cons_succ]
            refine wpAnyH_take (i := 2) (oi := { dst := some 75, op := Go.Op.move (Go.Operand.tmp 2), type := 25, pos := "fix.go:323", after := #[], guard := none }) (v := ?_) rfl (by kernel_rfl) (by kernel_rfl) (by kernel_rfl) (fun _ _ _ h => h) (Or.inl ⟨by rfl, ?hy⟩) (by assumption) ?_
            case hy => (intro w9 hSw; (try dsimp only at hSw); go_simp; try with_reducible rfl)
            try simp only [Act.put, List.setIfInBounds_toArray, List.set_cons_zero, List.set_cons_succ]
            refine wpAnyH_take (i := 3) (oi := { dst := some 76, op := Go.Op.move (Go.Operand.tmp 13), type := 3, pos := "fix.go:323", after := #[], guard := none }) (v := ?_) rfl (by kernel_rfl) (by kernel_rfl) (by kernel_rfl) (fun _ _ _ h => h) (Or.inl ⟨by rfl, ?hy⟩) (by assumption) ?_
            case hy => (intro w9 hSw; (try dsimp only at hSw); go_simp; try with_reducible rfl)
            try simp only [Act.put, List.setIfInBounds_toArray, List.set_cons_zero, List.set_cons_succ]
            refine wpAnyH_take (i := 4) (oi := { dst := some 77, op := Go.Op.indexAddr 25 (Go.Operand.tmp 75) (Go.Operand.tmp 76), type := 0, pos := "fix.go:323", after := #[{ on := 2, ground := Go.Ground.data }, { on := 3, ground := Go.Ground.data }], guard := none }) (v := ?_) rfl (by kernel_rfl) (by kernel_rfl) (by kernel_rfl) (fun _ _ _ h => h) (Or.inl ⟨by rfl, ?hy⟩) (by assumption) ?_
            case hy => (intro w9 hSw; (try dsimp only at hSw); go_simp; try with_reducible rfl)
            try simp only [Act.put, List.setIfInBounds_toArray, List.set_cons_zero, List.set_cons_succ]
            refine wpAnyH_take (i := 5) (oi := { dst := some 78, op := Go.Op.load 3 (Go.Operand.tmp 77), type := 3, pos := "fix.go:323", after := #[{ on := 4, ground := Go.Ground.data }], guard := none }) (v := ?_) rfl (by kernel_rfl) (by kernel_rfl) (by kernel_rfl) (fun _ _ _ h => h) (Or.inl ⟨by rfl, ?hy⟩) (by assumption) ?_
            case hy => (intro w9 hSw; (try dsimp only at hSw); go_simp; try with_reducible rfl)
            try simp only [Act.put, List.setIfInBounds_toArray, List.set_cons_zero, List.set_cons_succ]
            refine wpAnyH_take (i := 6) (oi := { dst := some 79, op := Go.Op.indexAddr 25 (Go.Operand.tmp 74) (Go.Operand.tmp 78), type := 0, pos := "fix.go:323", after := #[{ on := 1, ground := Go.Ground.data }, { on := 5, ground := Go.Ground.data }], guard := none }) (v := ?_) rfl (by kernel_rfl) (by kernel_rfl) (by kernel_rfl) (fun _ _ _ h => h) (Or.inl ⟨by rfl, ?hy⟩) (by assumption) ?_
            case hy => (intro w9 hSw; (try dsimp only at hSw); go_simp; try with_reducible rfl)
            try simp only [Act.put, List.setIfInBounds_toArray, List.set_cons_zero, List.set_cons_succ]
            refine wpAnyH_take (i := 7) (oi := { dst := some 80, op := Go.Op.load 3 (Go.Operand.tmp 79), type := 3, pos := "fix.go:323", after := #[{ on := 6, ground := Go.Ground.data }], guard := none }) (v := ?_) rfl (by kernel_rfl) (by kernel_rfl) (by kernel_rfl) (fun _ _ _ h => h) (Or.inl ⟨by rfl, ?hy⟩) (by assumption) ?_
            case hy => (intro w9 hSw; (try dsimp only at hSw); go_simp; try with_reducible rfl)
            try simp only [Act.put, List.setIfInBounds_toArray, List.set_cons_zero, List.set_cons_succ]
            refine wpAnyH_ready (rs := [8]) (by kernel_rfl) (by simp) ?_
            refine AllReadyH.cons (o := { dst := some 81, op := Go.Op.call { callee := Go.Callee.value (Go.Operand.func 20), args := #[Go.Operand.tmp 73, Go.Operand.tmp 80], argTypes := #[25, 3] }, type := 3, pos := "fix.go:323", after := #[{ on := 0, ground := Go.Ground.data }, { on := 7, ground := Go.Ground.data }], guard := none }) rfl (fun K hK => ?_) AllReadyH.nil
            go_simp
            refine (place_in (filt I q) ca0 (filt I q).length cc (g (f x)) _ hln rfl (HCR.out _ (by assumption)) hpl).mono ?_
            rintro e w8 ⟨⟨pr, rfl⟩, rfl⟩
            have hpr : decide (((pr : Nat) : Int) < 0) = false := by simp
            refine hK.out _ _ ?_ (fun hHeld => ?_)
            · first | assumption | exact Below.then (by assumption) (by assumption)
            clear hK K
            try simp only [Act.put, List.setIfInBounds_toArray, List.set_cons_zero, List.set_cons_succ]
            refine wpAnyH_take (i := 9) (oi := { dst := some 82, op := Go.Op.binOp Go.BinOp.lss 3 (Go.Operand.tmp 81) (Go.Operand.const (Go.Value.int Go.IntKind.i64 0)) 3, type := 4, pos := "fix.go:323", after := #[{ on := 8, ground := Go.Ground.data }], guard := none }) (v := (.bool false)) rfl (by kernel_rfl) (by kernel_rfl) (by kernel_rfl) (fun _ _ _ h => h) (Or.inl ⟨by rfl, ?hy⟩) (by assumption) ?_
            case hy => (intro w9 hSw; (try dsimp only at hSw); go_simp <;> (first | with_reducible rfl | (simp; omega) | omega))
            try simp only [Act.put, List.setIfInBounds_toArray, List.set_cons_zero, List.set_cons_succ]
            refine wpAnyH_take (i := 10) (oi := { dst := some 83, op := Go.Op.move (Go.Operand.tmp 82), type := 4, pos := "fix.go:323", after := #[{ on := 9, ground := Go.Ground.data }, { on := 8, ground := Go.Ground.chain }], guard := none }) (v := ?_) rfl (by kernel_rfl) (by kernel_rfl) (by kernel_rfl) (fun _ _ _ h => h) (Or.inl ⟨by rfl, ?hy⟩) (by assumption) ?_
            case hy => (intro w9 hSw; (try dsimp only at hSw); go_simp; try with_reducible rfl)
            try simp only [Act.put, List.setIfInBounds_toArray, List.set_cons_zero, List.set_cons_succ]
            refine wpAnyH_take (i := 11) (oi := { dst := some 84, op := Go.Op.load 24 (Go.Operand.tmp 3), type := 24, pos := "fix.go:323", after := #[{ on := 10, ground := Go.Ground.guard }], guard := some (10, false) }) (v := ?_) rfl (by kernel_rfl) (by kernel_rfl) (by kernel_rfl) (fun _ _ _ h => h) (Or.inl ⟨by rfl, ?hy⟩) (by assumption) ?_
            case hy => (intro w9 hSw; (try dsimp only at hSw); go_simp; try with_reducible rfl)
            try simp only [Act.put, List.setIfInBounds_toArray, List.set_cons_zero, List.set_cons_succ]
            refine wpAnyH_take (i := 12) (oi := { dst := some 85, op := Go.Op.move (Go.Operand.tmp 13), type := 3, pos := "fix.go:323", after := #[{ on := 10, ground := Go.Ground.guard }], guard := some (10, false) }) (v := ?_) rfl (by kernel_rfl) (by kernel_rfl) (by kernel_rfl) (fun _ _ _ h => h) (Or.inl ⟨by rfl, ?hy⟩) (by assumption) ?_
            case hy => (intro w9 hSw; (try dsimp only at hSw); go_simp; try with_reducible rfl)
            try simp only [Act.put, List.setIfInBounds_toArray, List.set_cons_zero, List.set_cons_succ]
            refine wpAnyH_take (i := 13) (oi := { dst := some 86, op := Go.Op.move (Go.Operand.tmp 9), type := 25, pos := "fix.go:323", after := #[{ on := 10, ground := Go.Ground.guard }], guard := some (10, false) }) (v := ?_) rfl (by kernel_rfl) (by kernel_rfl) (by kernel_rfl) (fun _ _ _ h => h) (Or.inl ⟨by rfl, ?hy⟩) (by assumption) ?_
            case hy => (intro w9 hSw; (try dsimp only at hSw); go_simp; try with_reducible rfl)
            try simp only [Act.put, List.setIfInBounds_toArray, List.set_cons_zero, List.set_cons_succ]
            refine wpAnyH_take (i := 14) (oi := { dst := some 87, op := Go.Op.move (Go.Operand.tmp 2), type := 25, pos := "fix.go:323", after := #[{ on := 10, ground := Go.Ground.guard }], guard := some (10, false) }) (v := ?_) rfl (by kernel_rfl) (by kernel_rfl) (by kernel_rfl) (fun _ _ _ h => h) (Or.inl ⟨by rfl, ?hy⟩) (by assumption) ?_
            case hy => (intro w9 hSw; (try dsimp only at hSw); go_simp; try with_reducible rfl)
            try simp only [Act.put, List.setIfInBounds_toArray, List.set_cons_zero, List.set_cons_succ]
            refine wpAnyH_take (i := 15) (oi := { dst := some 88, op := Go.Op.move (Go.Operand.tmp 13), type := 3, pos := "fix.go:323", after := #[{ on := 10, ground := Go.Ground.guard }], guard := some (10, false) }) (v := ?_) rfl (by kernel_rfl) (by kernel_rfl) (by kernel_rfl) (fun _ _ _ h => h) (Or.inl ⟨by rfl, ?hy⟩) (by assumption) ?_
            case hy => (intro w9 hSw; (try dsimp only at hSw); go_simp; try with_reducible rfl)
            try simp only [Act.put, List.setIfInBounds_toArray, List.set_cons_zero, List.set_cons_succ]
            refine wpAnyH_take (i := 16) (oi := { dst := some 89, op := Go.Op.indexAddr 25 (Go.Operand.tmp 87) (Go.Operand.tmp 88), type := 0, pos := "fix.go:323", after := #[{ on := 14, ground := Go.Ground.data }, { on := 15, ground := Go.Ground.data }, { on := 10, ground := Go.Ground.guard }], guard := some (10, false) }) (v := ?_) rfl (by kernel_rfl) (by kernel_rfl) (by kernel_rfl) (fun _ _ _ h => h) (Or.inl ⟨by rfl, ?hy⟩) (by assumption) ?_
            case hy => (intro w9 hSw; (try dsimp only at hSw); go_simp; try with_reducible rfl)
            try simp only [Act.put, List.setIfInBounds_toArray, List.set_cons_zero, List.set_cons_succ]
            refine wpAnyH_take (i := 17) (oi := { dst := some 90, op := Go.Op.load 3 (Go.Operand.tmp 89), type := 3, pos := "fix.go:323", after := #[{ on := 16, ground := Go.Ground.data }, { on := 10, ground := Go.Ground.guard }], guard := some (10, false) }) (v := ?_) rfl (by kernel_rfl) (by kernel_rfl) (by kernel_rfl) (fun _ _ _ h => h) (Or.inl ⟨by rfl, ?hy⟩) (by assumption) ?_
            case hy => (intro w9 hSw; (try dsimp only at hSw); go_simp; try with_reducible rfl)
            try simp only [Act.put, List.setIfInBounds_toArray, List.set_cons_zero, List.set_cons_succ]
            refine wpAnyH_take (i := 18) (oi := { dst := some 91, op := Go.Op.indexAddr 25 (Go.Operand.tmp 86) (Go.Operand.tmp 90), type := 0, pos := "fix.go:323", after := #[{ on := 13, ground := Go.Ground.data }, { on := 17, ground := Go.Ground.data }, { on := 10, ground := Go.Ground.guard }], guard := some (10, false) }) (v := ?_) rfl (by kernel_rfl) (by kernel_rfl) (by kernel_rfl) (fun _ _ _ h => h) (Or.inl ⟨by rfl, ?hy⟩) (by assumption) ?_
            case hy => (intro w9 hSw; (try dsimp only at hSw); go_simp; try with_reducible rfl)
            try simp only [Act.put, List.setIfInBounds_toArray, List.set_cons_zero, List.set_cons_succ]
            refine wpAnyH_take (i := 19) (oi := { dst := some 92, op := Go.Op.load 3 (Go.Operand.tmp 91), type := 3, pos := "fix.go:323", after := #[{ on := 18, ground := Go.Ground.data }, { on := 10, ground := Go.Ground.guard }], guard := some (10, false) }) (v := ?_) rfl (by kernel_rfl) (by kernel_rfl) (by kernel_rfl) (fun _ _ _ h => h) (Or.inl ⟨by rfl, ?hy⟩) (by assumption) ?_
            case hy => (intro w9 hSw; (try dsimp only at hSw); go_simp; try with_reducible rfl)
            try simp only [Act.put, List.setIfInBounds_toArray, List.set_cons_zero, List.set_cons_succ]
            refine wpAnyH_ready (rs := [20]) (by kernel_rfl) (by simp) ?_
            refine AllReadyH.cons (o := { dst := some 93, op := Go.Op.call { callee := Go.Callee.value (Go.Operand.func 18), args := #[Go.Operand.tmp 84, Go.Operand.tmp 85, Go.Operand.tmp 92], argTypes := #[24, 3, 3] }, type := 4, pos := "fix.go:323", after := #[{ on := 11, ground := Go.Ground.data }, { on := 12, ground := Go.Ground.data }, { on := 19, ground := Go.Ground.data }, { on := 10, ground := Go.Ground.chain }, { on := 10, ground := Go.Ground.guard }], guard := some (10, false) }) rfl (fun K hK => ?_) AllReadyH.nil
            go_simp
            refine (under_as q b1 o1 ca _ q cb R1 m x (g (f x)) true _ hup (HTA.out _ (by assumption)) hxl hgf).mono ?_
            rintro e w9 ⟨rfl, hb9⟩
            refine hK.out _ _ ?_ (fun hHeld => ?_)
            · first | assumption | exact Below.then (by assumption) (by assumption)
            clear hK K
            try simp only [Act.put, List.setIfInBounds_toArray, List.set_cons_zero, List.set_cons_succ]
            refine wpAnyH_take (i := 21) (oi := { dst := some 94, op := Go.Op.unOp Go.UnOp.not 4 (Go.Operand.tmp 93), type := 4, pos := "fix.go:323", after := #[{ on := 20, ground := Go.Ground.data }, { on := 10, ground := Go.Ground.guard }], guard := some (10, false) }) (v := ?_) rfl (by kernel_rfl) (by kernel_rfl) (by kernel_rfl) (fun _ _ _ h => h) (Or.inl ⟨by rfl, ?hy⟩) (by assumption) ?_
            case hy => (intro w9 hSw; (try dsimp only at hSw); go_simp; try with_reducible rfl)
            try simp only [Act.put, List.setIfInBounds_toArray, List.set_cons_zero, List.set_cons_succ]
            refine wpAnyH_take (i := 22) (oi := { dst := some 95, op := Go.Op.pick (Go.Operand.tmp 83) (Go.Operand.const (Go.Value.bool true)) (Go.Operand.tmp 94), type := 4, pos := "fix.go:323", after := #[{ on := 10, ground := Go.Ground.data }, { on := 21, ground := Go.Ground.data }], guard := none }) (v := ?_) rfl (by kernel_rfl) (by kernel_rfl) (by kernel_rfl) (fun _ _ _ h => h) (Or.inl ⟨by rfl, ?hy⟩) (by assumption) ?_
            case hy => (intro w9 hSw; (try dsimp only at hSw); go_simp; try with_reducible rfl)
            try simp only [Act.put, List.setIfInBounds_toArray, List.set_cons_zero, List.set_cons_succ]
            refine wpAnyH_done (by kernel_rfl) ?_ _
            try simp only [Act.put, List.setIfInBounds_toArray, List.set_cons_zero, List.set_cons_succ]
            have hb10 : Below W5.heap.size W5 w9 := by first | assumption | exact hHeld
            have HB10 : Hid (Below W5.heap.size W5 w9) := hb10
            clear hb10
            go_wp2_with fail
            go_roundw
            case rel => exact ⟨x + 1, by omega, by go_num, by rw [HN.out]; go_num, HO5.out.keep HB10.out (HO5.out.lt hfx), Below.then HW5.out HB10.out⟩
            case measure => simp [intOf]; omega
          · have HN : Hid (cnt2 (sn f (x + 1)) q' = cnt2 (sn f x) q') := cnt2_congr q' fun y _ => sn_old hs y
            have HOO : Hid (OwnB wr W4.heap.size q' (sn f (x + 1))) := HO.out.congr fun y _ => (sn_old hs y).symm
            rw [hs] at r2
            go_wp2_with fail
            obtain ⟨W5, eW5⟩ : ∃ W5, Hid (W5 = wr) := ⟨_, rfl⟩
            rw [← eW5.out]
            have HO5 : Hid (OwnB W5 W4.heap.size q' (sn f (x + 1))) := by rw [eW5.out]; exact HOO.out
            have HW5 : Hid (Below W4.heap.size W4 W5) := by rw [eW5.out]; exact HW.out
            clear l0 l1 l2 k0 k1 k2 r1 r2 HO HOO HW eW5 hs
            have KK : Below W5.heap.size W5 W5.drew := (Below.refl _ _).drew
            have HCR : Hid (∀ wx, Below W5.heap.size W5 wx → Row wx ca0 (filt I q).length (fun k => (nth (filt I q) k : Nat))) := fun wx hx => HCR4.out wx (Below.then HW5.out hx)
            have HTA : Hid (∀ wx, Below W5.heap.size W5 wx → Tb wx b1 o1 q R1 m) := fun wx hx => HT1.out wx (Below.then HW5.out hx)
            have a0 : ∀ w', Below W5.heap.size W5 w' → w'.cell? ⟨w.heap.size, 0, none⟩ = some (.int .i64 (q : Nat)) := fun w' h => (HLL.out w' (Below.then HW5.out h)).1.1
            have a1 : ∀ w', Below W5.heap.size W5 w' → w'.cell? ⟨w.heap.size, 1, none⟩ = some (.slice (some ⟨b1, o1, none⟩) q ca) := fun w' h => (HLL.out w' (Below.then HW5.out h)).1.2.1
            have a2 : ∀ w', Below W5.heap.size W5 w' → w'.cell? ⟨w.heap.size, 2, none⟩ = some (.slice (some ⟨b2, o2, none⟩) q cb) := fun w' h => (HLL.out w' (Below.then HW5.out h)).1.2.2
            have d0 : ∀ w', Below W5.heap.size W5 w' → w'.cell? ⟨fb, fo + x, none⟩ = some (.int .i64 (f x : Nat)) := fun w' h => HR.out w' (Below.then HW5.out h) x hxl
            have d1 : ∀ w', Below W5.heap.size W5 w' → w'.cell? ⟨gb, go + f x, none⟩ = some (.int .i64 (g (f x) : Nat)) := fun w' h => HGC.out w' (Below.then HW5.out h) _ hfx
            refine wp_region_held_drew (S := (fun w' => Below W5.heap.size W5 w')) (by kernel_rfl) (KK) (fun hHeld => ?_)
            refine wpAnyH_take (i := 0) (oi := { dst := some 73, op := Go.Op.move (Go.Operand.tmp 7), type := 25, pos := "fix.go:323", after := #[], guard := none }) (v := ?_) rfl (by kernel_rfl) (by kernel_rfl) (by kernel_rfl) (fun _ _ _ h => h) (Or.inl ⟨by rfl, ?hy⟩) (by assumption) ?_
            case hy => (intro w9 hSw; (try dsimp only at hSw); go_simp; try with_reducible rfl)
            try simp only [Act.put, List.setIfInBounds_toArray, List.set_cons_zero, List.set_cons_succ]
            refine wpAnyH_take (i := 1) (oi := { dst := some 74, op := Go.Op.move (Go.Operand.tmp 9), type := 25, pos := "fix.go:323", after := #[], guard := none }) (v := ?_) rfl (by kernel_rfl) (by kernel_rfl) (by kernel_rfl) (fun _ _ _ h => h) (Or.inl ⟨by rfl, ?hy⟩) (by assumption) ?_
            case hy => (intro w9 hSw; (try dsimp only at hSw); go_simp; try with_reducible rfl)
            try simp only [Act.put, List.setIfInBounds_toArray, List.set_cons_zero, List.set_cons_succ]
            refine wpAnyH_take (i := 2) (oi := { dst := some 75, op := Go.Op.move (Go.Operand.tmp 2), type := 25, pos := "fix.go:323", after := #[], guard := none }) (v := ?_) rfl (by kernel_rfl) (by kernel_rfl) (by kernel_rfl) (fun _ _ _ h => h) (Or.inl ⟨by rfl, ?hy⟩) (by assumption) ?_
            case hy => (intro w9 hSw; (try dsimp only at hSw); go_simp; try with_reducible rfl)
            try simp only [Act.put, List.setIfInBounds_toArray, List.set_cons_zero, List.set_cons_succ]
            refine wpAnyH_take (i := 3) (oi := { dst := some 76, op := Go.Op.move (Go.Operand.tmp 13), type := 3, pos := "fix.go:323", after := #[], guard := none }) (v := ?_) rfl (by kernel_rfl) (by kernel_rfl) (by kernel_rfl) (fun _ _ _ h => h) (Or.inl ⟨by rfl, ?hy⟩) (by assumption) ?_
            case hy => (intro w9 hSw; (try dsimp only at hSw); go_simp; try with_reducible rfl)
            try simp only [Act.put, List.setIfInBounds_toArray, List.set_cons_zero, List.set_cons_succ]
            refine wpAnyH_take (i := 4) (oi := { dst := some 77, op := Go.Op.indexAddr 25 (Go.Operand.tmp 75) (Go.Operand.tmp 76), type := 0, pos := "fix.go:323", after := #[{ on := 2, ground := Go.Ground.data }, { on := 3, ground := Go.Ground.data }], guard := none }) (v := ?_) rfl (by kernel_rfl) (by kernel_rfl) (by kernel_rfl) (fun _ _ _ h => h) (Or.inl ⟨by rfl, ?hy⟩) (by assumption) ?_
            case hy => (intro w9 hSw; (try dsimp only at hSw); go_simp; try with_reducible rfl)
            try simp only [Act.put, List.setIfInBounds_toArray, List.set_cons_zero, List.set_cons_succ]
            refine wpAnyH_take (i := 5) (oi := { dst := some 78, op := Go.Op.load 3 (Go.Operand.tmp 77), type := 3, pos := "fix.go:323", after := #[{ on := 4, ground := Go.Ground.data }], guard := none }) (v := ?_) rfl (by kernel_rfl) (by kernel_rfl) (by kernel_rfl) (fun _ _ _ h => h) (Or.inl ⟨by rfl, ?hy⟩) (by assumption) ?_
            case hy => (intro w9 hSw; (try dsimp only at hSw); go_simp; try with_reducible rfl)
            try simp only [Act.put, List.setIfInBounds_toArray, List.set_cons_zero, List.set_cons_succ]
            refine wpAnyH_take (i := 6) (oi := { dst := some 79, op := Go.Op.indexAddr 25 (Go.Operand.tmp 74) (Go.Operand.tmp 78), type := 0, pos := "fix.go:323", after := #[{ on := 1, ground := Go.Ground.data }, { on := 5, ground := Go.Ground.data }], guard := none }) (v := ?_) rfl (by kernel_rfl) (by kernel_rfl) (by kernel_rfl) (fun _ _ _ h => h) (Or.inl ⟨by rfl, ?hy⟩) (by assumption) ?_
            case hy => (intro w9 hSw; (try dsimp only at hSw); go_simp; try with_reducible rfl)
            try simp only [Act.put, List.setIfInBounds_toArray, List.set_cons_zero, List.set_cons_succ]
            refine wpAnyH_take (i := 7) (oi := { dst := some 80, op := Go.Op.load 3 (Go.Operand.tmp 79), type := 3, pos := "fix.go:323", after := #[{ on := 6, ground := Go.Ground.data }], guard := none }) (v := ?_) rfl (by kernel_rfl) (by kernel_rfl) (by kernel_rfl) (fun _ _ _ h => h) (Or.inl ⟨by rfl, ?hy⟩) (by assumption) ?_
            case hy => (intro w9 hSw; (try dsimp only at hSw); go_simp; try with_reducible rfl)
            try simp only [Act.put, List.setIfInBounds_toArray, List.set_cons_zero, List.set_cons_succ]
            refine wpAnyH_ready (rs := [8]) (by kernel_rfl) (by simp) ?_
            refine AllReadyH.cons (o := { dst := some 81, op := Go.Op.call { callee := Go.Callee.value (Go.Operand.func 20), args := #[Go.Operand.tmp 73, Go.Operand.tmp 80], argTypes := #[25, 3] }, type := 3, pos := "fix.go:323", after := #[{ on := 0, ground := Go.Ground.data }, { on := 7, ground := Go.Ground.data }], guard := none }) rfl (fun K hK => ?_) AllReadyH.nil
            go_simp
            refine (place_in (filt I q) ca0 (filt I q).length cc (g (f x)) _ hln rfl (HCR.out _ (by assumption)) hpl).mono ?_
            rintro e w8 ⟨⟨pr, rfl⟩, rfl⟩
            have hpr : decide (((pr : Nat) : Int) < 0) = false := by simp
            refine hK.out _ _ ?_ (fun hHeld => ?_)
            · first | assumption | exact Below.then (by assumption) (by assumption)
            clear hK K
            try simp only [Act.put, List.setIfInBounds_toArray, List.set_cons_zero, List.set_cons_succ]
            refine wpAnyH_take (i := 9) (oi := { dst := some 82, op := Go.Op.binOp Go.BinOp.lss 3 (Go.Operand.tmp 81) (Go.Operand.const (Go.Value.int Go.IntKind.i64 0)) 3, type := 4, pos := "fix.go:323", after := #[{ on := 8, ground := Go.Ground.data }], guard := none }) (v := (.bool false)) rfl (by kernel_rfl) (by kernel_rfl) (by kernel_rfl) (fun _ _ _ h => h) (Or.inl ⟨by rfl, ?hy⟩) (by assumption) ?_
            case hy => (intro w9 hSw; (try dsimp only at hSw); go_simp <;> (first | with_reducible rfl | (simp; omega) | omega))
            try simp only [Act.put, List.setIfInBounds_toArray, List.set_cons_zero, List.set_cons_succ]
            refine wpAnyH_take (i := 10) (oi := { dst := some 83, op := Go.Op.move (Go.Operand.tmp 82), type := 4, pos := "fix.go:323", after := #[{ on := 9, ground := Go.Ground.data }, { on := 8, ground := Go.Ground.chain }], guard := none }) (v := ?_) rfl (by kernel_rfl) (by kernel_rfl) (by kernel_rfl) (fun _ _ _ h => h) (Or.inl ⟨by rfl, ?hy⟩) (by assumption) ?_
            case hy => (intro w9 hSw; (try dsimp only at hSw); go_simp; try with_reducible rfl)
            try simp only [Act.put, List.setIfInBounds_toArray, List.set_cons_zero, List.set_cons_succ]
            refine wpAnyH_take (i := 11) (oi := { dst := some 84, op := Go.Op.load 24 (Go.Operand.tmp 3), type := 24, pos := "fix.go:323", after := #[{ on := 10, ground := Go.Ground.guard }], guard := some (10, false) }) (v := ?_) rfl (by kernel_rfl) (by kernel_rfl) (by kernel_rfl) (fun _ _ _ h => h) (Or.inl ⟨by rfl, ?hy⟩) (by assumption) ?_
            case hy => (intro w9 hSw; (try dsimp only at hSw); go_simp; try with_reducible rfl)
            try simp only [Act.put, List.setIfInBounds_toArray, List.set_cons_zero, List.set_cons_succ]
            refine wpAnyH_take (i := 12) (oi := { dst := some 85, op := Go.Op.move (Go.Operand.tmp 13), type := 3, pos := "fix.go:323", after := #[{ on := 10, ground := Go.Ground.guard }], guard := some (10, false) }) (v := ?_) rfl (by kernel_rfl) (by kernel_rfl) (by kernel_rfl) (fun _ _ _ h => h) (Or.inl ⟨by rfl, ?hy⟩) (by assumption) ?_
            case hy => (intro w9 hSw; (try dsimp only at hSw); go_simp; try with_reducible rfl)
            try simp only [Act.put, List.setIfInBounds_toArray, List.set_cons_zero, List.set_cons_succ]
            refine wpAnyH_take (i := 13) (oi := { dst := some 86, op := Go.Op.move (Go.Operand.tmp 9), type := 25, pos := "fix.go:323", after := #[{ on := 10, ground := Go.Ground.guard }], guard := some (10, false) }) (v := ?_) rfl (by kernel_rfl) (by kernel_rfl) (by kernel_rfl) (fun _ _ _ h => h) (Or.inl ⟨by rfl, ?hy⟩) (by assumption) ?_
            case hy => (intro w9 hSw; (try dsimp only at hSw); go_simp; try with_reducible rfl)
            try simp only [Act.put, List.setIfInBounds_toArray, List.set_cons_zero, List.set_cons_succ]
            refine wpAnyH_take (i := 14) (oi := { dst := some 87, op := Go.Op.move (Go.Operand.tmp 2), type := 25, pos := "fix.go:323", after := #[{ on := 10, ground := Go.Ground.guard }], guard := some (10, false) }) (v := ?_) rfl (by kernel_rfl) (by kernel_rfl) (by kernel_rfl) (fun _ _ _ h => h) (Or.inl ⟨by rfl, ?hy⟩) (by assumption) ?_
            case hy => (intro w9 hSw; (try dsimp only at hSw); go_simp; try with_reducible rfl)
            try simp only [Act.put, List.setIfInBounds_toArray, List.set_cons_zero, List.set_cons_succ]
            refine wpAnyH_take (i := 15) (oi := { dst := some 88, op := Go.Op.move (Go.Operand.tmp 13), type := 3, pos := "fix.go:323", after := #[{ on := 10, ground := Go.Ground.guard }], guard := some (10, false) }) (v := ?_) rfl (by kernel_rfl) (by kernel_rfl) (by kernel_rfl) (fun _ _ _ h => h) (Or.inl ⟨by rfl, ?hy⟩) (by assumption) ?_
            case hy => (intro w9 hSw; (try dsimp only at hSw); go_simp; try with_reducible rfl)
            try simp only [Act.put, List.setIfInBounds_toArray, List.set_cons_zero, List.set_cons_succ]
            refine wpAnyH_take (i := 16) (oi := { dst := some 89, op := Go.Op.indexAddr 25 (Go.Operand.tmp 87) (Go.Operand.tmp 88), type := 0, pos := "fix.go:323", after := #[{ on := 14, ground := Go.Ground.data }, { on := 15, ground := Go.Ground.data }, { on := 10, ground := Go.Ground.guard }], guard := some (10, false) }) (v := ?_) rfl (by kernel_rfl) (by kernel_rfl) (by kernel_rfl) (fun _ _ _ h => h) (Or.inl ⟨by rfl, ?hy⟩) (by assumption) ?_
            case hy => (intro w9 hSw; (try dsimp only at hSw); go_simp; try with_reducible rfl)
            try simp only [Act.put, List.setIfInBounds_toArray, List.set_cons_zero, List.set_cons_succ]
            refine wpAnyH_take (i := 17) (oi := { dst := some 90, op := Go.Op.load 3 (Go.Operand.tmp 89), type := 3, pos := "fix.go:323", after := #[{ on := 16, ground := Go.Ground.data }, { on := 10, ground := Go.Ground.guard }], guard := some (10, false) }) (v := ?_) rfl (by kernel_rfl) (by kernel_rfl) (by kernel_rfl) (fun _ _ _ h => h) (Or.inl ⟨by rfl, ?hy⟩) (by assumption) ?_
            case hy => (intro w9 hSw; (try dsimp only at hSw); go_simp; try with_reducible rfl)
            try simp only [Act.put, List.setIfInBounds_toArray, List.set_cons_zero, List.set_cons_succ]
            refine wpAnyH_take (i := 18) (oi := { dst := some 91, op := Go.Op.indexAddr 25 (Go.Operand.tmp 86) (Go.Operand.tmp 90), type := 0, pos := "fix.go:323", after := #[{ on := 13, ground := Go.Ground.data }, { on := 17, ground := Go.Ground.data }, { on := 10, ground := Go.Ground.guard }], guard := some (10, false) }) (v := ?_) rfl (by kernel_rfl) (by kernel_rfl) (by kernel_rfl) (fun _ _ _ h => h) (Or.inl ⟨by rfl, ?hy⟩) (by assumption) ?_
            case hy => (intro w9 hSw; (try dsimp only at hSw); go_simp; try with_reducible rfl)
            try simp only [Act.put, List.setIfInBounds_toArray, List.set_cons_zero, List.set_cons_succ]
            refine wpAnyH_take (i := 19) (oi := { dst := some 92, op := Go.Op.load 3 (Go.Operand.tmp 91), type := 3, pos := "fix.go:323", after := #[{ on := 18, ground := Go.Ground.data }, { on := 10, ground := Go.Ground.guard }], guard := some (10, false) }) (v := ?_) rfl (by kernel_rfl) (by kernel_rfl) (by kernel_rfl) (fun _ _ _ h => h) (Or.inl ⟨by rfl, ?hy⟩) (by assumption) ?_
            case hy => (intro w9 hSw; (try dsimp only at hSw); go_simp; try with_reducible rfl)
            try simp only [Act.put, List.setIfInBounds_toArray, List.set_cons_zero, List.set_cons_succ]
            refine wpAnyH_ready (rs := [20]) (by kernel_rfl) (by simp) ?_
            refine AllReadyH.cons (o := { dst := some 93, op := Go.Op.call { callee := Go.Callee.value (Go.Operand.func 18), args := #[Go.Operand.tmp 84, Go.Operand.tmp 85, Go.Operand.tmp 92], argTypes := #[24, 3, 3] }, type := 4, pos := "fix.go:323", after := #[{ on := 11, ground := Go.Ground.data }, { on := 12, ground := Go.Ground.data }, { on := 19, ground := Go.Ground.data }, { on := 10, ground := Go.Ground.chain }, { on := 10, ground := Go.Ground.guard }], guard := some (10, false) }) rfl (fun K hK => ?_) AllReadyH.nil
            go_simp
            refine (under_as q b1 o1 ca _ q cb R1 m x (g (f x)) true _ hup (HTA.out _ (by assumption)) hxl hgf).mono ?_
            rintro e w9 ⟨rfl, hb9⟩
            refine hK.out _ _ ?_ (fun hHeld => ?_)
            · first | assumption | exact Below.then (by assumption) (by assumption)
            clear hK K
            try simp only [Act.put, List.setIfInBounds_toArray, List.set_cons_zero, List.set_cons_succ]
            refine wpAnyH_take (i := 21) (oi := { dst := some 94, op := Go.Op.unOp Go.UnOp.not 4 (Go.Operand.tmp 93), type := 4, pos := "fix.go:323", after := #[{ on := 20, ground := Go.Ground.data }, { on := 10, ground := Go.Ground.guard }], guard := some (10, false) }) (v := ?_) rfl (by kernel_rfl) (by kernel_rfl) (by kernel_rfl) (fun _ _ _ h => h) (Or.inl ⟨by rfl, ?hy⟩) (by assumption) ?_
            case hy => (intro w9 hSw; (try dsimp only at hSw); go_simp; try with_reducible rfl)
            try simp only [Act.put, List.setIfInBounds_toArray, List.set_cons_zero, List.set_cons_succ]
            refine wpAnyH_take (i := 22) (oi := { dst := some 95, op := Go.Op.pick (Go.Operand.tmp 83) (Go.Operand.const (Go.Value.bool true)) (Go.Operand.tmp 94), type := 4, pos := "fix.go:323", after := #[{ on := 10, ground := Go.Ground.data }, { on := 21, ground := Go.Ground.data }], guard := none }) (v := ?_) rfl (by kernel_rfl) (by kernel_rfl) (by kernel_rfl) (fun _ _ _ h => h) (Or.inl ⟨by rfl, ?hy⟩) (by assumption) ?_
            case hy => (intro w9 hSw; (try dsimp only at hSw); go_simp; try with_reducible rfl)
            try simp only [Act.put, List.setIfInBounds_toArray, List.set_cons_zero, List.set_cons_succ]
            refine wpAnyH_done (by kernel_rfl) ?_ _
            try simp only [Act.put, List.setIfInBounds_toArray, List.set_cons_zero, List.set_cons_succ]
            have hb10 : Below W5.heap.size W5 w9 := by first | assumption | exact hHeld
            have HB10 : Hid (Below W5.heap.size W5 w9) := hb10
            clear hb10
            go_wp2_with fail
            go_roundw
            case rel => exact ⟨x + 1, by omega, by go_num, by rw [HN.out], HO5.out.keep HB10.out (HO5.out.lt hfx), Below.then HW5.out HB10.out⟩
            case measure => simp [intOf]; omega
        · obtain rfl : x = q := by omega
          have hcnt : (((filt I x).length : Int) == ((cnt2 (sn f x) q' : Nat) : Int)) = true := by rw [HCNT.out]; simp
          clear HO
          go_wp2_with fail
          go_ret
          exact ⟨rfl, Below.then HB3.out HW.out⟩
theorem galoisCloses_any (n0 : Int) (a0 : Option Addr) (la0 ca0 : Nat) (SA0 : Nat → Option Addr × Nat × Nat) (FA0 : Nat → Nat → Int) (b0 : Option Addr) (lb0 cb0 : Nat) (SB0 : Nat → Option Addr × Nat × Nat) (FB0 : Nat → Nat → Int)
    (n1 : Int) (a1 : Option Addr) (la1 ca1 : Nat) (SA1 : Nat → Option Addr × Nat × Nat) (FA1 : Nat → Nat → Int) (b1 : Option Addr) (lb1 cb1 : Nat) (SB1 : Nat → Option Addr × Nat × Nat) (FB1 : Nat → Nat → Int) (a2 : Option Addr) (b2 c2 : Nat) (f2 : Nat → Int) (w : World)
    (hla0 : la0 ≤ maxLen) (hlb0 : lb0 ≤ maxLen) (hla1 : la1 ≤ maxLen) (hlb1 : lb1 ≤ maxLen) (hl2 : b2 ≤ maxLen) (hra0 : RR w a0 la0 SA0 FA0) (hrb0 : RR w b0 lb0 SB0 FB0) (hra1 : RR w a1 la1 SA1 FA1) (hrb1 : RR w b1 lb1 SB1 FB1) (hr2 : Row w a2 b2 f2) :
    Calls Try.prog 8 #[.agg #[.int .i64 n0, .slice a0 la0 ca0, .slice b0 lb0 cb0], .agg #[.int .i64 n1, .slice a1 la1 ca1, .slice b1 lb1 cb1], .slice a2 b2 c2] w fun e w' => e = .returned (.bool true) ∧ Below w.heap.size w w' :=
  galoisCloses_all ⟨n0, a0, la0, ca0, SA0, FA0, b0, lb0, cb0, SB0, FB0⟩ ⟨n1, a1, la1, ca1, SA1, FA1, b1, lb1, cb1, SB1, FB1⟩ ⟨a2, b2, c2, f2⟩ w ⟨hla0, hlb0, hra0, hrb0⟩ ⟨hla1, hlb1, hra1, hrb1⟩ ⟨hl2, hr2⟩

end Go.Proofs.Ytfbgcadlahiljaa
