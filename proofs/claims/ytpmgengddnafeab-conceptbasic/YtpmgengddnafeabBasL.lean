/-
  For every context that is handed in, hasselaw.ConceptBasic returns true, and writes nothing that was there. No condition.
-/
import Derived.Test.YtpmgengddnafeabBasM
import Derived.Test.YtpmgengddnafeabConLat
import Derived.Test.YtpmgengddnafeabLatK
import Derived.Test.YtpmgengddnafeabGood2
namespace Go.Proofs.Ytpmgengddnafeab
open Go.RowKit

theorem common_as (a b c : Nat) (w : World) (h : a &&& b = c) (ha : a < 1024) (hb : b < 1024) :
    Calls Try.prog 15 #[.int .i64 a, .int .i64 b] w fun e w' => e = .returned (.int .i64 (c : Nat)) ∧ w' = w := by
  subst h
  exact (common_any a b w ha hb).mono fun _ _ ⟨h, h'⟩ => ⟨h, h'.symm⟩

set_option maxHeartbeats 4000000 in
theorem conceptBasic_any (L R : Int) (a : Option Addr) (len cap : Nat) (f : Nat → Int) (w : World) (hl : len ≤ maxLen) (hr : Row w a len f) :
    Calls Try.prog 4 #[.agg #[.int .i64 L, .int .i64 R, .slice a len cap]] w fun e w' => e = .returned (.bool true) ∧ Below w.heap.size w w' := by
  have K0 : GHeld (w.alloc (.cells #[.int .i64 L, .int .i64 R, .slice a len cap] 24)) w.heap.size L R a len cap f := GHeld.box hr
  have HB0 : Hid (Below w.heap.size w (w.alloc (.cells #[.int .i64 L, .int .i64 R, .slice a len cap] 24))) := (Below.refl _ _).alloc (Nat.le_refl _) _
  clear hr
  go_enter Try.func4, Try.ntmps4
  go_wp2_with fail
  refine (conceptBegun_any _).mono ?_
  rintro e w1 ⟨rfl, hb⟩
  have K1 := K0.step hb
  have HB1 : Hid (Below w.heap.size w w1) := Below.then HB0.out hb
  have k0 := K1.c0
  have k1 := K1.c1
  have k2 := K1.c2
  clear hb K0 HB0
  go_wp2_with fail
  refine (cLattice_any L R a len cap f _ hl K1.row).mono ?_
  rintro e w2 ⟨he, hb⟩
  have K2 := K1.step hb
  have HB2 : Hid (Below w.heap.size w w2) := Below.then HB1.out hb
  clear hb K1 HB1 k0 k1 k2
  obtain ⟨vk, va, vl, vc, vb, vl2, vc2, c, HE, HV⟩ : ∃ vk va vl vc vb vl2 vc2 c, Hid (e = .returned (.tuple #[.agg #[.int .i64 vk, .slice va vl vc, .slice vb vl2 vc2], .int .i64 c])) ∧ Hid (c ≠ 0 ∨ ∃ r : Nat, c = 0 ∧ GChk L R len f 0 ∧ L = (len : Int) ∧ R = (r : Int) ∧ len ≤ 10 ∧ r ≤ 10 ∧ GRng len r f ∧ OfV (tsets (nat f) len r).length w1.heap.size (cnm (nat f) len r) (cnj (nat f) len r) vk va vl vc vb vl2 vc2 c w2) := by
    rcases he with ⟨c, h0, _, rfl⟩ | ⟨r, h1, h2, h3, h4, h5, h6, h7⟩
    · exact ⟨0, none, 0, 0, none, 0, 0, c, rfl, .inl h0⟩
    · obtain ⟨vk, va, vl, vc, vb, vl2, vc2, c, rfl, hof⟩ := OfIs.form h7
      by_cases h0 : c = 0
      · exact ⟨vk, va, vl, vc, vb, vl2, vc2, c, rfl, .inr ⟨r, h0, h1, h2, h3, h4, h5, h6, hof⟩⟩
      · exact ⟨vk, va, vl, vc, vb, vl2, vc2, c, rfl, .inl h0⟩
  obtain rfl := HE.out
  clear he HE
  obtain ⟨w3, HW3⟩ : ∃ w3, Hid (w3 = w2.alloc (.cells #[.int .i64 vk, .slice va vl vc, .slice vb vl2 vc2] 38)) := ⟨_, rfl⟩
  have hb3 : Below w2.heap.size w2 w3 := by rw [HW3.out]; exact (Below.refl _ _).alloc (Nat.le_refl _) _
  have X3 : LB w3 w2.heap.size vk va vl vc vb vl2 vc2 := by rw [HW3.out]; exact LB.new _ _ _ _ _ _ _ _
  have HX3 : Hid (LB w3 w2.heap.size vk va vl vc vb vl2 vc2) := X3
  have K3 := K2.step hb3
  have K3e := K3
  rw [HW3.out] at K3e
  have k0 := K3e.c0
  have k1 := K3e.c1
  have k2 := K3e.c2
  have HB3 : Hid (Below w.heap.size w w3) := Below.then HB2.out hb3
  have HTE : Hid (Below w2.heap.size w2 w3) := hb3
  clear hb3 X3 K3e K2
  go_wp2_with fail
  rw [← HW3.out]
  clear HW3 k0 k1 k2
  refine (concepts_any L R a len cap f _ hl K3.row).mono ?_
  rintro e w4 ⟨he, hb4⟩
  have HB4 : Hid (Below w.heap.size w w4) := Below.then HB3.out hb4
  have HTF : Hid (Below w2.heap.size w2 w4) := Below.then HTE.out hb4
  have HX4 : Hid (LB w4 w2.heap.size vk va vl vc vb vl2 vc2) := HX3.out.step hb4
  clear hb4 K3 HX3 HB3 HTE
  rcases HV.out with h0 | ⟨r, rfl, hc, rfl, rfl, h10, r10, hrng, hof⟩
  · have hne : (c != 0) = true := by simpa using h0
    rcases he with ⟨c2, h02, hc2, rfl⟩ | ⟨r, v, _, _, _, _, _, _, rfl, _⟩
    · go_wp2_with fail
      go_ret
      exact ⟨rfl, HB4.out⟩
    · go_wp2_with fail
      go_ret
      exact ⟨rfl, HB4.out⟩
  rcases he with ⟨c2, h02, hc2, _⟩ | ⟨r', v, _, _, hrr, _, _, _, rfl, hv⟩
  · exact absurd (GChk.unique hc2 hc) h02
  obtain rfl : r' = r := by omega
  clear hrr
  rcases hof with ⟨_, _, _, _, _, _, _, _, h⟩ | ⟨h40, T1, T2, R1, R2, ⟨rfl, rfl, rfl, rfl, rfl, rfl, rfl, _⟩, ht1, ht2, _, _⟩
  · cases h
  have hg := hrng.small2 r10
  have HLAT : Hid (Lat (tsets (nat f) len r').length (cnm (nat f) len r') (cnj (nat f) len r')) := con_lat h10 r10 hg
  have hpos := tsets_pos (m := r') h10 r10 hg
  obtain ⟨pa, pc, rfl, hpr⟩ := hv
  have HT : Hid (∀ x, x < (tsets (nat f) len r').length → nth (tsets (nat f) len r') x < 1024 ∧ mks (nat f) len r' (nth (tsets (nat f) len r') x) < 1024) := fun x hx => ⟨tsets_1024 h10 hx, mks_1024 _ _ r10 _⟩
  have HM : Hid (∀ x y, x < (tsets (nat f) len r').length → y < (tsets (nat f) len r').length → cnm (nat f) len r' x y < (tsets (nat f) len r').length ∧ nth (tsets (nat f) len r') x &&& nth (tsets (nat f) len r') y = nth (tsets (nat f) len r') (cnm (nat f) len r' x y)) := fun x y hx hy => by
    have := cnm_is (m := r') h10 r10 hg hx hy
    exact ⟨this.1, this.2.symm⟩
  have HJ : Hid (∀ x y, x < (tsets (nat f) len r').length → y < (tsets (nat f) len r').length → cnj (nat f) len r' x y < (tsets (nat f) len r').length ∧ mks (nat f) len r' (nth (tsets (nat f) len r') x) &&& mks (nat f) len r' (nth (tsets (nat f) len r') y) = mks (nat f) len r' (nth (tsets (nat f) len r') (cnj (nat f) len r' x y))) := fun x y hx hy => ⟨(cnj_is (m := r') h10 r10 hg hx hy).1, (con_join h10 r10 hg hx hy).symm⟩
  have HPR : Hid (PRow w4 pa (tsets (nat f) len r').length (fun k => (((nth (tsets (nat f) len r') k : Nat) : Int), ((mks (nat f) len r' (nth (tsets (nat f) len r') k) : Nat) : Int)))) := fun k hk => by
    obtain ⟨b, off, e, g1, g2⟩ := hpr k (by rw [cons_length]; exact hk)
    rw [cons_at hk] at g1
    rw [cons_at2 hk] at g2
    exact ⟨b, off, e, g1, g2⟩
  rw [cons_length]
  have ht1' := ht1.step HTF.out
  have ht2' := ht2.step HTF.out
  clear ht1 ht2 hpr hrng hc
  generalize (tsets (nat f) len r').length = q at *
  obtain ⟨X, HXE⟩ : ∃ X : Nat → Nat, Hid (X = fun k => nth (tsets (nat f) len r') k) := ⟨_, rfl⟩
  obtain ⟨Y, HYE⟩ : ∃ Y : Nat → Nat, Hid (Y = fun k => mks (nat f) len r' (nth (tsets (nat f) len r') k)) := ⟨_, rfl⟩
  have HT2 : Hid (∀ x, x < q → X x < 1024 ∧ Y x < 1024) := by rw [HXE.out, HYE.out]; exact HT.out
  have HM2 : Hid (∀ x y, x < q → y < q → cnm (nat f) len r' x y < q ∧ X x &&& X y = X (cnm (nat f) len r' x y)) := by rw [HXE.out]; exact HM.out
  have HJ2 : Hid (∀ x y, x < q → y < q → cnj (nat f) len r' x y < q ∧ Y x &&& Y y = Y (cnj (nat f) len r' x y)) := by rw [HYE.out]; exact HJ.out
  have HPR2 : Hid (PRow w4 pa q (fun k => (((X k : Nat) : Int), ((Y k : Nat) : Int)))) := by rw [HXE.out, HYE.out]; exact HPR.out
  clear HT HM HJ HPR HXE HYE hg
  generalize cnm (nat f) len r' = M at *
  generalize cnj (nat f) len r' = J at *
  obtain ⟨B, HBE⟩ : ∃ B, Hid (B = w2.heap.size) := ⟨_, rfl⟩
  rw [← HBE.out] at HX4 ⊢
  have x0 := HX4.out.1
  have x1 := HX4.out.2.1
  have x2 := HX4.out.2.2
  have HCK : Hid (Calls Try.prog 14 #[.agg #[.int .i64 (q : Int), .slice (some ⟨T1, 0, none⟩) q q, .slice (some ⟨T2, 0, none⟩) q q]] w4 fun e w' => (∃ c, e = .returned (.int .i64 c) ∧ c = 0) ∧ Below w4.heap.size w4 w') := by
    refine (lCheck_any (q : Int) (some ⟨T1, 0, none⟩) q q _ _ (some ⟨T2, 0, none⟩) q q _ _ w4 (by unfold maxLen; omega) (by unfold maxLen; omega) (ht1'.rr (by unfold maxLen; omega)) (ht2'.rr (by unfold maxLen; omega))).mono ?_
    rintro e w' ⟨⟨c, rfl, hc⟩, hb⟩
    exact ⟨⟨c, rfl, hc.one (LCk.of (by omega) h40 (fun _ _ => rfl) (fun _ _ => rfl) HLAT.out)⟩, hb⟩
  have HT1 : Hid (Tb w4 T1 0 q R1 M) := ht1'
  have HT2' : Hid (Tb w4 T2 0 q R2 J) := ht2'
  clear ht1' ht2' HLAT HBE HTF
  go_wp2_with fail
  refine HCK.out.mono ?_
  rintro e w5 ⟨⟨c, rfl, rfl⟩, hb5⟩
  have HX5 : Hid (LB w5 B (q : Int) (some ⟨T1, 0, none⟩) q q (some ⟨T2, 0, none⟩) q q) := HX4.out.step hb5
  have HB5 : Hid (Below w.heap.size w w5) := Below.then HB4.out hb5
  have HP5 : Hid (PRow w5 pa q (fun k => (((X k : Nat) : Int), ((Y k : Nat) : Int)))) := HPR2.out.below hb5
  have HT15 : Hid (Tb w5 T1 0 q R1 M) := HT1.out.step hb5
  have HT25 : Hid (Tb w5 T2 0 q R2 J) := HT2'.out.step hb5
  clear hb5 HX4 HB4 HPR2 HT1 HT2' HCK x0 x1 x2
  have x0 := HX5.out.1
  go_wp2_with fail
  clear x0
  go_loopw [7] (fun i wx => ∃ k : Nat, k ≤ q ∧ i = .int .i64 k ∧ Hid (Below w5.heap.size w5 wx)) (fun i _ => q - (intOf i).toNat)
  case atStart => exact ⟨0, Nat.zero_le _, rfl, Below.refl _ _⟩
  case round =>
    obtain ⟨x, hx, rfl, HBX⟩ := hrel
    have x0 := (HX5.out.step HBX.out).1
    by_cases hxl : x < q
    · have hxl' : (x : Int) < (q : Int) := by omega
      go_wp2_with fail
      clear x0
      go_loopw [8] (fun i wx => ∃ k : Nat, k ≤ q ∧ i = .int .i64 k ∧ Hid (Below w5.heap.size w5 wx)) (fun i _ => q - (intOf i).toNat)
      case atStart => exact ⟨0, Nat.zero_le _, rfl, HBX⟩
      case round =>
        clear HBX
        obtain ⟨y, hy, rfl, HBY⟩ := hrel
        have x0 := (HX5.out.step HBY.out).1
        by_cases hyl : y < q
        · have hyl' : (y : Int) < (q : Int) := by omega
          go_wp2_with fail
          clear x0
          have KK : Below w5.heap.size w5 wr.drew := Below.then HBY.out (Below.refl _ _).drew
          have x1 : ∀ w', Below w5.heap.size w5 w' → w'.cell? ⟨B, 1, none⟩ = some (.slice (some ⟨T1, 0, none⟩) q q) := fun w' h => (HX5.out.step h).2.1
          have x2 : ∀ w', Below w5.heap.size w5 w' → w'.cell? ⟨B, 2, none⟩ = some (.slice (some ⟨T2, 0, none⟩) q q) := fun w' h => (HX5.out.step h).2.2
          have t1 : ∀ w', Below w5.heap.size w5 w' → w'.cell? ⟨T1, x, none⟩ = some (.slice (some ⟨(R1 x).1, (R1 x).2.1, none⟩) q (R1 x).2.2) := fun w' h => by have h9 := (HT15.out.step h x hxl).1; rw [Nat.zero_add] at h9; exact h9
          have t2 : ∀ w', Below w5.heap.size w5 w' → w'.cell? ⟨(R1 x).1, (R1 x).2.1 + y, none⟩ = some (.int .i64 (M x y : Nat)) := fun w' h => (HT15.out.step h x hxl).2 y hyl
          have t3 : ∀ w', Below w5.heap.size w5 w' → w'.cell? ⟨T2, x, none⟩ = some (.slice (some ⟨(R2 x).1, (R2 x).2.1, none⟩) q (R2 x).2.2) := fun w' h => by have h9 := (HT25.out.step h x hxl).1; rw [Nat.zero_add] at h9; exact h9
          have t4 : ∀ w', Below w5.heap.size w5 w' → w'.cell? ⟨(R2 x).1, (R2 x).2.1 + y, none⟩ = some (.int .i64 (J x y : Nat)) := fun w' h => (HT25.out.step h x hxl).2 y hyl
          obtain ⟨m1, m2⟩ := HM2.out x y hxl hyl
          obtain ⟨j1, j2⟩ := HJ2.out x y hxl hyl
          have m1' : ((M x y : Nat) : Int) < (q : Int) := by omega
          have j1' : ((J x y : Nat) : Int) < (q : Int) := by omega
          obtain ⟨b, off, rfl, p1, p2⟩ := HP5.out x hxl
          obtain ⟨b', off', e', p3, p4⟩ := HP5.out y hyl
          cases e'
          obtain ⟨b', off', e', p5, _⟩ := HP5.out _ m1
          cases e'
          obtain ⟨b', off', e', _, p6⟩ := HP5.out _ j1
          cases e'
          have q1 : ∀ w', Below w5.heap.size w5 w' → w'.cell? ⟨b, off + x * 2, none⟩ = some (.int .i64 (X x : Nat)) := fun w' h => cell_step h p1
          have q2 : ∀ w', Below w5.heap.size w5 w' → w'.cell? ⟨b, off + x * 2 + 1, none⟩ = some (.int .i64 (Y x : Nat)) := fun w' h => cell_step h p2
          have q3 : ∀ w', Below w5.heap.size w5 w' → w'.cell? ⟨b, off + y * 2, none⟩ = some (.int .i64 (X y : Nat)) := fun w' h => cell_step h p3
          have q4 : ∀ w', Below w5.heap.size w5 w' → w'.cell? ⟨b, off + y * 2 + 1, none⟩ = some (.int .i64 (Y y : Nat)) := fun w' h => cell_step h p4
          have q5 : ∀ w', Below w5.heap.size w5 w' → w'.cell? ⟨b, off + M x y * 2, none⟩ = some (.int .i64 (X (M x y) : Nat)) := fun w' h => cell_step h p5
          have q6 : ∀ w', Below w5.heap.size w5 w' → w'.cell? ⟨b, off + J x y * 2 + 1, none⟩ = some (.int .i64 (Y (J x y) : Nat)) := fun w' h => cell_step h p6
          have b1 := HT2.out x hxl
          have b2 := HT2.out y hyl
          have HKK : Hid (Below w5.heap.size w5 wr.drew) := KK
          clear p1 p2 p3 p4 p5 p6
          refine wp_region_held_drew (S := (fun w' => Below w5.heap.size w5 w')) (by kernel_rfl) (KK) (fun hHeld => ?_)
          refine wpAnyH_take (i := 0) (oi := { dst := some 49, op := Go.Op.move (Go.Operand.tmp 5), type := 26, pos := "fix.go:481", after := #[], guard := none }) (v := ?_) rfl (by kernel_rfl) (by kernel_rfl) (by kernel_rfl) (fun _ _ _ h => h) (Or.inl ⟨by rfl, ?hy⟩) (by assumption) ?_
          case hy => (intro w9 hSw; (try dsimp only at hSw); go_simp; try with_reducible rfl)
          try simp only [Act.put, List.setIfInBounds_toArray, List.set_cons_zero, List.set_cons_succ]
          refine wpAnyH_take (i := 1) (oi := { dst := some 50, op := Go.Op.fieldAddr 38 (Go.Operand.tmp 3) 1, type := 0, pos := "fix.go:481", after := #[], guard := none }) (v := ?_) rfl (by kernel_rfl) (by kernel_rfl) (by kernel_rfl) (fun _ _ _ h => h) (Or.inl ⟨by rfl, ?hy⟩) (by assumption) ?_
          case hy => (intro w9 hSw; (try dsimp only at hSw); go_simp; try with_reducible rfl)
          try simp only [Act.put, List.setIfInBounds_toArray, List.set_cons_zero, List.set_cons_succ]
          refine wpAnyH_take (i := 2) (oi := { dst := some 51, op := Go.Op.load 36 (Go.Operand.tmp 50), type := 36, pos := "fix.go:481", after := #[{ on := 1, ground := Go.Ground.data }], guard := none }) (v := ?_) rfl (by kernel_rfl) (by kernel_rfl) (by kernel_rfl) (fun _ _ _ h => h) (Or.inl ⟨by rfl, ?hy⟩) (by assumption) ?_
          case hy => (intro w9 hSw; (try dsimp only at hSw); go_simp; try with_reducible rfl)
          try simp only [Act.put, List.setIfInBounds_toArray, List.set_cons_zero, List.set_cons_succ]
          refine wpAnyH_take (i := 3) (oi := { dst := some 52, op := Go.Op.move (Go.Operand.tmp 7), type := 3, pos := "fix.go:481", after := #[], guard := none }) (v := ?_) rfl (by kernel_rfl) (by kernel_rfl) (by kernel_rfl) (fun _ _ _ h => h) (Or.inl ⟨by rfl, ?hy⟩) (by assumption) ?_
          case hy => (intro w9 hSw; (try dsimp only at hSw); go_simp; try with_reducible rfl)
          try simp only [Act.put, List.setIfInBounds_toArray, List.set_cons_zero, List.set_cons_succ]
          refine wpAnyH_take (i := 4) (oi := { dst := some 53, op := Go.Op.indexAddr 36 (Go.Operand.tmp 51) (Go.Operand.tmp 52), type := 0, pos := "fix.go:481", after := #[{ on := 2, ground := Go.Ground.data }, { on := 3, ground := Go.Ground.data }], guard := none }) (v := ?_) rfl (by kernel_rfl) (by kernel_rfl) (by kernel_rfl) (fun _ _ _ h => h) (Or.inl ⟨by rfl, ?hy⟩) (by assumption) ?_
          case hy => (intro w9 hSw; (try dsimp only at hSw); go_simp; try with_reducible rfl)
          try simp only [Act.put, List.setIfInBounds_toArray, List.set_cons_zero, List.set_cons_succ]
          refine wpAnyH_take (i := 5) (oi := { dst := some 54, op := Go.Op.load 22 (Go.Operand.tmp 53), type := 22, pos := "fix.go:481", after := #[{ on := 4, ground := Go.Ground.data }], guard := none }) (v := ?_) rfl (by kernel_rfl) (by kernel_rfl) (by kernel_rfl) (fun _ _ _ h => h) (Or.inl ⟨by rfl, ?hy⟩) (by assumption) ?_
          case hy => (intro w9 hSw; (try dsimp only at hSw); go_simp; try with_reducible rfl)
          try simp only [Act.put, List.setIfInBounds_toArray, List.set_cons_zero, List.set_cons_succ]
          refine wpAnyH_take (i := 6) (oi := { dst := some 55, op := Go.Op.move (Go.Operand.tmp 8), type := 3, pos := "fix.go:481", after := #[], guard := none }) (v := ?_) rfl (by kernel_rfl) (by kernel_rfl) (by kernel_rfl) (fun _ _ _ h => h) (Or.inl ⟨by rfl, ?hy⟩) (by assumption) ?_
          case hy => (intro w9 hSw; (try dsimp only at hSw); go_simp; try with_reducible rfl)
          try simp only [Act.put, List.setIfInBounds_toArray, List.set_cons_zero, List.set_cons_succ]
          refine wpAnyH_take (i := 7) (oi := { dst := some 56, op := Go.Op.indexAddr 22 (Go.Operand.tmp 54) (Go.Operand.tmp 55), type := 0, pos := "fix.go:481", after := #[{ on := 5, ground := Go.Ground.data }, { on := 6, ground := Go.Ground.data }], guard := none }) (v := ?_) rfl (by kernel_rfl) (by kernel_rfl) (by kernel_rfl) (fun _ _ _ h => h) (Or.inl ⟨by rfl, ?hy⟩) (by assumption) ?_
          case hy => (intro w9 hSw; (try dsimp only at hSw); go_simp; try with_reducible rfl)
          try simp only [Act.put, List.setIfInBounds_toArray, List.set_cons_zero, List.set_cons_succ]
          refine wpAnyH_take (i := 8) (oi := { dst := some 57, op := Go.Op.load 3 (Go.Operand.tmp 56), type := 3, pos := "fix.go:481", after := #[{ on := 7, ground := Go.Ground.data }], guard := none }) (v := ?_) rfl (by kernel_rfl) (by kernel_rfl) (by kernel_rfl) (fun _ _ _ h => h) (Or.inl ⟨by rfl, ?hy⟩) (by assumption) ?_
          case hy => (intro w9 hSw; (try dsimp only at hSw); go_simp; try with_reducible rfl)
          try simp only [Act.put, List.setIfInBounds_toArray, List.set_cons_zero, List.set_cons_succ]
          refine wpAnyH_take (i := 9) (oi := { dst := some 58, op := Go.Op.indexAddr 26 (Go.Operand.tmp 49) (Go.Operand.tmp 57), type := 0, pos := "fix.go:481", after := #[{ on := 0, ground := Go.Ground.data }, { on := 8, ground := Go.Ground.data }], guard := none }) (v := ?_) rfl (by kernel_rfl) (by kernel_rfl) (by kernel_rfl) (fun _ _ _ h => h) (Or.inl ⟨by rfl, ?hy⟩) (by assumption) ?_
          case hy => (intro w9 hSw; (try dsimp only at hSw); go_simp; try with_reducible rfl)
          try simp only [Act.put, List.setIfInBounds_toArray, List.set_cons_zero, List.set_cons_succ]
          refine wpAnyH_take (i := 10) (oi := { dst := some 59, op := Go.Op.indexAddr 34 (Go.Operand.tmp 58) (Go.Operand.const (Go.Value.int Go.IntKind.i64 0)), type := 0, pos := "fix.go:481", after := #[{ on := 9, ground := Go.Ground.data }], guard := none }) (v := ?_) rfl (by kernel_rfl) (by kernel_rfl) (by kernel_rfl) (fun _ _ _ h => h) (Or.inl ⟨by rfl, ?hy⟩) (by assumption) ?_
          case hy => (intro w9 hSw; (try dsimp only at hSw); go_simp; try with_reducible rfl)
          try simp only [Act.put, List.setIfInBounds_toArray, List.set_cons_zero, List.set_cons_succ]
          refine wpAnyH_take (i := 11) (oi := { dst := some 60, op := Go.Op.load 3 (Go.Operand.tmp 59), type := 3, pos := "fix.go:481", after := #[{ on := 10, ground := Go.Ground.data }], guard := none }) (v := ?_) rfl (by kernel_rfl) (by kernel_rfl) (by kernel_rfl) (fun _ _ _ h => h) (Or.inl ⟨by rfl, ?hy⟩) (by assumption) ?_
          case hy => (intro w9 hSw; (try dsimp only at hSw); go_simp; try with_reducible rfl)
          try simp only [Act.put, List.setIfInBounds_toArray, List.set_cons_zero, List.set_cons_succ]
          refine wpAnyH_take (i := 12) (oi := { dst := some 61, op := Go.Op.move (Go.Operand.tmp 5), type := 26, pos := "fix.go:481", after := #[], guard := none }) (v := ?_) rfl (by kernel_rfl) (by kernel_rfl) (by kernel_rfl) (fun _ _ _ h => h) (Or.inl ⟨by rfl, ?hy⟩) (by assumption) ?_
          case hy => (intro w9 hSw; (try dsimp only at hSw); go_simp; try with_reducible rfl)
          try simp only [Act.put, List.setIfInBounds_toArray, List.set_cons_zero, List.set_cons_succ]
          refine wpAnyH_take (i := 13) (oi := { dst := some 62, op := Go.Op.move (Go.Operand.tmp 7), type := 3, pos := "fix.go:481", after := #[], guard := none }) (v := ?_) rfl (by kernel_rfl) (by kernel_rfl) (by kernel_rfl) (fun _ _ _ h => h) (Or.inl ⟨by rfl, ?hy⟩) (by assumption) ?_
          case hy => (intro w9 hSw; (try dsimp only at hSw); go_simp; try with_reducible rfl)
          try simp only [Act.put, List.setIfInBounds_toArray, List.set_cons_zero, List.set_cons_succ]
          refine wpAnyH_take (i := 14) (oi := { dst := some 63, op := Go.Op.indexAddr 26 (Go.Operand.tmp 61) (Go.Operand.tmp 62), type := 0, pos := "fix.go:481", after := #[{ on := 12, ground := Go.Ground.data }, { on := 13, ground := Go.Ground.data }], guard := none }) (v := ?_) rfl (by kernel_rfl) (by kernel_rfl) (by kernel_rfl) (fun _ _ _ h => h) (Or.inl ⟨by rfl, ?hy⟩) (by assumption) ?_
          case hy => (intro w9 hSw; (try dsimp only at hSw); go_simp; try with_reducible rfl)
          try simp only [Act.put, List.setIfInBounds_toArray, List.set_cons_zero, List.set_cons_succ]
          refine wpAnyH_take (i := 15) (oi := { dst := some 64, op := Go.Op.indexAddr 34 (Go.Operand.tmp 63) (Go.Operand.const (Go.Value.int Go.IntKind.i64 0)), type := 0, pos := "fix.go:481", after := #[{ on := 14, ground := Go.Ground.data }], guard := none }) (v := ?_) rfl (by kernel_rfl) (by kernel_rfl) (by kernel_rfl) (fun _ _ _ h => h) (Or.inl ⟨by rfl, ?hy⟩) (by assumption) ?_
          case hy => (intro w9 hSw; (try dsimp only at hSw); go_simp; try with_reducible rfl)
          try simp only [Act.put, List.setIfInBounds_toArray, List.set_cons_zero, List.set_cons_succ]
          refine wpAnyH_take (i := 16) (oi := { dst := some 65, op := Go.Op.load 3 (Go.Operand.tmp 64), type := 3, pos := "fix.go:481", after := #[{ on := 15, ground := Go.Ground.data }], guard := none }) (v := ?_) rfl (by kernel_rfl) (by kernel_rfl) (by kernel_rfl) (fun _ _ _ h => h) (Or.inl ⟨by rfl, ?hy⟩) (by assumption) ?_
          case hy => (intro w9 hSw; (try dsimp only at hSw); go_simp; try with_reducible rfl)
          try simp only [Act.put, List.setIfInBounds_toArray, List.set_cons_zero, List.set_cons_succ]
          refine wpAnyH_take (i := 17) (oi := { dst := some 66, op := Go.Op.move (Go.Operand.tmp 5), type := 26, pos := "fix.go:481", after := #[], guard := none }) (v := ?_) rfl (by kernel_rfl) (by kernel_rfl) (by kernel_rfl) (fun _ _ _ h => h) (Or.inl ⟨by rfl, ?hy⟩) (by assumption) ?_
          case hy => (intro w9 hSw; (try dsimp only at hSw); go_simp; try with_reducible rfl)
          try simp only [Act.put, List.setIfInBounds_toArray, List.set_cons_zero, List.set_cons_succ]
          refine wpAnyH_take (i := 18) (oi := { dst := some 67, op := Go.Op.move (Go.Operand.tmp 8), type := 3, pos := "fix.go:481", after := #[], guard := none }) (v := ?_) rfl (by kernel_rfl) (by kernel_rfl) (by kernel_rfl) (fun _ _ _ h => h) (Or.inl ⟨by rfl, ?hy⟩) (by assumption) ?_
          case hy => (intro w9 hSw; (try dsimp only at hSw); go_simp; try with_reducible rfl)
          try simp only [Act.put, List.setIfInBounds_toArray, List.set_cons_zero, List.set_cons_succ]
          refine wpAnyH_take (i := 19) (oi := { dst := some 68, op := Go.Op.indexAddr 26 (Go.Operand.tmp 66) (Go.Operand.tmp 67), type := 0, pos := "fix.go:481", after := #[{ on := 17, ground := Go.Ground.data }, { on := 18, ground := Go.Ground.data }], guard := none }) (v := ?_) rfl (by kernel_rfl) (by kernel_rfl) (by kernel_rfl) (fun _ _ _ h => h) (Or.inl ⟨by rfl, ?hy⟩) (by assumption) ?_
          case hy => (intro w9 hSw; (try dsimp only at hSw); go_simp; try with_reducible rfl)
          try simp only [Act.put, List.setIfInBounds_toArray, List.set_cons_zero, List.set_cons_succ]
          refine wpAnyH_take (i := 20) (oi := { dst := some 69, op := Go.Op.indexAddr 34 (Go.Operand.tmp 68) (Go.Operand.const (Go.Value.int Go.IntKind.i64 0)), type := 0, pos := "fix.go:481", after := #[{ on := 19, ground := Go.Ground.data }], guard := none }) (v := ?_) rfl (by kernel_rfl) (by kernel_rfl) (by kernel_rfl) (fun _ _ _ h => h) (Or.inl ⟨by rfl, ?hy⟩) (by assumption) ?_
          case hy => (intro w9 hSw; (try dsimp only at hSw); go_simp; try with_reducible rfl)
          try simp only [Act.put, List.setIfInBounds_toArray, List.set_cons_zero, List.set_cons_succ]
          refine wpAnyH_take (i := 21) (oi := { dst := some 70, op := Go.Op.load 3 (Go.Operand.tmp 69), type := 3, pos := "fix.go:481", after := #[{ on := 20, ground := Go.Ground.data }], guard := none }) (v := ?_) rfl (by kernel_rfl) (by kernel_rfl) (by kernel_rfl) (fun _ _ _ h => h) (Or.inl ⟨by rfl, ?hy⟩) (by assumption) ?_
          case hy => (intro w9 hSw; (try dsimp only at hSw); go_simp; try with_reducible rfl)
          try simp only [Act.put, List.setIfInBounds_toArray, List.set_cons_zero, List.set_cons_succ]
          refine wpAnyH_ready (rs := [22]) (by kernel_rfl) (by simp) ?_
          refine AllReadyH.cons (o := { dst := some 71, op := Go.Op.call { callee := Go.Callee.value (Go.Operand.func 15), args := #[Go.Operand.tmp 65, Go.Operand.tmp 70], argTypes := #[3, 3] }, type := 3, pos := "fix.go:481", after := #[{ on := 16, ground := Go.Ground.data }, { on := 21, ground := Go.Ground.data }], guard := none }) rfl (fun K hK => ?_) AllReadyH.nil
          go_simp
          refine (common_as _ _ _ _ m2 b1.1 b2.1).mono ?_
          rintro e w6 ⟨rfl, hw6⟩
          subst hw6
          refine hK.out _ _ ?_ (fun hHeld => ?_)
          · first | assumption | exact hHeld
          clear hK K
          try simp only [Act.put, List.setIfInBounds_toArray, List.set_cons_zero, List.set_cons_succ]
          refine wpAnyH_take (i := 23) (oi := { dst := some 72, op := Go.Op.binOp Go.BinOp.neq 3 (Go.Operand.tmp 60) (Go.Operand.tmp 71) 3, type := 4, pos := "fix.go:481", after := #[{ on := 11, ground := Go.Ground.data }, { on := 22, ground := Go.Ground.data }], guard := none }) (v := ?_) rfl (by kernel_rfl) (by kernel_rfl) (by kernel_rfl) (fun _ _ _ h => h) (Or.inl ⟨by rfl, ?hy⟩) (by assumption) ?_
          case hy => (intro w9 hSw; (try dsimp only at hSw); go_simp; try with_reducible rfl)
          try simp only [Act.put, List.setIfInBounds_toArray, List.set_cons_zero, List.set_cons_succ]
          refine wpAnyH_take (i := 24) (oi := { dst := some 73, op := Go.Op.move (Go.Operand.tmp 72), type := 4, pos := "fix.go:481", after := #[{ on := 23, ground := Go.Ground.data }, { on := 22, ground := Go.Ground.chain }], guard := none }) (v := ?_) rfl (by kernel_rfl) (by kernel_rfl) (by kernel_rfl) (fun _ _ _ h => h) (Or.inl ⟨by rfl, ?hy⟩) (by assumption) ?_
          case hy => (intro w9 hSw; (try dsimp only at hSw); go_simp; try with_reducible rfl)
          try simp only [Act.put, List.setIfInBounds_toArray, List.set_cons_zero, List.set_cons_succ]
          refine wpAnyH_take (i := 25) (oi := { dst := some 74, op := Go.Op.move (Go.Operand.tmp 5), type := 26, pos := "fix.go:481", after := #[{ on := 24, ground := Go.Ground.guard }], guard := some (24, false) }) (v := ?_) rfl (by kernel_rfl) (by kernel_rfl) (by kernel_rfl) (fun _ _ _ h => h) (Or.inl ⟨by rfl, ?hy⟩) (by assumption) ?_
          case hy => (intro w9 hSw; (try dsimp only at hSw); go_simp; try with_reducible rfl)
          try simp only [Act.put, List.setIfInBounds_toArray, List.set_cons_zero, List.set_cons_succ]
          refine wpAnyH_take (i := 26) (oi := { dst := some 75, op := Go.Op.fieldAddr 38 (Go.Operand.tmp 3) 2, type := 0, pos := "fix.go:481", after := #[{ on := 24, ground := Go.Ground.guard }], guard := some (24, false) }) (v := ?_) rfl (by kernel_rfl) (by kernel_rfl) (by kernel_rfl) (fun _ _ _ h => h) (Or.inl ⟨by rfl, ?hy⟩) (by assumption) ?_
          case hy => (intro w9 hSw; (try dsimp only at hSw); go_simp; try with_reducible rfl)
          try simp only [Act.put, List.setIfInBounds_toArray, List.set_cons_zero, List.set_cons_succ]
          refine wpAnyH_take (i := 27) (oi := { dst := some 76, op := Go.Op.load 36 (Go.Operand.tmp 75), type := 36, pos := "fix.go:481", after := #[{ on := 26, ground := Go.Ground.data }, { on := 24, ground := Go.Ground.guard }], guard := some (24, false) }) (v := ?_) rfl (by kernel_rfl) (by kernel_rfl) (by kernel_rfl) (fun _ _ _ h => h) (Or.inl ⟨by rfl, ?hy⟩) (by assumption) ?_
          case hy => (intro w9 hSw; (try dsimp only at hSw); go_simp; try with_reducible rfl)
          try simp only [Act.put, List.setIfInBounds_toArray, List.set_cons_zero, List.set_cons_succ]
          refine wpAnyH_take (i := 28) (oi := { dst := some 77, op := Go.Op.move (Go.Operand.tmp 7), type := 3, pos := "fix.go:481", after := #[{ on := 24, ground := Go.Ground.guard }], guard := some (24, false) }) (v := ?_) rfl (by kernel_rfl) (by kernel_rfl) (by kernel_rfl) (fun _ _ _ h => h) (Or.inl ⟨by rfl, ?hy⟩) (by assumption) ?_
          case hy => (intro w9 hSw; (try dsimp only at hSw); go_simp; try with_reducible rfl)
          try simp only [Act.put, List.setIfInBounds_toArray, List.set_cons_zero, List.set_cons_succ]
          refine wpAnyH_take (i := 29) (oi := { dst := some 78, op := Go.Op.indexAddr 36 (Go.Operand.tmp 76) (Go.Operand.tmp 77), type := 0, pos := "fix.go:481", after := #[{ on := 27, ground := Go.Ground.data }, { on := 28, ground := Go.Ground.data }, { on := 24, ground := Go.Ground.guard }], guard := some (24, false) }) (v := ?_) rfl (by kernel_rfl) (by kernel_rfl) (by kernel_rfl) (fun _ _ _ h => h) (Or.inl ⟨by rfl, ?hy⟩) (by assumption) ?_
          case hy => (intro w9 hSw; (try dsimp only at hSw); go_simp; try with_reducible rfl)
          try simp only [Act.put, List.setIfInBounds_toArray, List.set_cons_zero, List.set_cons_succ]
          refine wpAnyH_take (i := 30) (oi := { dst := some 79, op := Go.Op.load 22 (Go.Operand.tmp 78), type := 22, pos := "fix.go:481", after := #[{ on := 29, ground := Go.Ground.data }, { on := 24, ground := Go.Ground.guard }], guard := some (24, false) }) (v := ?_) rfl (by kernel_rfl) (by kernel_rfl) (by kernel_rfl) (fun _ _ _ h => h) (Or.inl ⟨by rfl, ?hy⟩) (by assumption) ?_
          case hy => (intro w9 hSw; (try dsimp only at hSw); go_simp; try with_reducible rfl)
          try simp only [Act.put, List.setIfInBounds_toArray, List.set_cons_zero, List.set_cons_succ]
          refine wpAnyH_take (i := 31) (oi := { dst := some 80, op := Go.Op.move (Go.Operand.tmp 8), type := 3, pos := "fix.go:481", after := #[{ on := 24, ground := Go.Ground.guard }], guard := some (24, false) }) (v := ?_) rfl (by kernel_rfl) (by kernel_rfl) (by kernel_rfl) (fun _ _ _ h => h) (Or.inl ⟨by rfl, ?hy⟩) (by assumption) ?_
          case hy => (intro w9 hSw; (try dsimp only at hSw); go_simp; try with_reducible rfl)
          try simp only [Act.put, List.setIfInBounds_toArray, List.set_cons_zero, List.set_cons_succ]
          refine wpAnyH_take (i := 32) (oi := { dst := some 81, op := Go.Op.indexAddr 22 (Go.Operand.tmp 79) (Go.Operand.tmp 80), type := 0, pos := "fix.go:481", after := #[{ on := 30, ground := Go.Ground.data }, { on := 31, ground := Go.Ground.data }, { on := 24, ground := Go.Ground.guard }], guard := some (24, false) }) (v := ?_) rfl (by kernel_rfl) (by kernel_rfl) (by kernel_rfl) (fun _ _ _ h => h) (Or.inl ⟨by rfl, ?hy⟩) (by assumption) ?_
          case hy => (intro w9 hSw; (try dsimp only at hSw); go_simp; try with_reducible rfl)
          try simp only [Act.put, List.setIfInBounds_toArray, List.set_cons_zero, List.set_cons_succ]
          refine wpAnyH_take (i := 33) (oi := { dst := some 82, op := Go.Op.load 3 (Go.Operand.tmp 81), type := 3, pos := "fix.go:481", after := #[{ on := 32, ground := Go.Ground.data }, { on := 24, ground := Go.Ground.guard }], guard := some (24, false) }) (v := ?_) rfl (by kernel_rfl) (by kernel_rfl) (by kernel_rfl) (fun _ _ _ h => h) (Or.inl ⟨by rfl, ?hy⟩) (by assumption) ?_
          case hy => (intro w9 hSw; (try dsimp only at hSw); go_simp; try with_reducible rfl)
          try simp only [Act.put, List.setIfInBounds_toArray, List.set_cons_zero, List.set_cons_succ]
          refine wpAnyH_take (i := 34) (oi := { dst := some 83, op := Go.Op.indexAddr 26 (Go.Operand.tmp 74) (Go.Operand.tmp 82), type := 0, pos := "fix.go:481", after := #[{ on := 25, ground := Go.Ground.data }, { on := 33, ground := Go.Ground.data }, { on := 24, ground := Go.Ground.guard }], guard := some (24, false) }) (v := ?_) rfl (by kernel_rfl) (by kernel_rfl) (by kernel_rfl) (fun _ _ _ h => h) (Or.inl ⟨by rfl, ?hy⟩) (by assumption) ?_
          case hy => (intro w9 hSw; (try dsimp only at hSw); go_simp; try with_reducible rfl)
          try simp only [Act.put, List.setIfInBounds_toArray, List.set_cons_zero, List.set_cons_succ]
          refine wpAnyH_take (i := 35) (oi := { dst := some 84, op := Go.Op.indexAddr 34 (Go.Operand.tmp 83) (Go.Operand.const (Go.Value.int Go.IntKind.i64 1)), type := 0, pos := "fix.go:481", after := #[{ on := 34, ground := Go.Ground.data }, { on := 24, ground := Go.Ground.guard }], guard := some (24, false) }) (v := ?_) rfl (by kernel_rfl) (by kernel_rfl) (by kernel_rfl) (fun _ _ _ h => h) (Or.inl ⟨by rfl, ?hy⟩) (by assumption) ?_
          case hy => (intro w9 hSw; (try dsimp only at hSw); go_simp; try with_reducible rfl)
          try simp only [Act.put, List.setIfInBounds_toArray, List.set_cons_zero, List.set_cons_succ]
          refine wpAnyH_take (i := 36) (oi := { dst := some 85, op := Go.Op.load 3 (Go.Operand.tmp 84), type := 3, pos := "fix.go:481", after := #[{ on := 35, ground := Go.Ground.data }, { on := 24, ground := Go.Ground.guard }], guard := some (24, false) }) (v := ?_) rfl (by kernel_rfl) (by kernel_rfl) (by kernel_rfl) (fun _ _ _ h => h) (Or.inl ⟨by rfl, ?hy⟩) (by assumption) ?_
          case hy => (intro w9 hSw; (try dsimp only at hSw); go_simp; try with_reducible rfl)
          try simp only [Act.put, List.setIfInBounds_toArray, List.set_cons_zero, List.set_cons_succ]
          refine wpAnyH_take (i := 37) (oi := { dst := some 86, op := Go.Op.move (Go.Operand.tmp 5), type := 26, pos := "fix.go:481", after := #[{ on := 24, ground := Go.Ground.guard }], guard := some (24, false) }) (v := ?_) rfl (by kernel_rfl) (by kernel_rfl) (by kernel_rfl) (fun _ _ _ h => h) (Or.inl ⟨by rfl, ?hy⟩) (by assumption) ?_
          case hy => (intro w9 hSw; (try dsimp only at hSw); go_simp; try with_reducible rfl)
          try simp only [Act.put, List.setIfInBounds_toArray, List.set_cons_zero, List.set_cons_succ]
          refine wpAnyH_take (i := 38) (oi := { dst := some 87, op := Go.Op.move (Go.Operand.tmp 7), type := 3, pos := "fix.go:481", after := #[{ on := 24, ground := Go.Ground.guard }], guard := some (24, false) }) (v := ?_) rfl (by kernel_rfl) (by kernel_rfl) (by kernel_rfl) (fun _ _ _ h => h) (Or.inl ⟨by rfl, ?hy⟩) (by assumption) ?_
          case hy => (intro w9 hSw; (try dsimp only at hSw); go_simp; try with_reducible rfl)
          try simp only [Act.put, List.setIfInBounds_toArray, List.set_cons_zero, List.set_cons_succ]
          refine wpAnyH_take (i := 39) (oi := { dst := some 88, op := Go.Op.indexAddr 26 (Go.Operand.tmp 86) (Go.Operand.tmp 87), type := 0, pos := "fix.go:481", after := #[{ on := 37, ground := Go.Ground.data }, { on := 38, ground := Go.Ground.data }, { on := 24, ground := Go.Ground.guard }], guard := some (24, false) }) (v := ?_) rfl (by kernel_rfl) (by kernel_rfl) (by kernel_rfl) (fun _ _ _ h => h) (Or.inl ⟨by rfl, ?hy⟩) (by assumption) ?_
          case hy => (intro w9 hSw; (try dsimp only at hSw); go_simp; try with_reducible rfl)
          try simp only [Act.put, List.setIfInBounds_toArray, List.set_cons_zero, List.set_cons_succ]
          refine wpAnyH_take (i := 40) (oi := { dst := some 89, op := Go.Op.indexAddr 34 (Go.Operand.tmp 88) (Go.Operand.const (Go.Value.int Go.IntKind.i64 1)), type := 0, pos := "fix.go:481", after := #[{ on := 39, ground := Go.Ground.data }, { on := 24, ground := Go.Ground.guard }], guard := some (24, false) }) (v := ?_) rfl (by kernel_rfl) (by kernel_rfl) (by kernel_rfl) (fun _ _ _ h => h) (Or.inl ⟨by rfl, ?hy⟩) (by assumption) ?_
          case hy => (intro w9 hSw; (try dsimp only at hSw); go_simp; try with_reducible rfl)
          try simp only [Act.put, List.setIfInBounds_toArray, List.set_cons_zero, List.set_cons_succ]
          refine wpAnyH_take (i := 41) (oi := { dst := some 90, op := Go.Op.load 3 (Go.Operand.tmp 89), type := 3, pos := "fix.go:481", after := #[{ on := 40, ground := Go.Ground.data }, { on := 24, ground := Go.Ground.guard }], guard := some (24, false) }) (v := ?_) rfl (by kernel_rfl) (by kernel_rfl) (by kernel_rfl) (fun _ _ _ h => h) (Or.inl ⟨by rfl, ?hy⟩) (by assumption) ?_
          case hy => (intro w9 hSw; (try dsimp only at hSw); go_simp; try with_reducible rfl)
          try simp only [Act.put, List.setIfInBounds_toArray, List.set_cons_zero, List.set_cons_succ]
          refine wpAnyH_take (i := 42) (oi := { dst := some 91, op := Go.Op.move (Go.Operand.tmp 5), type := 26, pos := "fix.go:481", after := #[{ on := 24, ground := Go.Ground.guard }], guard := some (24, false) }) (v := ?_) rfl (by kernel_rfl) (by kernel_rfl) (by kernel_rfl) (fun _ _ _ h => h) (Or.inl ⟨by rfl, ?hy⟩) (by assumption) ?_
          case hy => (intro w9 hSw; (try dsimp only at hSw); go_simp; try with_reducible rfl)
          try simp only [Act.put, List.setIfInBounds_toArray, List.set_cons_zero, List.set_cons_succ]
          refine wpAnyH_take (i := 43) (oi := { dst := some 92, op := Go.Op.move (Go.Operand.tmp 8), type := 3, pos := "fix.go:481", after := #[{ on := 24, ground := Go.Ground.guard }], guard := some (24, false) }) (v := ?_) rfl (by kernel_rfl) (by kernel_rfl) (by kernel_rfl) (fun _ _ _ h => h) (Or.inl ⟨by rfl, ?hy⟩) (by assumption) ?_
          case hy => (intro w9 hSw; (try dsimp only at hSw); go_simp; try with_reducible rfl)
          try simp only [Act.put, List.setIfInBounds_toArray, List.set_cons_zero, List.set_cons_succ]
          refine wpAnyH_take (i := 44) (oi := { dst := some 93, op := Go.Op.indexAddr 26 (Go.Operand.tmp 91) (Go.Operand.tmp 92), type := 0, pos := "fix.go:481", after := #[{ on := 42, ground := Go.Ground.data }, { on := 43, ground := Go.Ground.data }, { on := 24, ground := Go.Ground.guard }], guard := some (24, false) }) (v := ?_) rfl (by kernel_rfl) (by kernel_rfl) (by kernel_rfl) (fun _ _ _ h => h) (Or.inl ⟨by rfl, ?hy⟩) (by assumption) ?_
          case hy => (intro w9 hSw; (try dsimp only at hSw); go_simp; try with_reducible rfl)
          try simp only [Act.put, List.setIfInBounds_toArray, List.set_cons_zero, List.set_cons_succ]
          refine wpAnyH_take (i := 45) (oi := { dst := some 94, op := Go.Op.indexAddr 34 (Go.Operand.tmp 93) (Go.Operand.const (Go.Value.int Go.IntKind.i64 1)), type := 0, pos := "fix.go:481", after := #[{ on := 44, ground := Go.Ground.data }, { on := 24, ground := Go.Ground.guard }], guard := some (24, false) }) (v := ?_) rfl (by kernel_rfl) (by kernel_rfl) (by kernel_rfl) (fun _ _ _ h => h) (Or.inl ⟨by rfl, ?hy⟩) (by assumption) ?_
          case hy => (intro w9 hSw; (try dsimp only at hSw); go_simp; try with_reducible rfl)
          try simp only [Act.put, List.setIfInBounds_toArray, List.set_cons_zero, List.set_cons_succ]
          refine wpAnyH_take (i := 46) (oi := { dst := some 95, op := Go.Op.load 3 (Go.Operand.tmp 94), type := 3, pos := "fix.go:481", after := #[{ on := 45, ground := Go.Ground.data }, { on := 24, ground := Go.Ground.guard }], guard := some (24, false) }) (v := ?_) rfl (by kernel_rfl) (by kernel_rfl) (by kernel_rfl) (fun _ _ _ h => h) (Or.inl ⟨by rfl, ?hy⟩) (by assumption) ?_
          case hy => (intro w9 hSw; (try dsimp only at hSw); go_simp; try with_reducible rfl)
          try simp only [Act.put, List.setIfInBounds_toArray, List.set_cons_zero, List.set_cons_succ]
          refine wpAnyH_ready (rs := [47]) (by kernel_rfl) (by simp) ?_
          refine AllReadyH.cons (o := { dst := some 96, op := Go.Op.call { callee := Go.Callee.value (Go.Operand.func 15), args := #[Go.Operand.tmp 90, Go.Operand.tmp 95], argTypes := #[3, 3] }, type := 3, pos := "fix.go:481", after := #[{ on := 41, ground := Go.Ground.data }, { on := 46, ground := Go.Ground.data }, { on := 24, ground := Go.Ground.chain }, { on := 24, ground := Go.Ground.guard }], guard := some (24, false) }) rfl (fun K hK => ?_) AllReadyH.nil
          go_simp
          refine (common_as _ _ _ _ j2 b1.2 b2.2).mono ?_
          rintro e w6 ⟨rfl, hw6⟩
          subst hw6
          refine hK.out _ _ ?_ (fun hHeld => ?_)
          · first | assumption | exact hHeld
          clear hK K
          try simp only [Act.put, List.setIfInBounds_toArray, List.set_cons_zero, List.set_cons_succ]
          refine wpAnyH_take (i := 48) (oi := { dst := some 97, op := Go.Op.binOp Go.BinOp.neq 3 (Go.Operand.tmp 85) (Go.Operand.tmp 96) 3, type := 4, pos := "fix.go:481", after := #[{ on := 36, ground := Go.Ground.data }, { on := 47, ground := Go.Ground.data }, { on := 24, ground := Go.Ground.guard }], guard := some (24, false) }) (v := ?_) rfl (by kernel_rfl) (by kernel_rfl) (by kernel_rfl) (fun _ _ _ h => h) (Or.inl ⟨by rfl, ?hy⟩) (by assumption) ?_
          case hy => (intro w9 hSw; (try dsimp only at hSw); go_simp; try with_reducible rfl)
          try simp only [Act.put, List.setIfInBounds_toArray, List.set_cons_zero, List.set_cons_succ]
          refine wpAnyH_take (i := 49) (oi := { dst := some 98, op := Go.Op.pick (Go.Operand.tmp 73) (Go.Operand.const (Go.Value.bool true)) (Go.Operand.tmp 97), type := 4, pos := "fix.go:481", after := #[{ on := 24, ground := Go.Ground.data }, { on := 48, ground := Go.Ground.data }], guard := none }) (v := ?_) rfl (by kernel_rfl) (by kernel_rfl) (by kernel_rfl) (fun _ _ _ h => h) (Or.inl ⟨by rfl, ?hy⟩) (by assumption) ?_
          case hy => (intro w9 hSw; (try dsimp only at hSw); go_simp; try with_reducible rfl)
          try simp only [Act.put, List.setIfInBounds_toArray, List.set_cons_zero, List.set_cons_succ]
          refine wpAnyH_done (by kernel_rfl) ?_ _
          try simp only [Act.put, List.setIfInBounds_toArray, List.set_cons_zero, List.set_cons_succ]
          go_wp2_with fail
          go_roundw
          case rel => exact ⟨y + 1, by omega, by go_num, HKK⟩
          case measure => simp [intOf]; omega
        · obtain rfl : y = q := by omega
          go_wp2_with fail
          go_roundw
          case rel => exact ⟨x + 1, by omega, by go_num, HBY⟩
          case measure => simp [intOf]; omega
    · obtain rfl : x = q := by omega
      go_wp2_with fail
      go_ret
      exact ⟨rfl, Below.then HB5.out HBX.out⟩
end Go.Proofs.Ytpmgengddnafeab
