/-
  For every number and list that are handed in, hasselaw.WeighFour returns true, and writes nothing that was there. No condition.
-/
import Derived.Test.YtoagfjikjdacoaaRisL
namespace Go.Proofs.Ytoagfjikjdacoaa
set_option maxRecDepth 100000
open Go.RowKit

set_option maxHeartbeats 4000000 in
theorem weighFour_any (N : Int) (a0 : Option Addr) (l0 k0 : Nat) (f0 : Nat → Int) (a1 : Option Addr) (l1 k1 : Nat) (f1 : Nat → Int) (a2 : Option Addr) (l2 k2 : Nat) (f2 : Nat → Int) (a3 : Option Addr) (l3 k3 : Nat) (f3 : Nat → Int) (w : World)
    (m0 : l0 ≤ maxLen) (m1 : l1 ≤ maxLen) (m2 : l2 ≤ maxLen) (m3 : l3 ≤ maxLen) (r0 : Row w a0 l0 f0) (r1 : Row w a1 l1 f1) (r2 : Row w a2 l2 f2) (r3 : Row w a3 l3 f3) :
    Calls Try.prog 5 #[.int .i64 N, .slice a0 l0 k0, .slice a1 l1 k1, .slice a2 l2 k2, .slice a3 l3 k3] w fun e w' => e = .returned (.bool true) ∧ Below w.heap.size w w' := by
  have R0 : Hid (Row w a0 l0 f0) := r0; have R1 : Hid (Row w a1 l1 f1) := r1; have R2 : Hid (Row w a2 l2 f2) := r2; have R3 : Hid (Row w a3 l3 f3) := r3
  clear r0 r1 r2 r3
  go_enter Try.func5, Try.ntmps5
  go_wp2_with fail
  refine (four_any N a0 l0 k0 f0 a1 l1 k1 f1 a2 l2 k2 f2 a3 l3 k3 f3 w m0 m1 m2 m3 R0.out R1.out R2.out R3.out).mono ?_
  rintro e w1 ⟨⟨c, v, rfl, hc, hv⟩, hb1⟩
  have HC : Hid (WChk N 4 (sel4 (a0, l0, k0) (a1, l1, k1) (a2, l2, k2) (a3, l3, k3)) (sel4 f0 f1 f2 f3) c) := hc
  have HV : Hid ((c ≠ 0 ∧ v = false) ∨ (c = 0 ∧ (v = true ↔ FourN N.toNat (nt f0) (nt f1) (nt f2) (nt f3)))) := hv
  have HR : Hid (RR (w1.alloc (.cells #[.slice a0 l0 k0, .slice a1 l1 k1, .slice a2 l2 k2, .slice a3 l3 k3] 22)) (some ⟨w1.heap.size, 0, none⟩) 4 (sel4 (a0, l0, k0) (a1, l1, k1) (a2, l2, k2) (a3, l3, k3)) (sel4 f0 f1 f2 f3)) := rr4 m0 m1 m2 m3 (R0.out.below hb1) (R1.out.below hb1) (R2.out.below hb1) (R3.out.below hb1)
  have HB2 : Hid (Below w.heap.size w (w1.alloc (.cells #[.slice a0 l0 k0, .slice a1 l1 k1, .slice a2 l2 k2, .slice a3 l3 k3] 22))) := bel_more hb1 _
  clear hc hv hb1
  go_wp2_with fail
  refine (checkWeights_any N _ 4 4 _ _ _ (by unfold maxLen; omega) HR.out).mono ?_
  rintro e w2 ⟨⟨c', rfl, hc'⟩, hb2⟩
  obtain rfl := HC.out.unique hc'
  have HB3 : Hid (Below w.heap.size w w2) := Below.then HB2.out hb2
  clear hc' hb2 HB2 HR
  go_wp2_with fail
  refine (weighBegun_any w2).mono ?_
  rintro e w3 ⟨rfl, hb3⟩
  have HB4 : Hid (Below w.heap.size w w3) := Below.then HB3.out hb3
  clear hb3 HB3
  by_cases h0 : c = 0
  · subst h0
    obtain ⟨n, rfl, hn6, hfr, hin⟩ := HC.out.good
    have q0 : l0 = pw n := hfr 0 (by omega)
    have q1 : l1 = pw n := hfr 1 (by omega)
    have q2 : l2 = pw n := hfr 2 (by omega)
    have q3 : l3 = pw n := hfr 3 (by omega)
    have i0 : ∀ y, y < l0 → 0 ≤ f0 y ∧ f0 y ≤ 1000 := hin 0 (by omega)
    have i1 : ∀ y, y < l1 → 0 ≤ f1 y ∧ f1 y ≤ 1000 := hin 1 (by omega)
    have i2 : ∀ y, y < l2 → 0 ≤ f2 y ∧ f2 y ≤ 1000 := hin 2 (by omega)
    have i3 : ∀ y, y < l3 → 0 ≤ f3 y ∧ f3 y ≤ 1000 := hin 3 (by omega)
    have hpos := pw_pos n
    clear hfr hin HC
    obtain ⟨b0, o0, e0, w0⟩ := wr_of (R0.out.below HB4.out) i0 (by omega)
    obtain ⟨b1, o1, e1, w1⟩ := wr_of (R1.out.below HB4.out) i1 (by omega)
    obtain ⟨b2, o2, e2, w2⟩ := wr_of (R2.out.below HB4.out) i2 (by omega)
    obtain ⟨b3, o3, e3, w3⟩ := wr_of (R3.out.below HB4.out) i3 (by omega)
    clear R0 R1 R2 R3 i0 i1 i2 i3
    rw [q0] at w0
    rw [q1] at w1
    rw [q2] at w2
    rw [q3] at w3
    subst e0; subst e1; subst e2; subst e3; subst q0
    rw [q1, q2, q3]
    have G0 := (show Hid (WR _ _ _ _ _) from w0); have G1 := (show Hid (WR _ _ _ _ _) from w1); have G2 := (show Hid (WR _ _ _ _ _) from w2); have G3 := (show Hid (WR _ _ _ _ _) from w3)
    clear w0 w1 w2 w3 q1 q2 q3
    go_wp2_with fail
    refine (fourOf_any n b0 o0 k0 b1 o1 k1 b2 o2 k2 b3 o3 k3 (nt f0) (nt f1) (nt f2) (nt f3) _ hn6 G0.out G1.out G2.out G3.out).mono ?_
    rintro e w4 ⟨⟨v', rfl, hv'⟩, hb4⟩
    have HB5 : Hid (Below w.heap.size w w4) := Below.then HB4.out hb4
    obtain rfl : v = v' := by
      rcases HV.out with ⟨h, _⟩ | ⟨_, h⟩
      · exact absurd rfl h
      · rw [Bool.eq_iff_iff]; exact h.trans hv'.symm
    clear HV hv' hb4 HB4 G0 G1 G2 G3
    go_wp2_with fail
    refine (truthIs_any 0 v v _ (.inr ⟨rfl, rfl⟩)).mono ?_
    rintro e w5 ⟨rfl, rfl⟩
    go_wp2_with fail
    go_ret
    exact ⟨rfl, HB5.out⟩
  · have hne : (c == 0) = false := by simpa using h0
    obtain rfl : v = false := by
      rcases HV.out with ⟨_, h⟩ | ⟨h, _⟩
      · exact h
      · exact absurd h h0
    have H0 : Hid (c ≠ 0) := h0
    clear HV h0 HC
    go_wp2_with fail
    refine (truthIs_any c false false _ (.inl ⟨H0.out, rfl⟩)).mono ?_
    rintro e w5 ⟨rfl, rfl⟩
    go_wp2_with fail
    go_ret
    exact ⟨rfl, HB4.out⟩
end Go.Proofs.Ytoagfjikjdacoaa
