/-
  For every number and list that are handed in, hasselaw.WeighCurved returns true, and writes nothing that was there. No condition.
-/
import Derived.Test.YtoagfjikjdacoaaRisL
namespace Go.Proofs.Ytoagfjikjdacoaa
set_option maxRecDepth 100000
open Go.RowKit

set_option maxHeartbeats 4000000 in
theorem weighCurved_any (N : Int) (a : Option Addr) (l k : Nat) (f : Nat → Int) (w : World) (m : l ≤ maxLen) (r : Row w a l f) :
    Calls Try.prog 4 #[.int .i64 N, .slice a l k] w fun e w' => e = .returned (.bool true) ∧ Below w.heap.size w w' := by
  have R : Hid (Row w a l f) := r
  clear r
  go_enter Try.func4, Try.ntmps4
  go_wp2_with fail
  refine (curved_any N a l k f w m R.out).mono ?_
  rintro e w1 ⟨⟨c, v, rfl, hc, hv⟩, hb1⟩
  have HC : Hid (WChk N 1 (sel4 (a, l, k) (a, l, k) (a, l, k) (a, l, k)) (sel4 f f f f) c) := hc.same4
  have HV : Hid ((c ≠ 0 ∧ v = false) ∨ (c = 0 ∧ (v = true ↔ FourN N.toNat (nt f) (nt f) (nt f) (nt f)))) := hv
  have HB1 : Hid (Below w.heap.size w w1) := hb1
  have HR : Hid (RR (w1.alloc (.cells #[.slice a l k] 22)) (some ⟨w1.heap.size, 0, none⟩) 1 (sel4 (a, l, k) (a, l, k) (a, l, k) (a, l, k)) (sel4 f f f f)) := rr1 m (R.out.below hb1)
  have HB2 : Hid (Below w.heap.size w (w1.alloc (.cells #[.slice a l k] 22))) := bel_more hb1 _
  clear hc hv hb1
  go_wp2_with fail
  refine (checkWeights_any N _ 1 1 _ _ _ (by unfold maxLen; omega) HR.out).mono ?_
  rintro e w2 ⟨⟨c', rfl, hc'⟩, hb2⟩
  obtain rfl := HC.out.unique hc'
  have HB3 : Hid (Below w.heap.size w w2) := Below.then HB2.out hb2
  clear hc' hb2 HB2 HR HB1
  go_wp2_with fail
  refine (weighBegun_any w2).mono ?_
  rintro e w3 ⟨rfl, hb3⟩
  have HB4 : Hid (Below w.heap.size w w3) := Below.then HB3.out hb3
  clear hb3 HB3
  by_cases h0 : c = 0
  · subst h0
    obtain ⟨n, rfl, hn6, hfr, hin⟩ := HC.out.good
    have q0 : l = pw n := hfr 0 (by omega)
    have i0 : ∀ y, y < l → 0 ≤ f y ∧ f y ≤ 1000 := hin 0 (by omega)
    have hpos := pw_pos n
    clear hfr hin HC
    subst q0
    obtain ⟨b0, o0, rfl, w0⟩ := wr_of (R.out.below HB4.out) i0 hpos
    have HWR : Hid (WR w3 b0 o0 (pw n) (nt f)) := w0
    clear w0 i0 R
    go_wp2_with fail
    refine (fourOf_any n b0 o0 k b0 o0 k b0 o0 k b0 o0 k (nt f) (nt f) (nt f) (nt f) w3 hn6 HWR.out HWR.out HWR.out HWR.out).mono ?_
    rintro e w4 ⟨⟨v', rfl, hv'⟩, hb4⟩
    have HB5 : Hid (Below w.heap.size w w4) := Below.then HB4.out hb4
    obtain rfl : v = v' := by
      rcases HV.out with ⟨h, _⟩ | ⟨_, h⟩
      · exact absurd rfl h
      · rw [Bool.eq_iff_iff]; exact h.trans hv'.symm
    clear HV hv' hb4 HB4 HWR
    go_wp2_with fail
    refine (truthIs_any 0 v v _ (.inr ⟨rfl, rfl⟩)).mono ?_
    rintro e w5 ⟨rfl, rfl⟩
    go_wp2_with fail
    go_ret
    exact ⟨rfl, HB5.out⟩
  · have hne : (c == 0) = false := by simpa using h0
    obtain rfl : v = false := by
      rcases HV.out with ⟨_, h⟩ | ⟨h, _⟩
      · exact h
      · exact absurd h h0
    have H0 : Hid (c ≠ 0) := h0
    clear HV h0 HC
    go_wp2_with fail
    refine (truthIs_any c false false _ (.inl ⟨H0.out, rfl⟩)).mono ?_
    rintro e w5 ⟨rfl, rfl⟩
    go_wp2_with fail
    go_ret
    exact ⟨rfl, HB4.out⟩

end Go.Proofs.Ytoagfjikjdacoaa
