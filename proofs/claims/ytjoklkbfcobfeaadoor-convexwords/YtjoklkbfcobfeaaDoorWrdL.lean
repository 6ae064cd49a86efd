/-
  For every family that is handed in, hasselaw.ConvexWords returns true, and writes nothing that was there. Condition: the table of the least bits.
-/
import Derived.Test.YtjoklkbfcobfeaaDoorCoBeg
import Derived.Test.YtjoklkbfcobfeaaDoorRefWds
namespace Go.Proofs.YtjoklkbfcobfeaaDoor
open Go.RowKit

set_option maxHeartbeats 2000000 in
theorem convexWords_any (N : Int) (a : Option Addr) (len cap : Nat) (f : Nat → Int) (w : World) (hl : len ≤ maxLen) (hr : Row w a len f) (hT : Tab w) :
    Calls Tryd.prog 7 #[.agg #[.int .i64 N, .slice a len cap]] w fun e w' => e = .returned (.bool true) ∧ Below w.heap.size w w' := by
  obtain ⟨W0, HW0⟩ : ∃ W0, Hid (W0 = w.alloc (.cells #[.int .i64 N, .slice a len cap] 24)) := ⟨_, rfl⟩
  have HB0 : Hid (Below w.heap.size w W0) := by rw [HW0.out]; exact (Below.refl _ _).alloc (Nat.le_refl _) _
  have K0 : Held W0 w.heap.size N a len cap f := by rw [HW0.out]; exact Fam.box hr
  have HT0 : Hid (Tab W0) := hT.step HB0.out
  have k0 := K0.c0
  have k1 := K0.c1
  clear hr hT
  go_enter Tryd.func7, Tryd.ntmps7
  go_wp2_with fail
  rw [← HW0.out]
  refine (words_any N a len cap f W0 hl K0.row HT0.out).mono ?_
  rintro e w1 ⟨he, hb1⟩
  have HB1 : Hid (Below W0.heap.size W0 w1) := hb1
  clear hb1 k0 k1
  have k0 := (K0.step HB1.out).c0
  have k1 := (K0.step HB1.out).c1
  rcases he with ⟨c, h0, hc, rfl⟩ | ⟨n, rfl, h10, hc, hin, hris, hw, rfl⟩
  · have HC : Hid (WCk N len f c) := hc
    have hne : (c == 0) = false := by simpa using h0
    clear hc
    go_wp2_with fail
    refine (wholeFamily_any N a len cap f w1 hl (K0.step HB1.out).row).mono ?_
    rintro e w2 ⟨⟨c2, rfl, hc2⟩, hb2⟩
    obtain rfl := hc2.unique HC.out
    have HB2 : Hid (Below W0.heap.size W0 w2) := Below.then HB1.out hb2
    clear hc2 hb2 k0 k1
    go_wp2_with fail
    refine (convexBegun_any _ (HT0.out.step HB2.out)).mono ?_
    rintro e w3 ⟨rfl, hb3⟩
    have HB3 : Hid (Below W0.heap.size W0 w3) := Below.then HB2.out hb3
    clear hb3
    go_wp2_with fail
    refine (numberIs_any _ _ _ _ _ rfl (.inl ⟨h0, rfl⟩)).mono ?_
    rintro e w' ⟨rfl, rfl⟩
    go_wp2_with fail
    go_ret
    exact ⟨rfl, Below.then HB0.out HB3.out⟩
  · have HC : Hid (WCk (n : Int) len f 0) := hc
    have HF : Hid (FIn n len f) := hin
    clear hc hin hris hw
    go_wp2_with fail
    refine (wholeFamily_any n a len cap f w1 hl (K0.step HB1.out).row).mono ?_
    rintro e w2 ⟨⟨c2, rfl, hc2⟩, hb2⟩
    obtain rfl := hc2.unique HC.out
    have HB2 : Hid (Below W0.heap.size W0 w2) := Below.then HB1.out hb2
    clear hc2 hb2 k0 k1
    have k0 := (K0.step HB2.out).c0
    have k1 := (K0.step HB2.out).c1
    go_wp2_with fail
    refine (wordsOf_any n a len cap (nat f) w2 h10 hl HF.out.small (HF.out.row (K0.step HB2.out).row)).mono ?_
    rintro e w4 ⟨rfl, hb4⟩
    have HB4 : Hid (Below W0.heap.size W0 w4) := Below.then HB2.out hb4
    clear hb4 k0 k1
    go_wp2_with fail
    refine (convexBegun_any _ (HT0.out.step HB4.out)).mono ?_
    rintro e w3 ⟨rfl, hb3⟩
    have HB3 : Hid (Below W0.heap.size W0 w3) := Below.then HB4.out hb3
    clear hb3
    go_wp2_with fail
    refine (numberIs_any _ _ _ _ _ rfl (.inr ⟨rfl, rfl⟩)).mono ?_
    rintro e w' ⟨rfl, rfl⟩
    go_wp2_with fail
    go_ret
    exact ⟨rfl, Below.then HB0.out HB3.out⟩
end Go.Proofs.YtjoklkbfcobfeaaDoor
