/-
  For every family that is handed in, hasselaw.ConvexChecks returns true, and writes nothing that was there. Condition: the table of the least bits.
-/
import Derived.Test.YtjoklkbfcobfeaaDoorCoBeg
import Derived.Test.YtjoklkbfcobfeaaDoorRefFam
import Derived.Test.YtjoklkbfcobfeaaDoorRefAcc2
namespace Go.Proofs.YtjoklkbfcobfeaaDoor
open Go.RowKit

theorem truthIs_any (c : Int) (b b' : Bool) (w : World) (h : (c ≠ 0 ∧ b = false) ∨ (c = 0 ∧ b = b')) :
    Calls Tryd.prog 13 #[.bool b, .int .i64 c, .int .i64 c, .bool b'] w fun e w' => e = .returned (.bool true) ∧ w = w' := by
  rcases h with ⟨h0, rfl⟩ | ⟨rfl, rfl⟩
  · have hne : (c == 0) = false := by simpa using h0
    cases b'
    · go_enter Tryd.func13, Tryd.ntmps13
      go_wp2
      go_ret
      exact ⟨rfl, rfl⟩
    · go_enter Tryd.func13, Tryd.ntmps13
      go_wp2
      go_ret
      exact ⟨rfl, rfl⟩
  · cases b
    · go_enter Tryd.func13, Tryd.ntmps13
      go_wp2
      go_ret
      exact ⟨rfl, rfl⟩
    · go_enter Tryd.func13, Tryd.ntmps13
      go_wp2
      go_ret
      exact ⟨rfl, rfl⟩
/-- A truth behind an error, or whether it is accessible. -/
def AccIs (N : Int) (len : Nat) (f : Nat → Int) (e : Ending) : Prop :=
  (∃ c, c ≠ 0 ∧ FChk N len f c ∧ e = .returned (.tuple #[.bool false, .int .i64 c])) ∨
  ∃ n : Nat, N = n ∧ n ≤ 10 ∧ FIn n len f ∧ Ris len f ∧ e = .returned (.tuple #[.bool (acc (nat f) len), .int .i64 0])
set_option maxHeartbeats 1000000 in
theorem accessible_any (N : Int) (a : Option Addr) (len cap : Nat) (f : Nat → Int) (w : World) (hl : len ≤ maxLen) (hr : Row w a len f) (hT : Tab w) :
    Calls Tryd.prog 10 #[.agg #[.int .i64 N, .slice a len cap]] w fun e w' => AccIs N len f e ∧ Below w.heap.size w w' := by
  obtain ⟨W0, HW0⟩ : ∃ W0, Hid (W0 = w.alloc (.cells #[.int .i64 N, .slice a len cap] 24)) := ⟨_, rfl⟩
  have HB0 : Hid (Below w.heap.size w W0) := by rw [HW0.out]; exact (Below.refl _ _).alloc (Nat.le_refl _) _
  have K0 : Held W0 w.heap.size N a len cap f := by rw [HW0.out]; exact Fam.box hr
  have HT0 : Hid (Tab W0) := hT.step HB0.out
  have HCK := (show Hid (Calls Tryd.prog 12 #[.agg #[.int .i64 N, .slice a len cap]] W0 _) from fCheck_any N a len cap f W0 hl K0.row)
  have k0 := K0.c0
  have k1 := K0.c1
  clear hr hT
  go_enter Tryd.func10, Tryd.ntmps10
  go_wp2_with fail
  rw [← HW0.out]
  refine HCK.out.mono ?_
  rintro e w1 ⟨⟨c, rfl, hc⟩, hb1⟩
  have HB1 : Hid (Below W0.heap.size W0 w1) := hb1
  clear hb1 HCK k0 k1
  have K1 := K0.step HB1.out
  have k0 := K1.c0
  have k1 := K1.c1
  have HC : Hid (FChk N len f c) := hc
  by_cases h0 : c = 0
  · subst h0
    obtain ⟨n, rfl, h10, hin, hris⟩ := hc.good
    have HF : Hid (FIn n len f ∧ Ris len f) := ⟨hin, hris⟩
    have HAC := (show Hid (Calls Tryd.prog 34 #[.agg #[.int .i64 (n : Nat), .slice a len cap]] w1 _) from isAccessible_any n a len cap (nat f) w1 h10 hl hin.small (hin.row K1.row) (HT0.out.step HB1.out))
    clear hc hin hris K1
    go_wp2_with fail
    refine HAC.out.mono ?_
    rintro e w2 ⟨rfl, hb2⟩
    have HB2 : Hid (Below W0.heap.size W0 w2) := Below.then HB1.out hb2
    clear hb2 HAC k0 k1
    go_wp2_with fail
    go_ret2
    exact ⟨.inr ⟨n, rfl, h10, HF.out.1, HF.out.2, rfl⟩, Below.then HB0.out HB2.out⟩
  · have hne : (c != 0) = true := by simpa using h0
    clear hc
    go_wp2_with fail
    go_ret2
    exact ⟨.inl ⟨c, h0, HC.out, rfl⟩, Below.then HB0.out HB1.out⟩

set_option maxHeartbeats 2000000 in
theorem convexChecks_any (N : Int) (a : Option Addr) (len cap : Nat) (f : Nat → Int) (w : World) (hl : len ≤ maxLen) (hr : Row w a len f) (hT : Tab w) :
    Calls Tryd.prog 3 #[.agg #[.int .i64 N, .slice a len cap]] w fun e w' => e = .returned (.bool true) ∧ Below w.heap.size w w' := by
  obtain ⟨W0, HW0⟩ : ∃ W0, Hid (W0 = w.alloc (.cells #[.int .i64 N, .slice a len cap] 24)) := ⟨_, rfl⟩
  have HB0 : Hid (Below w.heap.size w W0) := by rw [HW0.out]; exact (Below.refl _ _).alloc (Nat.le_refl _) _
  have K0 : Held W0 w.heap.size N a len cap f := by rw [HW0.out]; exact Fam.box hr
  have HT0 : Hid (Tab W0) := hT.step HB0.out
  have k0 := K0.c0
  have k1 := K0.c1
  clear hr hT
  go_enter Tryd.func3, Tryd.ntmps3
  go_wp2_with fail
  rw [← HW0.out]
  refine (checkFamily_any N a len cap f W0 hl K0.row).mono ?_
  rintro e w1 ⟨⟨c, rfl, hc⟩, hb1⟩
  have HB1 : Hid (Below W0.heap.size W0 w1) := hb1
  have HC : Hid (FChk N len f c) := hc
  clear hb1 k0 k1 hc
  have k0 := (K0.step HB1.out).c0
  have k1 := (K0.step HB1.out).c1
  go_wp2_with fail
  refine (accessible_any N a len cap f w1 hl (K0.step HB1.out).row (HT0.out.step HB1.out)).mono ?_
  rintro e w2 ⟨he, hb2⟩
  have HB2 : Hid (Below W0.heap.size W0 w2) := Below.then HB1.out hb2
  clear hb2 k0 k1
  have k0 := (K0.step HB2.out).c0
  have k1 := (K0.step HB2.out).c1
  rcases he with ⟨c', h0, hc', rfl⟩ | ⟨n, rfl, h10, hin, hris, rfl⟩
  · obtain rfl := hc'.unique HC.out
    have hne : (c' == 0) = false := by simpa using h0
    clear hc'
    go_wp2_with fail
    refine (convexBegun_any _ (HT0.out.step HB2.out)).mono ?_
    rintro e w3 ⟨rfl, hb3⟩
    have HB3 : Hid (Below W0.heap.size W0 w3) := Below.then HB2.out hb3
    clear hb3 k0 k1
    have k0 := (K0.step HB3.out).c0
    have k1 := (K0.step HB3.out).c1
    go_wp2_with fail
    refine (fCheck_any N a len cap f w3 hl (K0.step HB3.out).row).mono ?_
    rintro e w4 ⟨⟨c4, rfl, hc4⟩, hb4⟩
    obtain rfl := hc4.unique HC.out
    have HB4 : Hid (Below W0.heap.size W0 w4) := Below.then HB3.out hb4
    clear hb4 hc4 k0 k1
    go_wp2_with fail
    refine (truthIs_any c4 false false _ (.inl ⟨h0, rfl⟩)).mono ?_
    rintro e w5 ⟨rfl, rfl⟩
    go_wp2_with fail
    go_ret
    exact ⟨rfl, Below.then HB0.out HB4.out⟩
  · obtain rfl := HC.out.unique (FChk.mk0 h10 hin hris)
    have HF : Hid (FIn n len f ∧ Ris len f) := ⟨hin, hris⟩
    clear hin hris
    go_wp2_with fail
    refine (convexBegun_any _ (HT0.out.step HB2.out)).mono ?_
    rintro e w3 ⟨rfl, hb3⟩
    have HB3 : Hid (Below W0.heap.size W0 w3) := Below.then HB2.out hb3
    clear hb3 k0 k1
    have k0 := (K0.step HB3.out).c0
    have k1 := (K0.step HB3.out).c1
    go_wp2_with fail
    refine (fCheck_any n a len cap f w3 hl (K0.step HB3.out).row).mono ?_
    rintro e w4 ⟨⟨c4, rfl, hc4⟩, hb4⟩
    obtain rfl := hc4.unique HC.out
    have HB4 : Hid (Below W0.heap.size W0 w4) := Below.then HB3.out hb4
    clear hb4 hc4 k0 k1
    have k0 := (K0.step HB4.out).c0
    have k1 := (K0.step HB4.out).c1
    go_wp2_with fail
    refine (refAcc_any n a len cap (nat f) w4 h10 hl HF.out.1.small (HF.out.1.row (K0.step HB4.out).row)).mono ?_
    rintro e w5 ⟨rfl, hb5⟩
    have HB5 : Hid (Below W0.heap.size W0 w5) := Below.then HB4.out hb5
    clear hb5 k0 k1
    go_wp2_with fail
    refine (truthIs_any 0 (acc (nat f) len) (acc (nat f) len) _ (.inr ⟨rfl, rfl⟩)).mono ?_
    rintro e w6 ⟨rfl, rfl⟩
    go_wp2_with fail
    go_ret
    exact ⟨rfl, Below.then HB0.out HB5.out⟩
end Go.Proofs.YtjoklkbfcobfeaaDoor
