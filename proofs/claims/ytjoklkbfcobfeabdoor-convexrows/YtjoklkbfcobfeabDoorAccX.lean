/-
  What convex.Accessible answers, whatever it is handed. Condition: the table of the least bits.
-/
import Derived.Test.YtjoklkbfcobfeabDoorAccs
import Derived.Test.YtjoklkbfcobfeabDoorHul
namespace Go.Proofs.YtjoklkbfcobfeabDoor
open Go.RowKit

/-- A truth behind an error, or whether it is accessible. -/
def AccIs (N : Int) (len : Nat) (f : Nat → Int) (e : Ending) : Prop :=
  (∃ c, c ≠ 0 ∧ FChk N len f c ∧ e = .returned (.tuple #[.bool false, .int .i64 c])) ∨
  ∃ n : Nat, N = n ∧ n ≤ 10 ∧ FIn n len f ∧ Ris len f ∧ e = .returned (.tuple #[.bool (acc (nat f) len), .int .i64 0])
set_option maxHeartbeats 1000000 in
theorem accessible_any (N : Int) (a : Option Addr) (len cap : Nat) (f : Nat → Int) (w : World) (hl : len ≤ maxLen) (hr : Row w a len f) (hT : Tab w) :
    Calls Tryd.prog 14 #[.agg #[.int .i64 N, .slice a len cap]] w fun e w' => AccIs N len f e ∧ Below w.heap.size w w' := by
  obtain ⟨W0, HW0⟩ : ∃ W0, Hid (W0 = w.alloc (.cells #[.int .i64 N, .slice a len cap] 24)) := ⟨_, rfl⟩
  have HB0 : Hid (Below w.heap.size w W0) := by rw [HW0.out]; exact (Below.refl _ _).alloc (Nat.le_refl _) _
  have K0 : Held W0 w.heap.size N a len cap f := by rw [HW0.out]; exact Fam.box hr
  have HT0 : Hid (Tab W0) := hT.step HB0.out
  have HCK := (show Hid (Calls Tryd.prog 27 #[.agg #[.int .i64 N, .slice a len cap]] W0 _) from fCheck_any N a len cap f W0 hl K0.row)
  have k0 := K0.c0
  have k1 := K0.c1
  clear hr hT
  go_enter Tryd.func14, Tryd.ntmps14
  go_wp2_with fail
  rw [← HW0.out]
  refine HCK.out.mono ?_
  rintro e w1 ⟨⟨c, rfl, hc⟩, hb1⟩
  have HB1 : Hid (Below W0.heap.size W0 w1) := hb1
  clear hb1 HCK k0 k1
  have K1 := K0.step HB1.out
  have k0 := K1.c0
  have k1 := K1.c1
  have HC : Hid (FChk N len f c) := hc
  by_cases h0 : c = 0
  · subst h0
    obtain ⟨n, rfl, h10, hin, hris⟩ := hc.good
    have HF : Hid (FIn n len f ∧ Ris len f) := ⟨hin, hris⟩
    have HAC := (show Hid (Calls Tryd.prog 28 #[.agg #[.int .i64 (n : Nat), .slice a len cap]] w1 _) from isAccessible_any n a len cap (nat f) w1 h10 hl hin.small (hin.row K1.row) (HT0.out.step HB1.out))
    clear hc hin hris K1
    go_wp2_with fail
    refine HAC.out.mono ?_
    rintro e w2 ⟨rfl, hb2⟩
    have HB2 : Hid (Below W0.heap.size W0 w2) := Below.then HB1.out hb2
    clear hb2 HAC k0 k1
    go_wp2_with fail
    go_ret2
    exact ⟨.inr ⟨n, rfl, h10, HF.out.1, HF.out.2, rfl⟩, Below.then HB0.out HB2.out⟩
  · have hne : (c != 0) = true := by simpa using h0
    clear hc
    go_wp2_with fail
    go_ret2
    exact ⟨.inl ⟨c, h0, HC.out, rfl⟩, Below.then HB0.out HB1.out⟩
end Go.Proofs.YtjoklkbfcobfeabDoor
