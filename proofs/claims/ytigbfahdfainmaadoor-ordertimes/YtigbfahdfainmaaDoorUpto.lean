/-
  What the reference's Times answers of two orders that were looked at. Conditions: as the theorem says.
-/
import Derived.Test.YtigbfahdfainmaaDoorTimesM
import Derived.Test.YtigbfahdfainmaaDoorOfTimes
import Derived.Test.YtigbfahdfainmaaDoorRefCheck
namespace Go.Proofs.YtigbfahdfainmaaDoor
open Go.RowKit

set_option maxHeartbeats 1000000 in
theorem upto_any (n : Int) (a : Option Addr) (len cap : Nat) (g : Nat → Nat) (i j : Nat) (w : World) (v : Bool) (hv : upB g i j = v) (hl : len ≤ 10) (hg : ∀ k, k < len → g k < 1024) (hr : Row w a len (fun k => (g k : Nat))) (hi : i < 63) (hj : j < len) :
    Calls Tryd.prog 15 #[.agg #[.int .i64 n, .slice a len cap], .int .i64 i, .int .i64 j] w fun e w' => e = .returned (.bool v) ∧ Below w.heap.size w w' := by
  have HG : Hid (∀ k, k < len → g k < 1024) := hg
  have HR : Hid (Row w a len (fun k => (g k : Nat))) := hr
  clear hg hr
  by_cases hij : i = j
  · subst hij
    have hvt : v = true := by rw [← hv]; simp [upB]
    subst hvt
    clear hv
    go_enter Tryd.func15, Tryd.ntmps15
    go_wp2_with fail
    go_ret
    exact ⟨rfl, (Below.refl _ _).alloc (Nat.le_refl _) _⟩
  · have hne : ((i : Int) == (j : Int)) = false := by simp; omega
    have HV : Hid ((g j).testBit i = v) := by
      have e : upB g i j = (g j).testBit i := by simp [upB, hij]
      exact e.symm.trans hv
    clear hv
    go_enter Tryd.func15, Tryd.ntmps15
    go_wp2_with fail
    refine (less_any n a len cap g i j _ hl HG.out (HR.out.below ((Below.refl _ _).alloc (Nat.le_refl _) _)) hi hj).mono ?_
    rintro e w1 ⟨rfl, hb⟩
    rw [HV.out]
    have HB : Hid (Below w.heap.size w w1) := Below.then ((Below.refl _ _).alloc (Nat.le_refl _) _) hb
    clear hb
    go_wp2_with fail
    go_ret
    exact ⟨rfl, HB.out⟩

theorem small_in {n : Nat} (h : n < 10) : wrap64 (n : Int) = (n : Int) := IntWalk.wrap64_in _ ⟨by omega, by omega⟩
theorem wdiv {x d : Nat} (h : x < 10) : wrap64 ((x : Int) / (d : Int)) = ((x / d : Nat) : Int) := by
  rw [show ((x : Int) / (d : Int)) = ((x / d : Nat) : Int) by simp]; exact small_in (Nat.lt_of_le_of_lt (Nat.div_le_self _ _) h)
theorem wmod {x d : Nat} (h : x < 10) : wrap64 ((x : Int) % (d : Int)) = ((x % d : Nat) : Int) := by
  rw [show ((x : Int) % (d : Int)) = ((x % d : Nat) : Int) by simp]; exact small_in (Nat.lt_of_le_of_lt (Nat.mod_le _ _) h)
theorem cmod (x d : Nat) : (x : Int) % (d : Int) = ((x % d : Nat) : Int) := by simp

end Go.Proofs.YtigbfahdfainmaaDoor
