/-
  What sets.IsPoint answers. No condition.
-/
import Derived.Test.YtklfnghgpmjnmaaDoorMay
namespace Go.Proofs.YtklfnghgpmjnmaaDoor
open Go.RowKit

theorem isPoint_any (p n : Int) (w : World) :
    Calls Tryd.prog 31 #[.int .i64 p, .int .i64 n] w fun e w' => e = .returned (.bool (pnt p n)) ∧ w = w' := by
  by_cases h0 : 0 ≤ p
  · by_cases h1 : p < n
    · go_enter Tryd.func31, Tryd.ntmps31
      go_wp2
      go_ret
      exact ⟨ret_bool (by simp [pnt, h0, h1]), rfl⟩
    · go_enter Tryd.func31, Tryd.ntmps31
      go_wp2
      go_ret
      exact ⟨ret_bool (by simp [pnt, h1]), rfl⟩
  · have h0' : decide (0 ≤ p) = false := by simp; omega
    go_enter Tryd.func31, Tryd.ntmps31
    go_wp2
    go_ret
    exact ⟨ret_bool (by simp [pnt]; omega), rfl⟩
theorem isPoint_as (p n : Int) (w : World) (v : Bool) (h : pnt p n = v) :
    Calls Tryd.prog 31 #[.int .i64 p, .int .i64 n] w fun e w' => e = .returned (.bool v) ∧ w = w' :=
  (isPoint_any p n w).mono fun _ _ ⟨h1, h2⟩ => ⟨by rw [← h]; exact h1, h2⟩
theorem pnt_nat {p : Int} {n : Nat} (h : pnt p n = true) : ∃ q : Nat, p = (q : Nat) ∧ q < n := by
  simp [pnt] at h
  exact ⟨p.toNat, by omega, by omega⟩
end Go.Proofs.YtklfnghgpmjnmaaDoor
