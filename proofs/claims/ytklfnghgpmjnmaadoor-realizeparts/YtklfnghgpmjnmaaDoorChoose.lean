/-
  What hasselaw.choose answers: a number below n. Conditions: as the theorem says.
-/
import Derived.Test.YtklfnghgpmjnmaaDoorRefLeaves
namespace Go.Proofs.YtklfnghgpmjnmaaDoor
open Go.RowKit

theorem choose_any (c : Int) (n : Nat) (w : World) (hn : 0 < n) (hn2 : n ≤ 10000000000) (h1 : -9223372036854775808 ≤ c) (h2 : c ≤ 9223372036854775807) :
    Calls Tryd.prog 8 #[.int .i64 c, .int .i64 (n : Nat)] w fun e w' => (∃ k : Nat, k < n ∧ e = .returned (.int .i64 (k : Nat))) ∧ w = w' := by
  have hz : ((n : Nat) : Int) ≠ 0 := by omega
  by_cases hc : c < 0
  · have HQ : Hid (∃ k : Nat, k < n ∧ -(c + 1).tmod n = (k : Nat)) := by
      have e : -(c + 1).tmod n = (-(c + 1)) % n := by rw [← Int.neg_tmod, Int.tmod_eq_emod_of_nonneg (by omega)]
      have g1 := Int.emod_nonneg (-(c + 1)) hz
      have g2 := Int.emod_lt_of_pos (-(c + 1)) (show (0 : Int) < n by omega)
      exact ⟨((-(c + 1)) % n).toNat, by omega, by omega⟩
    go_enter Tryd.func8, Tryd.ntmps8
    go_wp2_with fail
    go_ret
    obtain ⟨k, h3, h4⟩ := HQ.out
    exact ⟨⟨k, h3, ret_int h4⟩, rfl⟩
  · have HQ : Hid (∃ k : Nat, k < n ∧ c % n = (k : Nat)) := by
      have g1 := Int.emod_nonneg c hz
      have g2 := Int.emod_lt_of_pos c (show (0 : Int) < n by omega)
      exact ⟨(c % n).toNat, by omega, by omega⟩
    go_enter Tryd.func8, Tryd.ntmps8
    go_wp2_with fail
    go_ret
    obtain ⟨k, h3, h4⟩ := HQ.out
    exact ⟨⟨k, h3, ret_int h4⟩, rfl⟩

end Go.Proofs.YtklfnghgpmjnmaaDoor
