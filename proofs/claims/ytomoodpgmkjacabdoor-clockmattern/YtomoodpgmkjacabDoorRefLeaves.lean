/-
  What the reference's In and Bit answer. Conditions: a set that is not negative, a point below 62.
-/
import Derived.Test.YtomoodpgmkjacabDoorLeaves
namespace Go.Proofs.YtomoodpgmkjacabDoor
open Go.RowKit

/-- s halved k times. -/
def hv (s k : Nat) : Nat := s / 2 ^ k
theorem hv_zero (s : Nat) : hv s 0 = s := by simp [hv]
theorem hv_succ (s k : Nat) : hv s (k + 1) = hv s k / 2 := by simp [hv, Nat.pow_succ, Nat.div_div_eq_div_mul]
theorem hv_bit (s k : Nat) : s.testBit k = decide (hv s k % 2 = 1) := Nat.testBit_eq_decide_div_mod_eq
theorem hv_le (s k : Nat) : hv s k ≤ s := Nat.div_le_self _ _

theorem in_any (s p : Nat) (w : World) (hs : s < 9223372036854775808) (hp : p < 63) :
    Calls Tryd.prog 16 #[.int .i64 s, .int .i64 p] w fun e w' => e = .returned (.bool (s.testBit p)) ∧ w = w' := by
  go_enter Tryd.func16, Tryd.ntmps16
  go_wp2
  go_loop [0, 1] (fun t i => ∃ k : Nat, k ≤ p ∧ t = .int .i64 (hv s k : Nat) ∧ i = .int .i64 ((p : Int) - (k : Nat))) (fun _ i => (intOf i).toNat)
  case atStart => exact ⟨0, Nat.zero_le _, by rw [hv_zero], by simp⟩
  case round =>
    obtain ⟨k, hk, rfl, rfl⟩ := hrel
    have hl := hv_le s k
    by_cases hlt : k < p
    · go_wp2
      go_round
      case rel => exact ⟨k + 1, by omega, by rw [hv_succ]; simp, by go_num⟩
      case measure => simp [intOf]; omega
    · have hkp : k = p := by omega
      subst hkp
      go_wp2
      go_ret
      exact ⟨ret_bool (by rw [hv_bit, Bool.eq_iff_iff]; simp; omega), rfl⟩
end Go.Proofs.YtomoodpgmkjacabDoor
