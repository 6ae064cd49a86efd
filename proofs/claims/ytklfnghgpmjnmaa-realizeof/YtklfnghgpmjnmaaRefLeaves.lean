/-
  What the small functions answer: isCount, isPoint, all, isSet, has of package order; In, Bit of the reference. Conditions: as each theorem says.
  What the reference's In and Bit answer. Conditions: a set that is not negative, a point below 62.
-/
import Derived.Test.YtklfnghgpmjnmaaRows
import Derived.Test.YtklfnghgpmjnmaaBits
import Derived.WalkKit
import Derived.WalkSpells
import Derived.WalkLawsBesides
namespace Go.Proofs.Ytklfnghgpmjnmaa
open Go.RowKit

/-- May an order have n points? -/
def cnt (n : Int) : Bool := decide (0 ≤ n ∧ n ≤ 10)
/-- Is p one of n points? -/
def pnt (p n : Int) : Bool := decide (0 ≤ p ∧ p < n)
/-- Is s a set of n points? -/
def sts (s : Int) (n : Nat) : Bool := decide (0 ≤ s ∧ s < (pw n : Nat))
theorem has_any (s p : Nat) (w : World) (hs : s < 9223372036854775808) (hp : p < 63) :
    Calls Try.prog 46 #[.int .i64 s, .int .i64 p] w fun e w' => e = .returned (.bool (s.testBit p)) ∧ w = w' := by
  have h := bit_and_one s p hs
  go_enter Try.func46, Try.ntmps46
  go_wp2
  go_ret
  exact ⟨rfl, rfl⟩
theorem all_any (n : Nat) (w : World) (hn : n ≤ 10) :
    Calls Try.prog 25 #[.int .i64 n] w fun e w' => e = .returned (.int .i64 ((pw n : Nat) - 1 : Int)) ∧ w = w' := by
  have h := wrap_pow n (by omega)
  have h2 := pw_small n (by omega)
  go_enter Try.func25, Try.ntmps25
  go_wp2
  go_ret
  exact ⟨rfl, rfl⟩
theorem isCount_any (n : Int) (w : World) :
    Calls Try.prog 23 #[.int .i64 n] w fun e w' => e = .returned (.bool (cnt n)) ∧ w = w' := by
  by_cases h0 : 0 ≤ n
  · by_cases h1 : n ≤ 10
    · go_enter Try.func23, Try.ntmps23
      go_wp2
      go_ret
      exact ⟨ret_bool (by simp [cnt, h0, h1]), rfl⟩
    · go_enter Try.func23, Try.ntmps23
      go_wp2
      go_ret
      exact ⟨ret_bool (by simp [cnt, h1]), rfl⟩
  · have h0' : decide (0 ≤ n) = false := by simp; omega
    go_enter Try.func23, Try.ntmps23
    go_wp2
    go_ret
    exact ⟨ret_bool (by simp [cnt]; omega), rfl⟩
theorem isSet_any (s : Int) (n : Nat) (w : World) (hn : n ≤ 10) :
    Calls Try.prog 56 #[.int .i64 s, .int .i64 n] w fun e w' => e = .returned (.bool (sts s n)) ∧ w = w' := by
  by_cases h0 : 0 ≤ s
  · by_cases h1 : s ≤ ((pw n : Nat) - 1 : Int)
    · go_enter Try.func56, Try.ntmps56
      go_wp2_with (go_at_call 25; refine (all_any n _ hn).mono ?_; rintro e w' ⟨rfl, rfl⟩)
      go_ret
      exact ⟨ret_bool (by simp [sts, h0]; omega), rfl⟩
    · go_enter Try.func56, Try.ntmps56
      go_wp2_with (go_at_call 25; refine (all_any n _ hn).mono ?_; rintro e w' ⟨rfl, rfl⟩)
      go_ret
      exact ⟨ret_bool (by simp [sts, h0]; omega), rfl⟩
  · have h0' : decide (0 ≤ s) = false := by simp; omega
    go_enter Try.func56, Try.ntmps56
    go_wp2
    go_ret
    exact ⟨ret_bool (by simp [sts]; omega), rfl⟩
end Go.Proofs.Ytklfnghgpmjnmaa
namespace Go.Proofs.Ytklfnghgpmjnmaa
open Go.RowKit

/-- s halved k times. -/
def hv (s k : Nat) : Nat := s / 2 ^ k
theorem hv_zero (s : Nat) : hv s 0 = s := by simp [hv]
theorem hv_succ (s k : Nat) : hv s (k + 1) = hv s k / 2 := by simp [hv, Nat.pow_succ, Nat.div_div_eq_div_mul]
theorem hv_bit (s k : Nat) : s.testBit k = decide (hv s k % 2 = 1) := Nat.testBit_eq_decide_div_mod_eq
theorem hv_le (s k : Nat) : hv s k ≤ s := Nat.div_le_self _ _

theorem in_any (s p : Nat) (w : World) (hs : s < 9223372036854775808) (hp : p < 63) :
    Calls Try.prog 61 #[.int .i64 s, .int .i64 p] w fun e w' => e = .returned (.bool (s.testBit p)) ∧ w = w' := by
  go_enter Try.func61, Try.ntmps61
  go_wp2
  go_loop [0, 1] (fun t i => ∃ k : Nat, k ≤ p ∧ t = .int .i64 (hv s k : Nat) ∧ i = .int .i64 ((p : Int) - (k : Nat))) (fun _ i => (intOf i).toNat)
  case atStart => exact ⟨0, Nat.zero_le _, by rw [hv_zero], by simp⟩
  case round =>
    obtain ⟨k, hk, rfl, rfl⟩ := hrel
    have hl := hv_le s k
    by_cases hlt : k < p
    · go_wp2
      go_round
      case rel => exact ⟨k + 1, by omega, by rw [hv_succ]; simp, by go_num⟩
      case measure => simp [intOf]; omega
    · have hkp : k = p := by omega
      subst hkp
      go_wp2
      go_ret
      exact ⟨ret_bool (by rw [hv_bit, Bool.eq_iff_iff]; simp; omega), rfl⟩
theorem bit_any (n : Nat) (w : World) (hn : n < 62) :
    Calls Try.prog 47 #[.int .i64 n] w fun e w' => e = .returned (.int .i64 (pw n : Nat)) ∧ w = w' := by
  go_enter Try.func47, Try.ntmps47
  go_wp2
  go_loop [0, 3] (fun i t => ∃ k : Nat, k ≤ n ∧ t = .int .i64 (pw k : Nat) ∧ i = .int .i64 ((n : Int) - (k : Nat))) (fun i _ => (intOf i).toNat)
  case atStart => exact ⟨0, Nat.zero_le _, rfl, by simp⟩
  case round =>
    obtain ⟨k, hk, rfl, rfl⟩ := hrel
    have hl := pw_small k (by omega)
    by_cases hlt : k < n
    · go_wp2
      go_round
      case rel => exact ⟨k + 1, by omega, by rw [pw_succ]; go_num, by go_num⟩
      case measure => simp [intOf]; omega
    · have hkp : k = n := by omega
      subst hkp
      go_wp2
      go_ret
      exact ⟨rfl, rfl⟩
end Go.Proofs.Ytklfnghgpmjnmaa
