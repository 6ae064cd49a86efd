/-
  What the small functions answer: isCount, isPoint, all, isSet, has of package order; In, Bit of the reference. Conditions: as each theorem says.
  What the reference's In and Bit answer. Conditions: a set that is not negative, a point below 62.
-/
import Derived.Test.YtklfnghgpmjnmaaDoorRows
import Derived.Test.YtklfnghgpmjnmaaDoorBits
import Derived.WalkKit
import Derived.WalkSpells
import Derived.WalkLawsBesides
namespace Go.Proofs.YtklfnghgpmjnmaaDoor
open Go.RowKit

/-- May an order have n points? -/
def cnt (n : Int) : Bool := decide (0 ≤ n ∧ n ≤ 10)
/-- Is p one of n points? -/
def pnt (p n : Int) : Bool := decide (0 ≤ p ∧ p < n)
/-- Is s a set of n points? -/
def sts (s : Int) (n : Nat) : Bool := decide (0 ≤ s ∧ s < (pw n : Nat))
theorem has_any (s p : Nat) (w : World) (hs : s < 9223372036854775808) (hp : p < 63) :
    Calls Tryd.prog 19 #[.int .i64 s, .int .i64 p] w fun e w' => e = .returned (.bool (s.testBit p)) ∧ w = w' := by
  have h := bit_and_one s p hs
  go_enter Tryd.func19, Tryd.ntmps19
  go_wp2
  go_ret
  exact ⟨rfl, rfl⟩
theorem all_any (n : Nat) (w : World) (hn : n ≤ 10) :
    Calls Tryd.prog 22 #[.int .i64 n] w fun e w' => e = .returned (.int .i64 ((pw n : Nat) - 1 : Int)) ∧ w = w' := by
  have h := wrap_pow n (by omega)
  have h2 := pw_small n (by omega)
  go_enter Tryd.func22, Tryd.ntmps22
  go_wp2
  go_ret
  exact ⟨rfl, rfl⟩
theorem isCount_any (n : Int) (w : World) :
    Calls Tryd.prog 20 #[.int .i64 n] w fun e w' => e = .returned (.bool (cnt n)) ∧ w = w' := by
  by_cases h0 : 0 ≤ n
  · by_cases h1 : n ≤ 10
    · go_enter Tryd.func20, Tryd.ntmps20
      go_wp2
      go_ret
      exact ⟨ret_bool (by simp [cnt, h0, h1]), rfl⟩
    · go_enter Tryd.func20, Tryd.ntmps20
      go_wp2
      go_ret
      exact ⟨ret_bool (by simp [cnt, h1]), rfl⟩
  · have h0' : decide (0 ≤ n) = false := by simp; omega
    go_enter Tryd.func20, Tryd.ntmps20
    go_wp2
    go_ret
    exact ⟨ret_bool (by simp [cnt]; omega), rfl⟩
theorem isSet_any (s : Int) (n : Nat) (w : World) (hn : n ≤ 10) :
    Calls Tryd.prog 17 #[.int .i64 s, .int .i64 n] w fun e w' => e = .returned (.bool (sts s n)) ∧ w = w' := by
  by_cases h0 : 0 ≤ s
  · by_cases h1 : s ≤ ((pw n : Nat) - 1 : Int)
    · go_enter Tryd.func17, Tryd.ntmps17
      go_wp2_with (go_at_call 22; refine (all_any n _ hn).mono ?_; rintro e w' ⟨rfl, rfl⟩)
      go_ret
      exact ⟨ret_bool (by simp [sts, h0]; omega), rfl⟩
    · go_enter Tryd.func17, Tryd.ntmps17
      go_wp2_with (go_at_call 22; refine (all_any n _ hn).mono ?_; rintro e w' ⟨rfl, rfl⟩)
      go_ret
      exact ⟨ret_bool (by simp [sts, h0]; omega), rfl⟩
  · have h0' : decide (0 ≤ s) = false := by simp; omega
    go_enter Tryd.func17, Tryd.ntmps17
    go_wp2
    go_ret
    exact ⟨ret_bool (by simp [sts]; omega), rfl⟩
end Go.Proofs.YtklfnghgpmjnmaaDoor
namespace Go.Proofs.YtklfnghgpmjnmaaDoor
open Go.RowKit

/-- s halved k times. -/
def hv (s k : Nat) : Nat := s / 2 ^ k
theorem hv_zero (s : Nat) : hv s 0 = s := by simp [hv]
theorem hv_succ (s k : Nat) : hv s (k + 1) = hv s k / 2 := by simp [hv, Nat.pow_succ, Nat.div_div_eq_div_mul]
theorem hv_bit (s k : Nat) : s.testBit k = decide (hv s k % 2 = 1) := Nat.testBit_eq_decide_div_mod_eq
theorem hv_le (s k : Nat) : hv s k ≤ s := Nat.div_le_self _ _

theorem bit_any (n : Nat) (w : World) (hn : n < 62) :
    Calls Tryd.prog 9 #[.int .i64 n] w fun e w' => e = .returned (.int .i64 (pw n : Nat)) ∧ w = w' := by
  go_enter Tryd.func9, Tryd.ntmps9
  go_wp2
  go_loop [0, 3] (fun i t => ∃ k : Nat, k ≤ n ∧ t = .int .i64 (pw k : Nat) ∧ i = .int .i64 ((n : Int) - (k : Nat))) (fun i _ => (intOf i).toNat)
  case atStart => exact ⟨0, Nat.zero_le _, rfl, by simp⟩
  case round =>
    obtain ⟨k, hk, rfl, rfl⟩ := hrel
    have hl := pw_small k (by omega)
    by_cases hlt : k < n
    · go_wp2
      go_round
      case rel => exact ⟨k + 1, by omega, by rw [pw_succ]; go_num, by go_num⟩
      case measure => simp [intOf]; omega
    · have hkp : k = n := by omega
      subst hkp
      go_wp2
      go_ret
      exact ⟨rfl, rfl⟩
end Go.Proofs.YtklfnghgpmjnmaaDoor
