/-
  What realize's packed answers: sets of at most seven points, side by side in one number. Conditions: at most seven sets.
-/
import Derived.Test.YtklfnghgpmjnmaaDoorPermW
import Derived.Laws.BitsAllLaws
namespace Go.Proofs.YtklfnghgpmjnmaaDoor
open Go.RowKit

/-- The first k sets, side by side. -/
def pkd (g : Nat → Nat) : Nat → Nat
  | 0 => 0
  | k + 1 => pkd g k ||| (g k <<< (7 * k))
theorem pkd_lt {g : Nat → Nat} (hg : ∀ k, g k < 128) : ∀ k, pkd g k < 2 ^ (7 * k)
  | 0 => by simp [pkd]
  | k + 1 => by
    have h1 := pkd_lt hg k
    have h2 : g k <<< (7 * k) < 2 ^ (7 * (k + 1)) := by
      rw [Nat.shiftLeft_eq, show 7 * (k + 1) = 7 + 7 * k by omega, Nat.pow_add]
      exact Nat.mul_lt_mul_of_pos_right (hg k) (Nat.pow_pos (by omega))
    exact Nat.or_lt_two_pow (Nat.lt_of_lt_of_le h1 (Nat.pow_le_pow_right (by omega) (by omega))) h2
theorem pkd_bit {g : Nat → Nat} (hg : ∀ k, g k < 128) (n b a : Nat) (hb : b < n) (ha : a < 7) : (pkd g n).testBit (7 * b + a) = (g b).testBit a := by
  induction n with
  | zero => omega
  | succ n ih =>
    rw [pkd, Nat.testBit_or, Nat.testBit_shiftLeft]
    by_cases h : b < n
    · rw [ih h]
      have : ¬ 7 * n ≤ 7 * b + a := by omega
      simp [this]
    · obtain rfl : b = n := by omega
      have h0 : (pkd g b).testBit (7 * b + a) = false := Nat.testBit_lt_two_pow (Nat.lt_of_lt_of_le (pkd_lt hg b) (Nat.pow_le_pow_right (by omega) (by omega)))
      rw [h0]
      simp [show 7 * b + a - 7 * b = a by omega]

theorem shl_or {S x k : Nat} (hk : k < 7) (hx : x < 128) (hS : S < 2 ^ (7 * k)) : bits .or .u64 (S : Int) (IntKind.u64.wrap ((x : Int) * 2 ^ (k * 7))) = ((S ||| x <<< (7 * k) : Nat) : Int) := by
  have h1 : 2 ^ (7 * k) ≤ 2 ^ 42 := Nat.pow_le_pow_right (by omega) (by omega)
  have h2 : x <<< (7 * k) ≤ 127 * 2 ^ 42 := by
    rw [Nat.shiftLeft_eq]
    exact Nat.mul_le_mul (by omega) h1
  have h3 : ((x : Int) * 2 ^ (k * 7)) = ((x <<< (7 * k) : Nat) : Int) := by
    rw [Nat.shiftLeft_eq, Nat.mul_comm 7 k]; simp
  rw [h3]
  have h4 : IntKind.u64.wrap ((x <<< (7 * k) : Nat) : Int) = ((x <<< (7 * k) : Nat) : Int) := by
    generalize x <<< (7 * k) = y at *
    simp only [IntKind.wrap, IntKind.bits, IntKind.signed]
    have : (y : Int) % 18446744073709551616 = y := Int.emod_eq_of_lt (by omega) (by omega)
    simpa using this
  rw [h4]
  exact u64_or_nat _ _ (by omega) (by omega)

theorem packed_any (a : Option Addr) (n cap : Nat) (g : Nat → Nat) (w : World) (h7 : n ≤ 7) (hg : ∀ k, g k < 128) (hr : Row w a n (fun k => (g k : Nat))) :
    Calls Tryd.prog 26 #[.slice a n cap] w fun e w' => e = .returned (.int .u64 (pkd g n : Nat)) ∧ w' = w := by
  have HR : Hid (Row w a n (fun k => (g k : Nat))) := hr
  clear hr
  go_enter Tryd.func26, Tryd.ntmps26
  go_wp2_with fail
  go_loop [3, 8] (fun s i => ∃ k : Nat, k ≤ n ∧ i = .int .i64 k ∧ s = .int .u64 (pkd g k : Nat)) (fun _ i => n - (intOf i).toNat)
  case atStart => exact ⟨0, Nat.zero_le _, rfl, rfl⟩
  case round =>
    obtain ⟨k, hk, rfl, rfl⟩ := hrel
    by_cases hlt : k < n
    · obtain ⟨b, off, rfl, hc0⟩ := HR.out.at hlt
      have hc := hc0 k hlt
      have hx := hg k
      have HNX : Hid (pkd g (k + 1) = pkd g k ||| (g k <<< (7 * k))) := rfl
      have hS := pkd_lt hg k
      generalize hgk : g k = x at *
      generalize pkd g k = S at *
      clear hc0
      go_wp2_with fail
      refine ⟨⟨k + 1, by omega, by go_num, ?_⟩, by simp [intOf]; omega⟩
      rw [HNX.out, shl_or (by omega) hx hS]
    · obtain rfl : k = n := by omega
      go_wp2_with fail
      go_ret
      exact ⟨rfl, rfl⟩
end Go.Proofs.YtklfnghgpmjnmaaDoor
