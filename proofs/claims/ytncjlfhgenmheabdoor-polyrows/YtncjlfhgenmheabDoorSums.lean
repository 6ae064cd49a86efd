/-
  Plain facts on sums: no Go text here. No condition.
-/
import Derived.Test.YtncjlfhgenmheabDoorChainsM
namespace Go.Proofs.YtncjlfhgenmheabDoor
open Go.RowKit

theorem sumTo_mul (c : Nat) (φ : Nat → Nat) : ∀ n, sumTo (fun k => c * φ k) n = c * sumTo φ n
  | 0 => by simp [sumTo]
  | n + 1 => by rw [sumTo, sumTo, sumTo_mul c φ n, Nat.mul_add]
/-- One value more, weighed. -/
theorem sumTo_upd {f M : Nat → Nat} {i v : Nat} : ∀ n, i < n → sumTo (fun x => upd f i (f i + v) x * M x) n = sumTo (fun x => f x * M x) n + v * M i
  | 0, h => absurd h (Nat.not_lt_zero _)
  | n + 1, h => by
    rw [sumTo, sumTo]
    by_cases e : i = n
    · subst e
      rw [upd_same, Nat.add_mul]
      have : sumTo (fun x => upd f i (f i + v) x * M x) i = sumTo (fun x => f x * M x) i := sumTo_congr i fun k hk => by rw [upd_other _ _ _ _ (by omega)]
      rw [this]; omega
    · rw [sumTo_upd n (by omega), upd_other _ _ _ _ (by omega)]; omega
theorem or_lt {taken k r : Nat} (ht : taken < pw r) (hk : k < r) : taken ||| pw k < pw r := Nat.or_lt_two_pow ht (Nat.pow_lt_pow_right (by decide) hk)
end Go.Proofs.YtncjlfhgenmheabDoor
