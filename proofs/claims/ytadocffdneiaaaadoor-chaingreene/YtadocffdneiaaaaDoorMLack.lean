/-
  What match.Lack and the reference's Lack answer: the least set on the left that has too few. No condition but that a slice reads as a slice of numbers.
-/
import Derived.Test.YtadocffdneiaaaaDoorMWith
namespace Go.Proofs.YtadocffdneiaaaaDoor
open Go.RowKit

/-- The first of the first n that P lets by. -/
def firstT (P : Nat → Bool) : Nat → Option Nat
  | 0 => none
  | k + 1 => match firstT P k with
    | some s => some s
    | none => if P k = true then some k else none
theorem firstT_none {P : Nat → Bool} {k : Nat} (h : firstT P k = none) (hp : P k = false) : firstT P (k + 1) = none := by simp [firstT, h, hp]
theorem firstT_hit {P : Nat → Bool} {k : Nat} (h : firstT P k = none) (hp : P k = true) : firstT P (k + 1) = some k := by simp [firstT, h, hp]
theorem firstT_keep {P : Nat → Bool} {k s : Nat} (h : firstT P k = some s) : ∀ d, firstT P (k + d) = some s
  | 0 => h
  | d + 1 => by rw [← Nat.add_assoc, firstT, firstT_keep h d]
theorem firstT_to {P : Nat → Bool} {k n : Nat} (h : firstT P k = none) (hp : P k = true) (hk : k < n) : firstT P n = some k := by
  have := firstT_keep (firstT_hit h hp) (n - (k + 1))
  rwa [show k + 1 + (n - (k + 1)) = n by omega] at this
/-- Has the set s too few? -/
def lks (t : Nat → Nat) (l s : Nat) : Bool := decide (pc (orTo t s l) < pc s)
def lkv (o : Option Nat) : Nat := o.getD 0
theorem GRng.row {w : World} {a : Option Addr} {l r : Nat} {f : Nat → Int} (hr : GRng l r f) (h : Row w a l f) : Row w a l (fun k => (nat f k : Nat)) := by
  intro j hj
  have := h j hj
  have e : f j = (nat f j : Nat) := by have := hr j hj; unfold nat; omega
  rw [e] at this
  exact this
theorem GRng.small {l r : Nat} {f : Nat → Int} (hr : GRng l r f) : Sm r l (nat f) := fun k hk => by
  have := hr k hk; unfold nat; omega
theorem pc_le (s : Nat) : pc s ≤ 10 := pcn_le s 10

def LackPost (L R : Int) (len : Nat) (f : Nat → Int) (e : Ending) : Prop :=
  ∃ c : Int, GChk L R len f c ∧ ((c ≠ 0 ∧ e = .returned (.tuple #[.int .i64 0, .bool false, .int .i64 c])) ∨
    (c = 0 ∧ e = .returned (.tuple #[.int .i64 (lkv (firstT (lks (nat f) len) (pw len)) : Nat), .bool (firstT (lks (nat f) len) (pw len)).isSome, .int .i64 0])))

end Go.Proofs.YtadocffdneiaaaaDoor
