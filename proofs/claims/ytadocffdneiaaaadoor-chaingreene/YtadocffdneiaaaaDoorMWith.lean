/-
  Who goes with some of a set: what match.partners and the reference's With answer. Conditions: a graph of at most ten points on either side that lies in a slice of numbers.
-/
import Derived.Test.YtadocffdneiaaaaDoorMSize
import Derived.Deep.RegionHeld3
namespace Go.Proofs.YtadocffdneiaaaaDoor
open Go.RowKit

/-- All with whom those of the first k in s may go. -/
def orTo (t : Nat → Nat) (s : Nat) : Nat → Nat
  | 0 => 0
  | k + 1 => if s.testBit k = true then orTo t s k ||| t k else orTo t s k
theorem orTo_yes {t : Nat → Nat} {s k : Nat} (h : s.testBit k = true) : orTo t s (k + 1) = orTo t s k ||| t k := by simp [orTo, h]
theorem orTo_no {t : Nat → Nat} {s k : Nat} (h : s.testBit k = false) : orTo t s (k + 1) = orTo t s k := by simp [orTo, h]
theorem orTo_lt {t : Nat → Nat} {s l r : Nat} (ht : Sm r l t) : ∀ k, k ≤ l → orTo t s k < pw r
  | 0, _ => pw_pos r
  | k + 1, hk => by
    have ih := orTo_lt (s := s) ht k (by omega)
    cases h : s.testBit k
    · rw [orTo_no h]; exact ih
    · rw [orTo_yes h]; exact Nat.or_lt_two_pow ih (ht k (by omega))
def anyTo (t : Nat → Nat) (s x : Nat) : Nat → Bool
  | 0 => false
  | k + 1 => anyTo t s x k || (s.testBit k && (t k).testBit x)
theorem orTo_bit (t : Nat → Nat) (s x : Nat) : ∀ k, (orTo t s k).testBit x = anyTo t s x k
  | 0 => by simp [orTo, anyTo]
  | k + 1 => by
    have ih := orTo_bit t s x k
    cases h : s.testBit k
    · rw [orTo_no h, anyTo, h, ih]; simp
    · rw [orTo_yes h, anyTo, h, Nat.testBit_or, ih]; simp
theorem with_eq {t : Nat → Nat} {s l r : Nat} (ht : Sm r l t) : setBy (fun x => anyTo t s x l) r = orTo t s l := by
  refine eq_of_bits (n := r) (setBy_lt _ r) (orTo_lt ht l (Nat.le_refl _)) fun i hi => ?_
  rw [setBy_bit, orTo_bit]; simp [hi]
theorem has_as (s p : Nat) (w : World) (b : Bool) (h : s.testBit p = b) (hs : s < 9223372036854775808) (hp : p < 63) :
    Calls Tryd.prog 22 #[.int .i64 s, .int .i64 p] w fun e w' => e = .returned (.bool b) ∧ w' = w :=
  (has_any s p w hs hp).mono fun _ _ ⟨h1, h2⟩ => ⟨by rw [← h]; exact h1, h2.symm⟩
end Go.Proofs.YtadocffdneiaaaaDoor
