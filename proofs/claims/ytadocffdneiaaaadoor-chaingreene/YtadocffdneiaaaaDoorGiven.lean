/-
  What the reference's SameOrder and hasselaw.given answer. Conditions: slices read as slices of numbers.
-/
import Derived.Test.YtadocffdneiaaaaDoorBegun
namespace Go.Proofs.YtadocffdneiaaaaDoor
open Go.RowKit

def SameOrders (n n' : Int) (la lb : Nat) (f g : Nat → Int) : Prop := n = n' ∧ SameRows la lb f g
/-- What a call answers that hands back an order and an errno. -/
def OrdErr (c : Int) (n : Int) (len : Nat) (F : Nat → Int) (x : Value) (w : World) : Prop :=
  (c ≠ 0 ∧ x = noOrder) ∨ (c = 0 ∧ ∃ a cap, x = .agg #[.int .i64 n, .slice a len cap] ∧ Row w a len F)
theorem OrdErr.step {c n : Int} {len : Nat} {F : Nat → Int} {x : Value} {w w' : World} (h : OrdErr c n len F x w) (hb : Below w.heap.size w w') : OrdErr c n len F x w' := by
  rcases h with h | ⟨h0, a, cap, hx, hr⟩
  · exact .inl h
  · exact .inr ⟨h0, a, cap, hx, hr.below hb⟩

end Go.Proofs.YtadocffdneiaaaaDoor
