/-
  What seek.Three answers, handed a closure: the first three numbers of which it is so. Conditions: at most forty numbers; the closure answers P in each world that leaves the first one as it was, and writes nothing there.
-/
import Derived.Test.YtgdbldfbhiaepabDoorTriM
namespace Go.Proofs.YtgdbldfbhiaepabDoor
open Go.RowKit

/-- A closure that answers P of three numbers below n, wherever what lay at first still lies. -/
def Clo (n F : Nat) (caps : Array Value) (P : Nat → Nat → Nat → Bool) (w : World) : Prop :=
  ∀ x y z : Nat, x < n → y < n → z < n → ∀ W : World, Below w.heap.size w W → Calls Tryd.prog F (#[.int .i64 (x : Nat), .int .i64 (y : Nat), .int .i64 (z : Nat)] ++ caps) W fun e w' => e = .returned (.bool (P x y z)) ∧ Below W.heap.size W w'

/-- The number is that of a function with a body. -/
def Ent (F : Nat) : Prop := ∀ (args : Array Value) (w : World), Sem.run Tryd.prog (callFunc F args) w = .ok (.enter F args) w

theorem row3 (w : World) (a b c : Nat) : NSl (w.alloc (.cells #[.int .i64 (a : Nat), .int .i64 (b : Nat), .int .i64 (c : Nat)] 3)) (.slice (some ⟨w.heap.size, 0, none⟩) 3 3) [a, b, c] := by
  refine ⟨_, 3, rfl, fun k hk => ⟨_, _, rfl, ?_⟩⟩
  simp only [List.length_cons, List.length_nil] at hk
  rcases (by omega : k = 0 ∨ k = 1 ∨ k = 2) with rfl | rfl | rfl <;> simp [nth]

end Go.Proofs.YtgdbldfbhiaepabDoor
