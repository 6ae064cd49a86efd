/-
  What lattice.inBoth and lattice.isBelow answer. Conditions: the closure answers so of either table, in each world that leaves the first one as it was; at most forty elements.
-/
import Derived.Test.YtibnadbobijjpaaLaws
namespace Go.Proofs.Ytibnadbobijjpaa
set_option maxRecDepth 100000
open Go.RowKit

/-- A closure that answers p of a table. -/
def Clo1 (F : Nat) (caps : Array Value) (V : Value) (p : Bool) (w : World) : Prop :=
  ∀ W : World, Below w.heap.size w W → Calls Try.prog F (#[V] ++ caps) W fun e w' => e = .returned (.bool p) ∧ Below W.heap.size W w'
theorem Clo1.step {F : Nat} {caps : Array Value} {V : Value} {p : Bool} {w W : World} (h : Clo1 F caps V p w) (hb : Below w.heap.size w W) : Clo1 F caps V p W :=
  fun W' hW => h W' (Below.then hb hW)

end Go.Proofs.Ytibnadbobijjpaa
