/-
  What hasselaw.truthIs and hasselaw.numbersAre, of what is the same, answer: true. Conditions: the library's table lies in its variable; slices read as slices of rows.
-/
import Derived.Test.YtddpeldchffidaaIrr
namespace Go.Proofs.Ytddpeldchffidaa
set_option maxRecDepth 100000
open Go.RowKit

theorem bool_iff {a b : Bool} {P : Prop} (h : a = true ↔ P) (h' : b = true ↔ P) : a = b := by
  rcases a with _ | _ <;> rcases b with _ | _ <;> simp_all
theorem NSl.below {w w' : World} {v : Value} {l : List Nat} (h : NSl w v l) (hb : Below w.heap.size w w') : NSl w' v l := by
  obtain ⟨a, cap, rfl, hr⟩ := h
  exact ⟨a, cap, rfl, hr.below hb⟩

end Go.Proofs.Ytddpeldchffidaa
