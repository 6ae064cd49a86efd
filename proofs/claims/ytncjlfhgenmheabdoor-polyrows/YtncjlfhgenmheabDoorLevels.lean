/-
  What the reference's Height answers. Conditions: an order of at most ten points that lies in a slice of numbers.
  What the reference's Heights and LevelSets answer. Conditions: an order of at most ten points that lies in a slice of numbers.
  What level.Levels and level.Heights answer; what hasselaw.numbersAre answers; that hasselaw.levelBegun answers true. No condition but that a slice reads as a slice of numbers.
-/
import Derived.Test.YtncjlfhgenmheabDoorLevelM
import Derived.Test.YtncjlfhgenmheabDoorCoversP
import Derived.Test.YtncjlfhgenmheabDoorNats
import Derived.Deep.LoopGhost
import Derived.Test.YtncjlfhgenmheabDoorPeel
namespace Go.Proofs.YtncjlfhgenmheabDoor
open Go.RowKit

end Go.Proofs.YtncjlfhgenmheabDoor
namespace Go.Proofs.YtncjlfhgenmheabDoor
open Go.RowKit

def mapTo (F : Nat → Nat) (k : Nat) : List Nat := (List.range k).map F
theorem mapTo_succ (F : Nat → Nat) (k : Nat) : mapTo F (k + 1) = mapTo F k ++ [F k] := by simp [mapTo, List.range_succ]
theorem mapTo_len (F : Nat → Nat) (k : Nat) : (mapTo F k).length = k := by simp [mapTo]
/-- The heights. -/
def hts (g : Nat → Nat) (n : Nat) : List Nat := mapTo (ht g n) n

end Go.Proofs.YtncjlfhgenmheabDoor
namespace Go.Proofs.YtncjlfhgenmheabDoor
open Go.RowKit

theorem NSl.below {w w' : World} {v : Value} {l : List Nat} (h : NSl w v l) (hb : Below w.heap.size w w') : NSl w' v l := by
  obtain ⟨a, cap, rfl, hr⟩ := h
  exact ⟨a, cap, rfl, hr.below hb⟩
/-- What comes with a code: a list, or nothing. -/
def ListPost (L : (Nat → Nat) → Nat → List Nat) (n : Int) (len : Nat) (f : Nat → Int) (e : Ending) (w' : World) : Prop :=
  ∃ (c : Int) (v : Value), Chk n len f c ∧ e = .returned (.tuple #[v, .int .i64 c]) ∧ ((c ≠ 0 ∧ v = .slice none 0 0) ∨ (c = 0 ∧ NSl w' v (L (nat f) len)))

def ListPostC (L : (Nat → Nat) → Nat → List Nat) (n : Int) (len : Nat) (f : Nat → Int) (e : Ending) (w' : World) : Prop :=
  ∃ (c : Int) (v : Value), Chk n len f c ∧ e = .returned (.tuple #[v, .int .i64 c]) ∧ ((c ≠ 0 ∧ v = .slice none 0 0) ∨ (c = 0 ∧ NSc w' v (L (nat f) len)))
end Go.Proofs.YtncjlfhgenmheabDoor
