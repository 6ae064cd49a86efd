/-
  What the reference's Heights and LevelSets answer. Conditions: an order of at most ten points that lies in a slice of numbers.
-/
import Derived.Test.YtomoodpgmkjacabDoorRefLevel
namespace Go.Proofs.YtomoodpgmkjacabDoor
open Go.RowKit

def mapTo (F : Nat → Nat) (k : Nat) : List Nat := (List.range k).map F
theorem mapTo_succ (F : Nat → Nat) (k : Nat) : mapTo F (k + 1) = mapTo F k ++ [F k] := by simp [mapTo, List.range_succ]
theorem mapTo_len (F : Nat → Nat) (k : Nat) : (mapTo F k).length = k := by simp [mapTo]
/-- The heights. -/
def hts (g : Nat → Nat) (n : Nat) : List Nat := mapTo (ht g n) n

end Go.Proofs.YtomoodpgmkjacabDoor
