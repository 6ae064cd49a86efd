/-
  What slices.Collect answers of slices.Values: the same numbers in a slice of its own. Conditions: at most ten numbers.
-/
import Derived.RangeFuncBox
import Derived.RangeFuncLeaves
import Derived.Shelf.Abstract
import Derived.WalkKit
import Derived.OwnWalkIn
import Derived.TacticsInMore
import Derived.LoopNIn
import Derived.LoopIn
import Derived.Maps.AppendAt
import Derived.Test.YtomoodpgmkjacabDoorBuild
namespace Go.Proofs.YtomoodpgmkjacabDoor
open Go.RowKit Go.Shelf
attribute [local go_sem] Oper.semAt_some

/-- The first k numbers. -/
def lst (g : Nat → Nat) (k : Nat) : List Nat := (List.range k).map g
theorem lst_succ (g : Nat → Nat) (k : Nat) : lst g (k + 1) = lst g k ++ [g k] := by simp [lst, List.range_succ]
theorem lst_length (g : Nat → Nat) (k : Nat) : (lst g k).length = k := by simp [lst]
/-- A list as values. -/
def nums (l : List Nat) : List Value := l.map fun x => .int .i64 (x : Nat)
theorem nums_lst (g : Nat → Nat) (n : Nat) : nums (lst g n) = rowVals g n := by simp [nums, lst, rowVals]
theorem nums_append (l : List Nat) (x : Nat) : nums (l ++ [x]) = nums l ++ [.int .i64 (x : Nat)] := by simp [nums]
theorem nums_length (l : List Nat) : (nums l).length = l.length := by simp [nums]

end Go.Proofs.YtomoodpgmkjacabDoor
