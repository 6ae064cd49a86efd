/-
  How a family that comes in is read. No condition.
-/
import Derived.Test.YtjoklkbfcobfeabDoorFrame
namespace Go.Proofs.YtjoklkbfcobfeabDoor
open Go.ChangeShapes Go.WideShapes Go.ChangeAt Go.RowKit Go.Joins

theorem cellsFA : Tryd.prog.cellsOf 24 = 2 := by kernel_rfl
end Go.Proofs.YtjoklkbfcobfeabDoor
