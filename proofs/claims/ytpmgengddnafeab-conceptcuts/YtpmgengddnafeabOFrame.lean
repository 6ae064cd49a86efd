/-
  An order has two cells. No condition.
-/
import Derived.Test.YtpmgengddnafeabFrame
namespace Go.Proofs.Ytpmgengddnafeab
theorem cells44 : Try.prog.cellsOf 44 = 2 := by kernel_rfl
end Go.Proofs.Ytpmgengddnafeab
