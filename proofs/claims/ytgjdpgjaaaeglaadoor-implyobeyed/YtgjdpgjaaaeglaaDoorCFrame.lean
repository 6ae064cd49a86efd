/-
  How a context that was handed in reads. No condition.
-/
import Derived.Test.YtgjdpgjaaaeglaaDoorPFrame
namespace Go.Proofs.YtgjdpgjaaaeglaaDoor
theorem cellsCA : Tryd.prog.cellsOf 39 = 3 := by kernel_rfl
end Go.Proofs.YtgjdpgjaaaeglaaDoor
