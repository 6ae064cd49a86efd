/-
  What the reference's Height answers. Conditions: an order of at most ten points that lies in a slice of numbers.
-/
import Derived.Test.YtgdbldfbhiaepaaLevelM
import Derived.Test.YtgdbldfbhiaepaaCoversP
import Derived.Test.YtgdbldfbhiaepaaNats
import Derived.Deep.LoopGhost
namespace Go.Proofs.Ytgdbldfbhiaepaa
open Go.RowKit

end Go.Proofs.Ytgdbldfbhiaepaa
