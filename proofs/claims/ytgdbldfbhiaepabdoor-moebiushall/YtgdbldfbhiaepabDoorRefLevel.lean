/-
  What the reference's Height answers. Conditions: an order of at most ten points that lies in a slice of numbers.
-/
import Derived.Test.YtgdbldfbhiaepabDoorLevelM
import Derived.Test.YtgdbldfbhiaepabDoorCoversP
import Derived.Test.YtgdbldfbhiaepabDoorNats
import Derived.Deep.LoopGhost
namespace Go.Proofs.YtgdbldfbhiaepabDoor
open Go.RowKit

end Go.Proofs.YtgdbldfbhiaepabDoor
