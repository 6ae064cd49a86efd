/-
  What the reference's Height answers. Conditions: an order of at most ten points that lies in a slice of numbers.
-/
import Derived.Test.YtomoodpgmkjacabDoorLevelM
import Derived.Test.YtomoodpgmkjacabDoorCovB
import Derived.Test.YtomoodpgmkjacabDoorNats
import Derived.Deep.LoopGhost
namespace Go.Proofs.YtomoodpgmkjacabDoor
open Go.RowKit

end Go.Proofs.YtomoodpgmkjacabDoor
