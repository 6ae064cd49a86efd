/-
  What the reference's Height answers. Conditions: an order of at most ten points that lies in a slice of numbers.
-/
import Derived.Test.YtomoodpgmkjacaaDoorLevelM
import Derived.Test.YtomoodpgmkjacaaDoorCovB
import Derived.Test.YtomoodpgmkjacaaDoorNats
import Derived.Deep.LoopGhost
namespace Go.Proofs.YtomoodpgmkjacaaDoor
open Go.RowKit

end Go.Proofs.YtomoodpgmkjacaaDoor
