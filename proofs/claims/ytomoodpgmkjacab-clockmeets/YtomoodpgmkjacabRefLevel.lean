/-
  What the reference's Height answers. Conditions: an order of at most ten points that lies in a slice of numbers.
-/
import Derived.Test.YtomoodpgmkjacabLevelM
import Derived.Test.YtomoodpgmkjacabCovB
import Derived.Test.YtomoodpgmkjacabNats
import Derived.Deep.LoopGhost
namespace Go.Proofs.Ytomoodpgmkjacab
open Go.RowKit

end Go.Proofs.Ytomoodpgmkjacab
