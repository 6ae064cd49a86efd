/-
  What the reference's Height answers. Conditions: an order of at most ten points that lies in a slice of numbers.
-/
import Derived.Test.YtpagbjblibckoaaDoorLevelM
import Derived.Test.YtpagbjblibckoaaDoorKin
import Derived.Test.YtpagbjblibckoaaDoorNats
import Derived.Deep.LoopGhost
namespace Go.Proofs.YtpagbjblibckoaaDoor
open Go.RowKit

end Go.Proofs.YtpagbjblibckoaaDoor
