/-
  What order.turn and order.Dual answer. No condition but that a slice reads as a slice of numbers.
-/
import Derived.Test.YtpgbcnbhfgopdaaNats
namespace Go.Proofs.Ytpgbcnbhfgopdaa
open Go.RowKit

end Go.Proofs.Ytpgbcnbhfgopdaa
