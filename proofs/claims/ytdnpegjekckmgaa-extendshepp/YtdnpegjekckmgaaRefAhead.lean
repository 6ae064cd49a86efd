/-
  What the reference's RowsAhead answers: how many rows have a point ahead of one or two others. Conditions: an order of at most ten points that lies in a slice of numbers; three of its points.
-/
import Derived.Test.YtdnpegjekckmgaaRefRows
namespace Go.Proofs.Ytdnpegjekckmgaa
open Go.RowKit

end Go.Proofs.Ytdnpegjekckmgaa
