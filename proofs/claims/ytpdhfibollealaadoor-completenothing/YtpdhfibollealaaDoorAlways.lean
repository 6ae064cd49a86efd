/-
  What lattice.always answers, handed a closure: whether it holds of each three. Conditions: at most forty elements; the closure answers P in each world that leaves the first one as it was.
-/
import Derived.Test.YtpdhfibollealaaDoorThree
namespace Go.Proofs.YtpdhfibollealaaDoor
open Go.RowKit

theorem Clo.step {n F : Nat} {caps : Array Value} {P : Nat → Nat → Nat → Bool} {w W : World} (h : Clo n F caps P w) (hb : Below w.heap.size w W) : Clo n F caps P W :=
  fun x y z hx hy hz W' hW => h x y z hx hy hz W' (Below.then hb hW)

end Go.Proofs.YtpdhfibollealaaDoor
