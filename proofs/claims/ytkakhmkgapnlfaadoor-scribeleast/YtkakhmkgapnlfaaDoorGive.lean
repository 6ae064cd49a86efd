/-
  What scribe.giveUp does: it panics with the fault. No condition.
-/
import Derived.Test.YtkakhmkgapnlfaaDoorReadD
import Derived.WalkSmall
namespace Go.Proofs.YtkakhmkgapnlfaaDoor
open Go.RowKit

/-- The panic that a fault is. -/
def flt (c p : Int) : List PanicEntry := [{ v := .iface 28 (.agg #[.int .i64 c, .int .i64 p]), recovered := false }]
theorem giveUp_any (c p : Int) (w : World) :
    Calls Tryd.prog 15 #[.int .i64 c, .int .i64 p] w fun e w' => e = .panicked (flt c p) ∧ w' = w := by
  go_enter Tryd.func15, Tryd.ntmps15
  go_wp2_with fail
  simp [bodyPost, flt]
end Go.Proofs.YtkakhmkgapnlfaaDoor
