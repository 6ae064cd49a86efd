/-
  DERIVED. GIVEN WITH THE SEED: THE CARDS: each row of YthlhngjfbdaikaaDoorRows.lean that lists a variable, with what it lists TIED to the program's text (the seventh form; the later family's looks); each row that meets fmt, with fmt's text TOLD by the authors' own Lean function (tested against real Go, not proved from fmt's source: count such statements apart). THE CARD IS WHAT COUNTS. Prove the row's statement (the work); the ties are given (YthlhngjfbdaikaaDoorTie.lean); close each card by the builder's one call (the guide's Derived/Test/ToyasCard.lean, 'card_holds'). Laid BY PROGRAM, IN A SANDBOX (cutbox-door.mjs). By AI agents, Wed Nov 11 2026. No macro, syntax, notation, axiom, sorry.
-/
import Derived.Test.YthlhngjfbdaikaaDoorRows
import GoSem.ClaimSeven
namespace Go.Proofs.YthlhngjfbdaikaaDoor
namespace Rows

/-- THE TIED CARD OF 'hasselaw.ScribePrints'. -/
def scribePrintsCard : Claim7 := { stood := { row := scribePrintsRow, standIns := [], harness := (true, "40f2975ab847c9d734d2245ecce46ca94daaf5345561b6413bbd1271b5e3b059"), looks := false }, kinds := [], alts := [], laidByText := true, laidKinds := [.data, .data, .data], laidTests := true, laidLooks := .later }
def ScribePrintsCardSaid : Prop := Claim7.holds Tryd.pinned (.plain (OpenSpec.ofChange scribePrintsSpec)) scribePrintsCard

/-- THE SECOND FORM's CARD OF 'hasselaw.ScribePrints'. -/
def scribePrintsUptoCard : Claim7 := { stood := { row := scribePrintsUptoRow, standIns := [], harness := (true, "40f2975ab847c9d734d2245ecce46ca94daaf5345561b6413bbd1271b5e3b059"), looks := false }, kinds := [], alts := [], laidByText := true, laidKinds := [.data, .data, .data], laidTests := true, laidLooks := .later }
def ScribePrintsUptoCardSaid : Prop := Claim7.holds Tryd.pinned (.plain (OpenSpec.upto scribePrintsSpec)) scribePrintsUptoCard
end Rows
end Go.Proofs.YthlhngjfbdaikaaDoor
