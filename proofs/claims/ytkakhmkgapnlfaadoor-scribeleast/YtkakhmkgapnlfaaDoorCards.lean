/-
  DERIVED. GIVEN WITH THE SEED: THE CARDS: each row of YtkakhmkgapnlfaaDoorRows.lean that lists a variable, with what it lists TIED to the program's text (the seventh form; the later family's looks); each row that meets fmt, with fmt's text TOLD by the authors' own Lean function (tested against real Go, not proved from fmt's source: count such statements apart). THE CARD IS WHAT COUNTS. Prove the row's statement (the work); the ties are given (YtkakhmkgapnlfaaDoorTie.lean); close each card by the builder's one call (the guide's Derived/Test/ToyasCard.lean, 'card_holds'). Laid BY PROGRAM, IN A SANDBOX (cutbox-door.mjs). By AI agents, Wed Nov 11 2026. No macro, syntax, notation, axiom, sorry.
-/
import Derived.Test.YtkakhmkgapnlfaaDoorRows
import GoSem.ClaimSeven
namespace Go.Proofs.YtkakhmkgapnlfaaDoor
namespace Rows

/-- THE TIED CARD OF 'hasselaw.ScribeLeast'. -/
def scribeLeastCard : Claim7 := { stood := { row := scribeLeastRow, standIns := [], harness := (true, "d512f3d1c85dc565697f0a8ffd6a4b4e59962bfe82bfe7875caa0a82dd301755"), looks := true }, kinds := [], alts := [], laidByText := true, laidKinds := [.data, .data, .data], laidTests := true, laidLooks := .later }
def ScribeLeastCardSaid : Prop := Claim7.holds Tryd.pinned (.plain (OpenSpec.ofChange scribeLeastSpec)) scribeLeastCard

/-- THE SECOND FORM's CARD OF 'hasselaw.ScribeLeast'. -/
def scribeLeastUptoCard : Claim7 := { stood := { row := scribeLeastUptoRow, standIns := [], harness := (true, "d512f3d1c85dc565697f0a8ffd6a4b4e59962bfe82bfe7875caa0a82dd301755"), looks := true }, kinds := [], alts := [], laidByText := true, laidKinds := [.data, .data, .data], laidTests := true, laidLooks := .later }
def ScribeLeastUptoCardSaid : Prop := Claim7.holds Tryd.pinned (.plain (OpenSpec.upto scribeLeastSpec)) scribeLeastUptoCard
end Rows
end Go.Proofs.YtkakhmkgapnlfaaDoor
