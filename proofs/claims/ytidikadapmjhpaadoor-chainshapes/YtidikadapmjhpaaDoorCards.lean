/-
  DERIVED. GIVEN WITH THE SEED: THE CARDS: each row of YtidikadapmjhpaaDoorRows.lean that lists a variable, with what it lists TIED to the program's text (the seventh form; the later family's looks); each row that meets fmt, with fmt's text TOLD by the authors' own Lean function (tested against real Go, not proved from fmt's source: count such statements apart). THE CARD IS WHAT COUNTS. Prove the row's statement (the work); the ties are given (YtidikadapmjhpaaDoorTie.lean); close each card by the builder's one call (the guide's Derived/Test/ToyasCard.lean, 'card_holds'). Laid BY PROGRAM, IN A SANDBOX (cutbox-door.mjs). By AI agents, Wed Nov 11 2026. No macro, syntax, notation, axiom, sorry.
-/
import Derived.Test.YtidikadapmjhpaaDoorRows
import GoSem.ClaimSeven
namespace Go.Proofs.YtidikadapmjhpaaDoor
namespace Rows

/-- THE TIED CARD OF 'hasselaw.ChainShapes'. -/
def chainShapesCard : Claim7 := { stood := { row := chainShapesRow, standIns := [], harness := (true, "5f6e89f75bc222280f09e012fcdbbe6803447d8c34800e6c81e722d54a9a9f4d"), looks := false }, kinds := [], alts := [], laidByText := true, laidKinds := [.data, .data], laidTests := true, laidLooks := .later }
def ChainShapesCardSaid : Prop := Claim7.holds Tryd.pinned (.plain (OpenSpec.ofChange chainShapesSpec)) chainShapesCard

/-- THE SECOND FORM's CARD OF 'hasselaw.ChainShapes'. -/
def chainShapesUptoCard : Claim7 := { stood := { row := chainShapesUptoRow, standIns := [], harness := (true, "5f6e89f75bc222280f09e012fcdbbe6803447d8c34800e6c81e722d54a9a9f4d"), looks := false }, kinds := [], alts := [], laidByText := true, laidKinds := [.data, .data], laidTests := true, laidLooks := .later }
def ChainShapesUptoCardSaid : Prop := Claim7.holds Tryd.pinned (.plain (OpenSpec.upto chainShapesSpec)) chainShapesUptoCard
end Rows
end Go.Proofs.YtidikadapmjhpaaDoor
