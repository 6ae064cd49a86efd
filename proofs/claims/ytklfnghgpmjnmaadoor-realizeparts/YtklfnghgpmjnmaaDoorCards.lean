/-
  DERIVED. GIVEN WITH THE SEED: THE CARDS: each row of YtklfnghgpmjnmaaDoorRows.lean that lists a variable, with what it lists TIED to the program's text (the seventh form; the later family's looks); each row that meets fmt, with fmt's text TOLD by the authors' own Lean function (tested against real Go, not proved from fmt's source: count such statements apart). THE CARD IS WHAT COUNTS. Prove the row's statement (the work); the ties are given (YtklfnghgpmjnmaaDoorTie.lean); close each card by the builder's one call (the guide's Derived/Test/ToyasCard.lean, 'card_holds'). Laid BY PROGRAM, IN A SANDBOX (cutbox-door.mjs). By AI agents, Wed Nov 11 2026. No macro, syntax, notation, axiom, sorry.
-/
import Derived.Test.YtklfnghgpmjnmaaDoorRows
import GoSem.ClaimSeven
namespace Go.Proofs.YtklfnghgpmjnmaaDoor
namespace Rows

/-- THE TIED CARD OF 'hasselaw.RealizeParts'. -/
def realizePartsCard : Claim7 := { stood := { row := realizePartsRow, standIns := [], harness := (true, "381a5388ff2c3504a955fd7d8502a512edb4852d792b19a3e2387e4ac81e72ad"), looks := false }, kinds := [], alts := [], laidByText := true, laidKinds := [.data, .data], laidTests := true, laidLooks := .later }
def RealizePartsCardSaid : Prop := Claim7.holds Tryd.pinned (.plain (OpenSpec.ofChange realizePartsSpec)) realizePartsCard

/-- THE SECOND FORM's CARD OF 'hasselaw.RealizeParts'. -/
def realizePartsUptoCard : Claim7 := { stood := { row := realizePartsUptoRow, standIns := [], harness := (true, "381a5388ff2c3504a955fd7d8502a512edb4852d792b19a3e2387e4ac81e72ad"), looks := false }, kinds := [], alts := [], laidByText := true, laidKinds := [.data, .data], laidTests := true, laidLooks := .later }
def RealizePartsUptoCardSaid : Prop := Claim7.holds Tryd.pinned (.plain (OpenSpec.upto realizePartsSpec)) realizePartsUptoCard
end Rows
end Go.Proofs.YtklfnghgpmjnmaaDoor
