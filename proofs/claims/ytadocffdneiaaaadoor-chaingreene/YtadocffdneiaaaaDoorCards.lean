/-
  DERIVED. GIVEN WITH THE SEED: THE CARDS: each row of YtadocffdneiaaaaDoorRows.lean that lists a variable, with what it lists TIED to the program's text (the seventh form; the later family's looks); each row that meets fmt, with fmt's text TOLD by the authors' own Lean function (tested against real Go, not proved from fmt's source: count such statements apart). THE CARD IS WHAT COUNTS. Prove the row's statement (the work); the ties are given (YtadocffdneiaaaaDoorTie.lean); close each card by the builder's one call (the guide's Derived/Test/ToyasCard.lean, 'card_holds'). Laid BY PROGRAM, IN A SANDBOX (cutbox-door.mjs). By AI agents, Wed Nov 11 2026. No macro, syntax, notation, axiom, sorry.
-/
import Derived.Test.YtadocffdneiaaaaDoorRows
import GoSem.ClaimSeven
namespace Go.Proofs.YtadocffdneiaaaaDoor
namespace Rows

/-- THE TIED CARD OF 'hasselaw.ChainGreene'. -/
def chainGreeneCard : Claim7 := { stood := { row := chainGreeneRow, standIns := [], harness := (true, "1e08f5d8fe40f8befdd8085950069d92f31f5a351f3b38aa1de979b1d04055dd"), looks := false }, kinds := [], alts := [], laidByText := true, laidKinds := [.data, .data], laidTests := true, laidLooks := .later }
def ChainGreeneCardSaid : Prop := Claim7.holds Tryd.pinned (.plain (OpenSpec.ofChange chainGreeneSpec)) chainGreeneCard

/-- THE SECOND FORM's CARD OF 'hasselaw.ChainGreene'. -/
def chainGreeneUptoCard : Claim7 := { stood := { row := chainGreeneUptoRow, standIns := [], harness := (true, "1e08f5d8fe40f8befdd8085950069d92f31f5a351f3b38aa1de979b1d04055dd"), looks := false }, kinds := [], alts := [], laidByText := true, laidKinds := [.data, .data], laidTests := true, laidLooks := .later }
def ChainGreeneUptoCardSaid : Prop := Claim7.holds Tryd.pinned (.plain (OpenSpec.upto chainGreeneSpec)) chainGreeneUptoCard
end Rows
end Go.Proofs.YtadocffdneiaaaaDoor
