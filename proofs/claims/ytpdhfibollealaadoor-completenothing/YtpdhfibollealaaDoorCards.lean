/-
  DERIVED. GIVEN WITH THE SEED: THE CARDS: each row of YtpdhfibollealaaDoorRows.lean that lists a variable, with what it lists TIED to the program's text (the seventh form; the later family's looks); each row that meets fmt, with fmt's text TOLD by the authors' own Lean function (tested against real Go, not proved from fmt's source: count such statements apart). THE CARD IS WHAT COUNTS. Prove the row's statement (the work); the ties are given (YtpdhfibollealaaDoorTie.lean); close each card by the builder's one call (the guide's Derived/Test/ToyasCard.lean, 'card_holds'). Laid BY PROGRAM, IN A SANDBOX (cutbox-door.mjs). By AI agents, Wed Nov 11 2026. No macro, syntax, notation, axiom, sorry.
-/
import Derived.Test.YtpdhfibollealaaDoorRows
import GoSem.ClaimSeven
namespace Go.Proofs.YtpdhfibollealaaDoor
namespace Rows

/-- THE TIED CARD OF 'hasselaw.CompleteNothing'. -/
def completeNothingCard : Claim7 := { stood := { row := completeNothingRow, standIns := [], harness := (true, "910df1373be6ccafebbe1b6a62dd6197eda6ab5dee90887035b9c7e221aa203f"), looks := false }, kinds := [], alts := [], laidByText := true, laidKinds := [.data, .data], laidTests := true, laidLooks := .later }
def CompleteNothingCardSaid : Prop := Claim7.holds Tryd.pinned (.plain (OpenSpec.ofChange completeNothingSpec)) completeNothingCard

/-- THE SECOND FORM's CARD OF 'hasselaw.CompleteNothing'. -/
def completeNothingUptoCard : Claim7 := { stood := { row := completeNothingUptoRow, standIns := [], harness := (true, "910df1373be6ccafebbe1b6a62dd6197eda6ab5dee90887035b9c7e221aa203f"), looks := false }, kinds := [], alts := [], laidByText := true, laidKinds := [.data, .data], laidTests := true, laidLooks := .later }
def CompleteNothingUptoCardSaid : Prop := Claim7.holds Tryd.pinned (.plain (OpenSpec.upto completeNothingSpec)) completeNothingUptoCard
end Rows
end Go.Proofs.YtpdhfibollealaaDoor
