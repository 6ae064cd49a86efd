/-
  DERIVED. GIVEN WITH THE SEED: THE CARDS: each row of YtomoodpgmkjacabDoorRows.lean that lists a variable, with what it lists TIED to the program's text (the seventh form; the later family's looks); each row that meets fmt, with fmt's text TOLD by the authors' own Lean function (tested against real Go, not proved from fmt's source: count such statements apart). THE CARD IS WHAT COUNTS. Prove the row's statement (the work); the ties are given (YtomoodpgmkjacabDoorTie.lean); close each card by the builder's one call (the guide's Derived/Test/ToyasCard.lean, 'card_holds'). Laid BY PROGRAM, IN A SANDBOX (cutbox-door.mjs). By AI agents, Wed Nov 11 2026. No macro, syntax, notation, axiom, sorry.
-/
import Derived.Test.YtomoodpgmkjacabDoorRows
import GoSem.ClaimSeven
namespace Go.Proofs.YtomoodpgmkjacabDoor
namespace Rows

/-- THE TIED CARD OF 'hasselaw.ClockMattern'. -/
def clockMatternCard : Claim7 := { stood := { row := clockMatternRow, standIns := [], harness := (true, "9774873a8b6002d0ebd3565f425c933ab85ca0c914b8e14af9fc6d22836bc342"), looks := false }, kinds := [], alts := [], laidByText := true, laidKinds := [.data, .data], laidTests := true, laidLooks := .later }
def ClockMatternCardSaid : Prop := Claim7.holds Tryd.pinned (.plain (OpenSpec.ofChange clockMatternSpec)) clockMatternCard

/-- THE SECOND FORM's CARD OF 'hasselaw.ClockMattern'. -/
def clockMatternUptoCard : Claim7 := { stood := { row := clockMatternUptoRow, standIns := [], harness := (true, "9774873a8b6002d0ebd3565f425c933ab85ca0c914b8e14af9fc6d22836bc342"), looks := false }, kinds := [], alts := [], laidByText := true, laidKinds := [.data, .data], laidTests := true, laidLooks := .later }
def ClockMatternUptoCardSaid : Prop := Claim7.holds Tryd.pinned (.plain (OpenSpec.upto clockMatternSpec)) clockMatternUptoCard
end Rows
end Go.Proofs.YtomoodpgmkjacabDoor
