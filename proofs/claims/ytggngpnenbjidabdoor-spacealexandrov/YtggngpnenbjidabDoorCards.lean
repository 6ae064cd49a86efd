/-
  DERIVED. GIVEN WITH THE SEED: THE CARDS: each row of YtggngpnenbjidabDoorRows.lean that lists a variable, with what it lists TIED to the program's text (the seventh form; the later family's looks); each row that meets fmt, with fmt's text TOLD by the authors' own Lean function (tested against real Go, not proved from fmt's source: count such statements apart). THE CARD IS WHAT COUNTS. Prove the row's statement (the work); the ties are given (YtggngpnenbjidabDoorTie.lean); close each card by the builder's one call (the guide's Derived/Test/ToyasCard.lean, 'card_holds'). Laid BY PROGRAM, IN A SANDBOX (cutbox-door.mjs). By AI agents, Wed Nov 11 2026. No macro, syntax, notation, axiom, sorry.
-/
import Derived.Test.YtggngpnenbjidabDoorRows
import GoSem.ClaimSeven
namespace Go.Proofs.YtggngpnenbjidabDoor
namespace Rows

/-- THE TIED CARD OF 'hasselaw.SpaceAlexandrov'. -/
def spaceAlexandrovCard : Claim7 := { stood := { row := spaceAlexandrovRow, standIns := [], harness := (true, "09b669e86eebdc1571f0146c5d823bc2eb2b7526fe80ddf14b534d358ee5924b"), looks := false }, kinds := [], alts := [], laidByText := true, laidKinds := [.data, .data], laidTests := true, laidLooks := .later }
def SpaceAlexandrovCardSaid : Prop := Claim7.holds Tryd.pinned (.plain (OpenSpec.ofChange spaceAlexandrovSpec)) spaceAlexandrovCard

/-- THE TIED CARD OF 'hasselaw.SpaceKuratowski'. -/
def spaceKuratowskiCard : Claim7 := { stood := { row := spaceKuratowskiRow, standIns := [], harness := (true, "09b669e86eebdc1571f0146c5d823bc2eb2b7526fe80ddf14b534d358ee5924b"), looks := false }, kinds := [], alts := [], laidByText := true, laidKinds := [.data, .data], laidTests := true, laidLooks := .later }
def SpaceKuratowskiCardSaid : Prop := Claim7.holds Tryd.pinned (.plain (OpenSpec.ofChange spaceKuratowskiSpec)) spaceKuratowskiCard

/-- THE TIED CARD OF 'hasselaw.SpaceConnected'. -/
def spaceConnectedCard : Claim7 := { stood := { row := spaceConnectedRow, standIns := [], harness := (true, "09b669e86eebdc1571f0146c5d823bc2eb2b7526fe80ddf14b534d358ee5924b"), looks := false }, kinds := [], alts := [], laidByText := true, laidKinds := [.data, .data], laidTests := true, laidLooks := .later }
def SpaceConnectedCardSaid : Prop := Claim7.holds Tryd.pinned (.plain (OpenSpec.ofChange spaceConnectedSpec)) spaceConnectedCard

/-- THE SECOND FORM's CARD OF 'hasselaw.SpaceAlexandrov'. -/
def spaceAlexandrovUptoCard : Claim7 := { stood := { row := spaceAlexandrovUptoRow, standIns := [], harness := (true, "09b669e86eebdc1571f0146c5d823bc2eb2b7526fe80ddf14b534d358ee5924b"), looks := false }, kinds := [], alts := [], laidByText := true, laidKinds := [.data, .data], laidTests := true, laidLooks := .later }
def SpaceAlexandrovUptoCardSaid : Prop := Claim7.holds Tryd.pinned (.plain (OpenSpec.upto spaceAlexandrovSpec)) spaceAlexandrovUptoCard

/-- THE SECOND FORM's CARD OF 'hasselaw.SpaceKuratowski'. -/
def spaceKuratowskiUptoCard : Claim7 := { stood := { row := spaceKuratowskiUptoRow, standIns := [], harness := (true, "09b669e86eebdc1571f0146c5d823bc2eb2b7526fe80ddf14b534d358ee5924b"), looks := false }, kinds := [], alts := [], laidByText := true, laidKinds := [.data, .data], laidTests := true, laidLooks := .later }
def SpaceKuratowskiUptoCardSaid : Prop := Claim7.holds Tryd.pinned (.plain (OpenSpec.upto spaceKuratowskiSpec)) spaceKuratowskiUptoCard

/-- THE SECOND FORM's CARD OF 'hasselaw.SpaceConnected'. -/
def spaceConnectedUptoCard : Claim7 := { stood := { row := spaceConnectedUptoRow, standIns := [], harness := (true, "09b669e86eebdc1571f0146c5d823bc2eb2b7526fe80ddf14b534d358ee5924b"), looks := false }, kinds := [], alts := [], laidByText := true, laidKinds := [.data, .data], laidTests := true, laidLooks := .later }
def SpaceConnectedUptoCardSaid : Prop := Claim7.holds Tryd.pinned (.plain (OpenSpec.upto spaceConnectedSpec)) spaceConnectedUptoCard
end Rows
end Go.Proofs.YtggngpnenbjidabDoor
