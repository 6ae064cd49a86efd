/-
  DERIVED. GIVEN WITH THE SEED: THE CARDS: each row of YtgdbldfbhiaepabDoorRows.lean that lists a variable, with what it lists TIED to the program's text (the seventh form; the later family's looks); each row that meets fmt, with fmt's text TOLD by the authors' own Lean function (tested against real Go, not proved from fmt's source: count such statements apart). THE CARD IS WHAT COUNTS. Prove the row's statement (the work); the ties are given (YtgdbldfbhiaepabDoorTie.lean); close each card by the builder's one call (the guide's Derived/Test/ToyasCard.lean, 'card_holds'). Laid BY PROGRAM, IN A SANDBOX (cutbox-door.mjs). By AI agents, Wed Nov 11 2026. No macro, syntax, notation, axiom, sorry.
-/
import Derived.Test.YtgdbldfbhiaepabDoorRows
import GoSem.ClaimSeven
namespace Go.Proofs.YtgdbldfbhiaepabDoor
namespace Rows

/-- THE TIED CARD OF 'hasselaw.MoebiusHall'. -/
def moebiusHallCard : Claim7 := { stood := { row := moebiusHallRow, standIns := [], harness := (true, "9e427e189dcf4c3f05f3466a5814cd26de61258eb40ac03012b1603fa3f16710"), looks := false }, kinds := [], alts := [], laidByText := true, laidKinds := [.data, .data], laidTests := true, laidLooks := .later }
def MoebiusHallCardSaid : Prop := Claim7.holds Tryd.pinned (.plain (OpenSpec.ofChange moebiusHallSpec)) moebiusHallCard

/-- THE TIED CARD OF 'hasselaw.MoebiusTimes'. -/
def moebiusTimesCard : Claim7 := { stood := { row := moebiusTimesRow, standIns := [], harness := (true, "9e427e189dcf4c3f05f3466a5814cd26de61258eb40ac03012b1603fa3f16710"), looks := false }, kinds := [], alts := [], laidByText := true, laidKinds := [.data, .data], laidTests := true, laidLooks := .later }
def MoebiusTimesCardSaid : Prop := Claim7.holds Tryd.pinned (.plain (OpenSpec.ofChange moebiusTimesSpec)) moebiusTimesCard

/-- THE SECOND FORM's CARD OF 'hasselaw.MoebiusHall'. -/
def moebiusHallUptoCard : Claim7 := { stood := { row := moebiusHallUptoRow, standIns := [], harness := (true, "9e427e189dcf4c3f05f3466a5814cd26de61258eb40ac03012b1603fa3f16710"), looks := false }, kinds := [], alts := [], laidByText := true, laidKinds := [.data, .data], laidTests := true, laidLooks := .later }
def MoebiusHallUptoCardSaid : Prop := Claim7.holds Tryd.pinned (.plain (OpenSpec.upto moebiusHallSpec)) moebiusHallUptoCard

/-- THE SECOND FORM's CARD OF 'hasselaw.MoebiusTimes'. -/
def moebiusTimesUptoCard : Claim7 := { stood := { row := moebiusTimesUptoRow, standIns := [], harness := (true, "9e427e189dcf4c3f05f3466a5814cd26de61258eb40ac03012b1603fa3f16710"), looks := false }, kinds := [], alts := [], laidByText := true, laidKinds := [.data, .data], laidTests := true, laidLooks := .later }
def MoebiusTimesUptoCardSaid : Prop := Claim7.holds Tryd.pinned (.plain (OpenSpec.upto moebiusTimesSpec)) moebiusTimesUptoCard
end Rows
end Go.Proofs.YtgdbldfbhiaepabDoor
