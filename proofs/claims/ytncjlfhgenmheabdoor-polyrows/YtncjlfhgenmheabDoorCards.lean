/-
  DERIVED. GIVEN WITH THE SEED: THE CARDS: each row of YtncjlfhgenmheabDoorRows.lean that lists a variable, with what it lists TIED to the program's text (the seventh form; the later family's looks); each row that meets fmt, with fmt's text TOLD by the authors' own Lean function (tested against real Go, not proved from fmt's source: count such statements apart). THE CARD IS WHAT COUNTS. Prove the row's statement (the work); the ties are given (YtncjlfhgenmheabDoorTie.lean); close each card by the builder's one call (the guide's Derived/Test/ToyasCard.lean, 'card_holds'). Laid BY PROGRAM, IN A SANDBOX (cutbox-door.mjs). By AI agents, Wed Nov 11 2026. No macro, syntax, notation, axiom, sorry.
-/
import Derived.Test.YtncjlfhgenmheabDoorRows
import GoSem.ClaimSeven
namespace Go.Proofs.YtncjlfhgenmheabDoor
namespace Rows

/-- THE TIED CARD OF 'hasselaw.PolyRows'. -/
def polyRowsCard : Claim7 := { stood := { row := polyRowsRow, standIns := [], harness := (true, "806110ead15e280ab36fb3a8daf65d55e77db26602f402c006c02f6f8d4db2e1"), looks := false }, kinds := [], alts := [], laidByText := true, laidKinds := [.data, .data], laidTests := true, laidLooks := .later }
def PolyRowsCardSaid : Prop := Claim7.holds Tryd.pinned (.plain (OpenSpec.ofChange polyRowsSpec)) polyRowsCard

/-- THE TIED CARD OF 'hasselaw.PolyLists'. -/
def polyListsCard : Claim7 := { stood := { row := polyListsRow, standIns := [], harness := (true, "806110ead15e280ab36fb3a8daf65d55e77db26602f402c006c02f6f8d4db2e1"), looks := false }, kinds := [], alts := [], laidByText := true, laidKinds := [.data, .data], laidTests := true, laidLooks := .later }
def PolyListsCardSaid : Prop := Claim7.holds Tryd.pinned (.plain (OpenSpec.ofChange polyListsSpec)) polyListsCard

/-- THE TIED CARD OF 'hasselaw.PolyHall'. -/
def polyHallCard : Claim7 := { stood := { row := polyHallRow, standIns := [], harness := (true, "806110ead15e280ab36fb3a8daf65d55e77db26602f402c006c02f6f8d4db2e1"), looks := false }, kinds := [], alts := [], laidByText := true, laidKinds := [.data, .data], laidTests := true, laidLooks := .later }
def PolyHallCardSaid : Prop := Claim7.holds Tryd.pinned (.plain (OpenSpec.ofChange polyHallSpec)) polyHallCard

/-- THE SECOND FORM's CARD OF 'hasselaw.PolyRows'. -/
def polyRowsUptoCard : Claim7 := { stood := { row := polyRowsUptoRow, standIns := [], harness := (true, "806110ead15e280ab36fb3a8daf65d55e77db26602f402c006c02f6f8d4db2e1"), looks := false }, kinds := [], alts := [], laidByText := true, laidKinds := [.data, .data], laidTests := true, laidLooks := .later }
def PolyRowsUptoCardSaid : Prop := Claim7.holds Tryd.pinned (.plain (OpenSpec.upto polyRowsSpec)) polyRowsUptoCard

/-- THE SECOND FORM's CARD OF 'hasselaw.PolyLists'. -/
def polyListsUptoCard : Claim7 := { stood := { row := polyListsUptoRow, standIns := [], harness := (true, "806110ead15e280ab36fb3a8daf65d55e77db26602f402c006c02f6f8d4db2e1"), looks := false }, kinds := [], alts := [], laidByText := true, laidKinds := [.data, .data], laidTests := true, laidLooks := .later }
def PolyListsUptoCardSaid : Prop := Claim7.holds Tryd.pinned (.plain (OpenSpec.upto polyListsSpec)) polyListsUptoCard

/-- THE SECOND FORM's CARD OF 'hasselaw.PolyHall'. -/
def polyHallUptoCard : Claim7 := { stood := { row := polyHallUptoRow, standIns := [], harness := (true, "806110ead15e280ab36fb3a8daf65d55e77db26602f402c006c02f6f8d4db2e1"), looks := false }, kinds := [], alts := [], laidByText := true, laidKinds := [.data, .data], laidTests := true, laidLooks := .later }
def PolyHallUptoCardSaid : Prop := Claim7.holds Tryd.pinned (.plain (OpenSpec.upto polyHallSpec)) polyHallUptoCard
end Rows
end Go.Proofs.YtncjlfhgenmheabDoor
