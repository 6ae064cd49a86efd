/-
  DERIVED. GIVEN WITH THE SEED: THE CARDS: each row of YtcngjmbiinifnaaDoorRows.lean that lists a variable, with what it lists TIED to the program's text (the seventh form; the later family's looks); each row that meets fmt, with fmt's text TOLD by the authors' own Lean function (tested against real Go, not proved from fmt's source: count such statements apart). THE CARD IS WHAT COUNTS. Prove the row's statement (the work); the ties are given (YtcngjmbiinifnaaDoorTie.lean); close each card by the builder's one call (the guide's Derived/Test/ToyasCard.lean, 'card_holds'). Laid BY PROGRAM, IN A SANDBOX (cutbox-door.mjs). By AI agents, Wed Nov 11 2026. No macro, syntax, notation, axiom, sorry.
-/
import Derived.Test.YtcngjmbiinifnaaDoorRows
import GoSem.ClaimSeven
namespace Go.Proofs.YtcngjmbiinifnaaDoor
namespace Rows

/-- THE TIED CARD OF 'hasselaw.LatticeDiamond'. -/
def latticeDiamondCard : Claim7 := { stood := { row := latticeDiamondRow, standIns := [], harness := (true, "d7cb407ead18d8b5aa9061c2174926c7b6263cc5a03979d761487f9035442f0a"), looks := false }, kinds := [], alts := [], laidByText := true, laidKinds := [.data, .data], laidTests := true, laidLooks := .later }
def LatticeDiamondCardSaid : Prop := Claim7.holds Tryd.pinned (.plain (OpenSpec.ofChange latticeDiamondSpec)) latticeDiamondCard

/-- THE TIED CARD OF 'hasselaw.LatticeOthers'. -/
def latticeOthersCard : Claim7 := { stood := { row := latticeOthersRow, standIns := [], harness := (true, "d7cb407ead18d8b5aa9061c2174926c7b6263cc5a03979d761487f9035442f0a"), looks := false }, kinds := [], alts := [], laidByText := true, laidKinds := [.data, .data], laidTests := true, laidLooks := .later }
def LatticeOthersCardSaid : Prop := Claim7.holds Tryd.pinned (.plain (OpenSpec.ofChange latticeOthersSpec)) latticeOthersCard

/-- THE TIED CARD OF 'hasselaw.LatticeBack'. -/
def latticeBackCard : Claim7 := { stood := { row := latticeBackRow, standIns := [], harness := (true, "d7cb407ead18d8b5aa9061c2174926c7b6263cc5a03979d761487f9035442f0a"), looks := false }, kinds := [], alts := [], laidByText := true, laidKinds := [.data, .data], laidTests := true, laidLooks := .later }
def LatticeBackCardSaid : Prop := Claim7.holds Tryd.pinned (.plain (OpenSpec.ofChange latticeBackSpec)) latticeBackCard

/-- THE TIED CARD OF 'hasselaw.LatticeDedekind'. -/
def latticeDedekindCard : Claim7 := { stood := { row := latticeDedekindRow, standIns := [], harness := (true, "d7cb407ead18d8b5aa9061c2174926c7b6263cc5a03979d761487f9035442f0a"), looks := false }, kinds := [], alts := [], laidByText := true, laidKinds := [.data, .data], laidTests := true, laidLooks := .later }
def LatticeDedekindCardSaid : Prop := Claim7.holds Tryd.pinned (.plain (OpenSpec.ofChange latticeDedekindSpec)) latticeDedekindCard

/-- THE TIED CARD OF 'hasselaw.LatticeBirkhoff'. -/
def latticeBirkhoffCard : Claim7 := { stood := { row := latticeBirkhoffRow, standIns := [], harness := (true, "d7cb407ead18d8b5aa9061c2174926c7b6263cc5a03979d761487f9035442f0a"), looks := false }, kinds := [], alts := [], laidByText := true, laidKinds := [.data, .data], laidTests := true, laidLooks := .later }
def LatticeBirkhoffCardSaid : Prop := Claim7.holds Tryd.pinned (.plain (OpenSpec.ofChange latticeBirkhoffSpec)) latticeBirkhoffCard

/-- THE TIED CARD OF 'hasselaw.LatticeOne'. -/
def latticeOneCard : Claim7 := { stood := { row := latticeOneRow, standIns := [], harness := (true, "d7cb407ead18d8b5aa9061c2174926c7b6263cc5a03979d761487f9035442f0a"), looks := false }, kinds := [], alts := [], laidByText := true, laidKinds := [.data, .data], laidTests := true, laidLooks := .later }
def LatticeOneCardSaid : Prop := Claim7.holds Tryd.pinned (.plain (OpenSpec.ofChange latticeOneSpec)) latticeOneCard

/-- THE SECOND FORM's CARD OF 'hasselaw.LatticeDiamond'. -/
def latticeDiamondUptoCard : Claim7 := { stood := { row := latticeDiamondUptoRow, standIns := [], harness := (true, "d7cb407ead18d8b5aa9061c2174926c7b6263cc5a03979d761487f9035442f0a"), looks := false }, kinds := [], alts := [], laidByText := true, laidKinds := [.data, .data], laidTests := true, laidLooks := .later }
def LatticeDiamondUptoCardSaid : Prop := Claim7.holds Tryd.pinned (.plain (OpenSpec.upto latticeDiamondSpec)) latticeDiamondUptoCard

/-- THE SECOND FORM's CARD OF 'hasselaw.LatticeOthers'. -/
def latticeOthersUptoCard : Claim7 := { stood := { row := latticeOthersUptoRow, standIns := [], harness := (true, "d7cb407ead18d8b5aa9061c2174926c7b6263cc5a03979d761487f9035442f0a"), looks := false }, kinds := [], alts := [], laidByText := true, laidKinds := [.data, .data], laidTests := true, laidLooks := .later }
def LatticeOthersUptoCardSaid : Prop := Claim7.holds Tryd.pinned (.plain (OpenSpec.upto latticeOthersSpec)) latticeOthersUptoCard

/-- THE SECOND FORM's CARD OF 'hasselaw.LatticeBack'. -/
def latticeBackUptoCard : Claim7 := { stood := { row := latticeBackUptoRow, standIns := [], harness := (true, "d7cb407ead18d8b5aa9061c2174926c7b6263cc5a03979d761487f9035442f0a"), looks := false }, kinds := [], alts := [], laidByText := true, laidKinds := [.data, .data], laidTests := true, laidLooks := .later }
def LatticeBackUptoCardSaid : Prop := Claim7.holds Tryd.pinned (.plain (OpenSpec.upto latticeBackSpec)) latticeBackUptoCard

/-- THE SECOND FORM's CARD OF 'hasselaw.LatticeDedekind'. -/
def latticeDedekindUptoCard : Claim7 := { stood := { row := latticeDedekindUptoRow, standIns := [], harness := (true, "d7cb407ead18d8b5aa9061c2174926c7b6263cc5a03979d761487f9035442f0a"), looks := false }, kinds := [], alts := [], laidByText := true, laidKinds := [.data, .data], laidTests := true, laidLooks := .later }
def LatticeDedekindUptoCardSaid : Prop := Claim7.holds Tryd.pinned (.plain (OpenSpec.upto latticeDedekindSpec)) latticeDedekindUptoCard

/-- THE SECOND FORM's CARD OF 'hasselaw.LatticeBirkhoff'. -/
def latticeBirkhoffUptoCard : Claim7 := { stood := { row := latticeBirkhoffUptoRow, standIns := [], harness := (true, "d7cb407ead18d8b5aa9061c2174926c7b6263cc5a03979d761487f9035442f0a"), looks := false }, kinds := [], alts := [], laidByText := true, laidKinds := [.data, .data], laidTests := true, laidLooks := .later }
def LatticeBirkhoffUptoCardSaid : Prop := Claim7.holds Tryd.pinned (.plain (OpenSpec.upto latticeBirkhoffSpec)) latticeBirkhoffUptoCard

/-- THE SECOND FORM's CARD OF 'hasselaw.LatticeOne'. -/
def latticeOneUptoCard : Claim7 := { stood := { row := latticeOneUptoRow, standIns := [], harness := (true, "d7cb407ead18d8b5aa9061c2174926c7b6263cc5a03979d761487f9035442f0a"), looks := false }, kinds := [], alts := [], laidByText := true, laidKinds := [.data, .data], laidTests := true, laidLooks := .later }
def LatticeOneUptoCardSaid : Prop := Claim7.holds Tryd.pinned (.plain (OpenSpec.upto latticeOneSpec)) latticeOneUptoCard
end Rows
end Go.Proofs.YtcngjmbiinifnaaDoor
