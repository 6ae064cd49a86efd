/-
  DERIVED. GIVEN WITH THE SEED: THE CARDS: each row of YtfbdgdphpdhcpaaDoorRows.lean that lists a variable, with what it lists TIED to the program's text (the seventh form; the later family's looks); each row that meets fmt, with fmt's text TOLD by the authors' own Lean function (tested against real Go, not proved from fmt's source: count such statements apart). THE CARD IS WHAT COUNTS. Prove the row's statement (the work); the ties are given (YtfbdgdphpdhcpaaDoorTie.lean); close each card by the builder's one call (the guide's Derived/Test/ToyasCard.lean, 'card_holds'). Laid BY PROGRAM, IN A SANDBOX (cutbox-door.mjs). By AI agents, Wed Nov 11 2026. No macro, syntax, notation, axiom, sorry.
-/
import Derived.Test.YtfbdgdphpdhcpaaDoorRows
import GoSem.ClaimSeven
namespace Go.Proofs.YtfbdgdphpdhcpaaDoor
namespace Rows

/-- THE TIED CARD OF 'hasselaw.CanonForms'. -/
def canonFormsCard : Claim7 := { stood := { row := canonFormsRow, standIns := [], harness := (true, "5758023b219c7002c9f5e7ae006e031041314cea34d745f8b49092d82b11926d"), looks := false }, kinds := [], alts := [], goes := true, laidByText := true, laidKinds := [.data, .data], laidTests := true, laidLooks := .later }
def CanonFormsCardSaid : Prop := Claim7.holds Tryd.pinned (.plain (OpenSpec.ofChange canonFormsSpec)) canonFormsCard

/-- THE TIED CARD OF 'hasselaw.CanonAlike'. -/
def canonAlikeCard : Claim7 := { stood := { row := canonAlikeRow, standIns := [], harness := (true, "5758023b219c7002c9f5e7ae006e031041314cea34d745f8b49092d82b11926d"), looks := false }, kinds := [], alts := [], goes := true, laidByText := true, laidKinds := [.data, .data], laidTests := true, laidLooks := .later }
def CanonAlikeCardSaid : Prop := Claim7.holds Tryd.pinned (.plain (OpenSpec.ofChange canonAlikeSpec)) canonAlikeCard

/-- THE TIED CARD OF 'hasselaw.CanonMoves'. -/
def canonMovesCard : Claim7 := { stood := { row := canonMovesRow, standIns := [], harness := (true, "5758023b219c7002c9f5e7ae006e031041314cea34d745f8b49092d82b11926d"), looks := false }, kinds := [], alts := [], goes := true, laidByText := true, laidKinds := [.data, .data], laidTests := true, laidLooks := .later }
def CanonMovesCardSaid : Prop := Claim7.holds Tryd.pinned (.plain (OpenSpec.ofChange canonMovesSpec)) canonMovesCard

/-- THE TIED CARD OF 'hasselaw.CanonAll'. -/
def canonAllCard : Claim7 := { stood := { row := canonAllRow, standIns := [], harness := (true, "5758023b219c7002c9f5e7ae006e031041314cea34d745f8b49092d82b11926d"), looks := false }, kinds := [], alts := [], goes := true, laidByText := true, laidKinds := [.data, .data], laidTests := true, laidLooks := .later }
def CanonAllCardSaid : Prop := Claim7.holds Tryd.pinned (.plain (OpenSpec.ofChange canonAllSpec)) canonAllCard

/-- THE TIED CARD OF 'hasselaw.CanonCounts'. -/
def canonCountsCard : Claim7 := { stood := { row := canonCountsRow, standIns := [], harness := (true, "5758023b219c7002c9f5e7ae006e031041314cea34d745f8b49092d82b11926d"), looks := false }, kinds := [], alts := [], goes := true, laidByText := true, laidKinds := [.data, .data], laidTests := true, laidLooks := .later }
def CanonCountsCardSaid : Prop := Claim7.holds Tryd.pinned (.plain (OpenSpec.ofChange canonCountsSpec)) canonCountsCard

/-- THE TIED CARD OF 'hasselaw.CanonRenumbers'. -/
def canonRenumbersCard : Claim7 := { stood := { row := canonRenumbersRow, standIns := [], harness := (true, "5758023b219c7002c9f5e7ae006e031041314cea34d745f8b49092d82b11926d"), looks := false }, kinds := [], alts := [], goes := true, laidByText := true, laidKinds := [.data, .data], laidTests := true, laidLooks := .later }
def CanonRenumbersCardSaid : Prop := Claim7.holds Tryd.pinned (.plain (OpenSpec.ofChange canonRenumbersSpec)) canonRenumbersCard

/-- THE SECOND FORM's CARD OF 'hasselaw.CanonForms'. -/
def canonFormsUptoCard : Claim7 := { stood := { row := canonFormsUptoRow, standIns := [], harness := (true, "5758023b219c7002c9f5e7ae006e031041314cea34d745f8b49092d82b11926d"), looks := false }, kinds := [], alts := [], goes := true, laidByText := true, laidKinds := [.data, .data], laidTests := true, laidLooks := .later }
def CanonFormsUptoCardSaid : Prop := Claim7.holds Tryd.pinned (.plain (OpenSpec.upto canonFormsSpec)) canonFormsUptoCard

/-- THE SECOND FORM's CARD OF 'hasselaw.CanonAlike'. -/
def canonAlikeUptoCard : Claim7 := { stood := { row := canonAlikeUptoRow, standIns := [], harness := (true, "5758023b219c7002c9f5e7ae006e031041314cea34d745f8b49092d82b11926d"), looks := false }, kinds := [], alts := [], goes := true, laidByText := true, laidKinds := [.data, .data], laidTests := true, laidLooks := .later }
def CanonAlikeUptoCardSaid : Prop := Claim7.holds Tryd.pinned (.plain (OpenSpec.upto canonAlikeSpec)) canonAlikeUptoCard

/-- THE SECOND FORM's CARD OF 'hasselaw.CanonMoves'. -/
def canonMovesUptoCard : Claim7 := { stood := { row := canonMovesUptoRow, standIns := [], harness := (true, "5758023b219c7002c9f5e7ae006e031041314cea34d745f8b49092d82b11926d"), looks := false }, kinds := [], alts := [], goes := true, laidByText := true, laidKinds := [.data, .data], laidTests := true, laidLooks := .later }
def CanonMovesUptoCardSaid : Prop := Claim7.holds Tryd.pinned (.plain (OpenSpec.upto canonMovesSpec)) canonMovesUptoCard

/-- THE SECOND FORM's CARD OF 'hasselaw.CanonAll'. -/
def canonAllUptoCard : Claim7 := { stood := { row := canonAllUptoRow, standIns := [], harness := (true, "5758023b219c7002c9f5e7ae006e031041314cea34d745f8b49092d82b11926d"), looks := false }, kinds := [], alts := [], goes := true, laidByText := true, laidKinds := [.data, .data], laidTests := true, laidLooks := .later }
def CanonAllUptoCardSaid : Prop := Claim7.holds Tryd.pinned (.plain (OpenSpec.upto canonAllSpec)) canonAllUptoCard

/-- THE SECOND FORM's CARD OF 'hasselaw.CanonCounts'. -/
def canonCountsUptoCard : Claim7 := { stood := { row := canonCountsUptoRow, standIns := [], harness := (true, "5758023b219c7002c9f5e7ae006e031041314cea34d745f8b49092d82b11926d"), looks := false }, kinds := [], alts := [], goes := true, laidByText := true, laidKinds := [.data, .data], laidTests := true, laidLooks := .later }
def CanonCountsUptoCardSaid : Prop := Claim7.holds Tryd.pinned (.plain (OpenSpec.upto canonCountsSpec)) canonCountsUptoCard

/-- THE SECOND FORM's CARD OF 'hasselaw.CanonRenumbers'. -/
def canonRenumbersUptoCard : Claim7 := { stood := { row := canonRenumbersUptoRow, standIns := [], harness := (true, "5758023b219c7002c9f5e7ae006e031041314cea34d745f8b49092d82b11926d"), looks := false }, kinds := [], alts := [], goes := true, laidByText := true, laidKinds := [.data, .data], laidTests := true, laidLooks := .later }
def CanonRenumbersUptoCardSaid : Prop := Claim7.holds Tryd.pinned (.plain (OpenSpec.upto canonRenumbersSpec)) canonRenumbersUptoCard
end Rows
end Go.Proofs.YtfbdgdphpdhcpaaDoor
