/-
  DERIVED. GIVEN WITH THE SEED: THE CARDS: each row of YtjhpegjcknaioaaDoorRows.lean that lists a variable, with what it lists TIED to the program's text (the seventh form; the later family's looks); each row that meets fmt, with fmt's text TOLD by the authors' own Lean function (tested against real Go, not proved from fmt's source: count such statements apart). THE CARD IS WHAT COUNTS. Prove the row's statement (the work); the ties are given (YtjhpegjcknaioaaDoorTie.lean); close each card by the builder's one call (the guide's Derived/Test/ToyasCard.lean, 'card_holds'). Laid BY PROGRAM, IN A SANDBOX (cutbox-door.mjs). By AI agents, Wed Nov 11 2026. No macro, syntax, notation, axiom, sorry.
-/
import Derived.Test.YtjhpegjcknaioaaDoorRows
import GoSem.ClaimSeven
namespace Go.Proofs.YtjhpegjcknaioaaDoor
namespace Rows

/-- THE TIED CARD OF 'hasselaw.SeriesSplits'. -/
def seriesSplitsCard : Claim7 := { stood := { row := seriesSplitsRow, standIns := [], harness := (true, "1e14bb09079787962ccddc695939ef9b7eb69267ef3919c99d15ebf1b2a48b97"), looks := false }, kinds := [], alts := [], laidByText := true, laidKinds := [.data, .data], laidTests := true, laidLooks := .later }
def SeriesSplitsCardSaid : Prop := Claim7.holds Tryd.pinned (.plain (OpenSpec.ofChange seriesSplitsSpec)) seriesSplitsCard

/-- THE TIED CARD OF 'hasselaw.SeriesZigs'. -/
def seriesZigsCard : Claim7 := { stood := { row := seriesZigsRow, standIns := [], harness := (true, "1e14bb09079787962ccddc695939ef9b7eb69267ef3919c99d15ebf1b2a48b97"), looks := false }, kinds := [], alts := [], laidByText := true, laidKinds := [.data, .data], laidTests := true, laidLooks := .later }
def SeriesZigsCardSaid : Prop := Claim7.holds Tryd.pinned (.plain (OpenSpec.ofChange seriesZigsSpec)) seriesZigsCard

/-- THE TIED CARD OF 'hasselaw.SeriesTurns'. -/
def seriesTurnsCard : Claim7 := { stood := { row := seriesTurnsRow, standIns := [], harness := (true, "1e14bb09079787962ccddc695939ef9b7eb69267ef3919c99d15ebf1b2a48b97"), looks := false }, kinds := [], alts := [], laidByText := true, laidKinds := [.data, .data], laidTests := true, laidLooks := .later }
def SeriesTurnsCardSaid : Prop := Claim7.holds Tryd.pinned (.plain (OpenSpec.ofChange seriesTurnsSpec)) seriesTurnsCard

/-- THE TIED CARD OF 'hasselaw.SeriesValdes'. -/
def seriesValdesCard : Claim7 := { stood := { row := seriesValdesRow, standIns := [], harness := (true, "1e14bb09079787962ccddc695939ef9b7eb69267ef3919c99d15ebf1b2a48b97"), looks := false }, kinds := [], alts := [], laidByText := true, laidKinds := [.data, .data], laidTests := true, laidLooks := .later }
def SeriesValdesCardSaid : Prop := Claim7.holds Tryd.pinned (.plain (OpenSpec.ofChange seriesValdesSpec)) seriesValdesCard

/-- THE SECOND FORM's CARD OF 'hasselaw.SeriesSplits'. -/
def seriesSplitsUptoCard : Claim7 := { stood := { row := seriesSplitsUptoRow, standIns := [], harness := (true, "1e14bb09079787962ccddc695939ef9b7eb69267ef3919c99d15ebf1b2a48b97"), looks := false }, kinds := [], alts := [], laidByText := true, laidKinds := [.data, .data], laidTests := true, laidLooks := .later }
def SeriesSplitsUptoCardSaid : Prop := Claim7.holds Tryd.pinned (.plain (OpenSpec.upto seriesSplitsSpec)) seriesSplitsUptoCard

/-- THE SECOND FORM's CARD OF 'hasselaw.SeriesZigs'. -/
def seriesZigsUptoCard : Claim7 := { stood := { row := seriesZigsUptoRow, standIns := [], harness := (true, "1e14bb09079787962ccddc695939ef9b7eb69267ef3919c99d15ebf1b2a48b97"), looks := false }, kinds := [], alts := [], laidByText := true, laidKinds := [.data, .data], laidTests := true, laidLooks := .later }
def SeriesZigsUptoCardSaid : Prop := Claim7.holds Tryd.pinned (.plain (OpenSpec.upto seriesZigsSpec)) seriesZigsUptoCard

/-- THE SECOND FORM's CARD OF 'hasselaw.SeriesTurns'. -/
def seriesTurnsUptoCard : Claim7 := { stood := { row := seriesTurnsUptoRow, standIns := [], harness := (true, "1e14bb09079787962ccddc695939ef9b7eb69267ef3919c99d15ebf1b2a48b97"), looks := false }, kinds := [], alts := [], laidByText := true, laidKinds := [.data, .data], laidTests := true, laidLooks := .later }
def SeriesTurnsUptoCardSaid : Prop := Claim7.holds Tryd.pinned (.plain (OpenSpec.upto seriesTurnsSpec)) seriesTurnsUptoCard

/-- THE SECOND FORM's CARD OF 'hasselaw.SeriesValdes'. -/
def seriesValdesUptoCard : Claim7 := { stood := { row := seriesValdesUptoRow, standIns := [], harness := (true, "1e14bb09079787962ccddc695939ef9b7eb69267ef3919c99d15ebf1b2a48b97"), looks := false }, kinds := [], alts := [], laidByText := true, laidKinds := [.data, .data], laidTests := true, laidLooks := .later }
def SeriesValdesUptoCardSaid : Prop := Claim7.holds Tryd.pinned (.plain (OpenSpec.upto seriesValdesSpec)) seriesValdesUptoCard
end Rows
end Go.Proofs.YtjhpegjcknaioaaDoor
