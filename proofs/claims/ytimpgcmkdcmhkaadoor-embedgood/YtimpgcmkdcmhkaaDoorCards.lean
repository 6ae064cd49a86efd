/-
  DERIVED. GIVEN WITH THE SEED: THE CARDS: each row of YtimpgcmkdcmhkaaDoorRows.lean that lists a variable, with what it lists TIED to the program's text (the seventh form; the later family's looks); each row that meets fmt, with fmt's text TOLD by the authors' own Lean function (tested against real Go, not proved from fmt's source: count such statements apart). THE CARD IS WHAT COUNTS. Prove the row's statement (the work); the ties are given (YtimpgcmkdcmhkaaDoorTie.lean); close each card by the builder's one call (the guide's Derived/Test/ToyasCard.lean, 'card_holds'). Laid BY PROGRAM, IN A SANDBOX (cutbox-door.mjs). By AI agents, Wed Nov 11 2026. No macro, syntax, notation, axiom, sorry.
-/
import Derived.Test.YtimpgcmkdcmhkaaDoorRows
import GoSem.ClaimSeven
namespace Go.Proofs.YtimpgcmkdcmhkaaDoor
namespace Rows

/-- THE TIED CARD OF 'hasselaw.EmbedInto'. -/
def embedIntoCard : Claim7 := { stood := { row := embedIntoRow, standIns := [], harness := (true, "c74c207eab43b18639d66255374a46b04f90b5192d63a0a6db808e18fa34a84b"), looks := false }, kinds := [], alts := [], laidByText := true, laidKinds := [.data, .data], laidTests := true, laidLooks := .later }
def EmbedIntoCardSaid : Prop := Claim7.holds Tryd.pinned (.plain (OpenSpec.ofChange embedIntoSpec)) embedIntoCard

/-- THE TIED CARD OF 'hasselaw.EmbedLeast'. -/
def embedLeastCard : Claim7 := { stood := { row := embedLeastRow, standIns := [], harness := (true, "c74c207eab43b18639d66255374a46b04f90b5192d63a0a6db808e18fa34a84b"), looks := false }, kinds := [], alts := [], laidByText := true, laidKinds := [.data, .data], laidTests := true, laidLooks := .later }
def EmbedLeastCardSaid : Prop := Claim7.holds Tryd.pinned (.plain (OpenSpec.ofChange embedLeastSpec)) embedLeastCard

/-- THE TIED CARD OF 'hasselaw.EmbedGood'. -/
def embedGoodCard : Claim7 := { stood := { row := embedGoodRow, standIns := [], harness := (true, "c74c207eab43b18639d66255374a46b04f90b5192d63a0a6db808e18fa34a84b"), looks := false }, kinds := [], alts := [], laidByText := true, laidKinds := [.data, .data], laidTests := true, laidLooks := .later }
def EmbedGoodCardSaid : Prop := Claim7.holds Tryd.pinned (.plain (OpenSpec.ofChange embedGoodSpec)) embedGoodCard

/-- THE TIED CARD OF 'hasselaw.EmbedLighter'. -/
def embedLighterCard : Claim7 := { stood := { row := embedLighterRow, standIns := [], harness := (true, "c74c207eab43b18639d66255374a46b04f90b5192d63a0a6db808e18fa34a84b"), looks := false }, kinds := [], alts := [], laidByText := true, laidKinds := [.data, .data], laidTests := true, laidLooks := .later }
def EmbedLighterCardSaid : Prop := Claim7.holds Tryd.pinned (.plain (OpenSpec.ofChange embedLighterSpec)) embedLighterCard

/-- THE TIED CARD OF 'hasselaw.EmbedDivides'. -/
def embedDividesCard : Claim7 := { stood := { row := embedDividesRow, standIns := [], harness := (true, "c74c207eab43b18639d66255374a46b04f90b5192d63a0a6db808e18fa34a84b"), looks := false }, kinds := [], alts := [], laidByText := true, laidKinds := [.data, .data], laidTests := true, laidLooks := .later }
def EmbedDividesCardSaid : Prop := Claim7.holds Tryd.pinned (.plain (OpenSpec.ofChange embedDividesSpec)) embedDividesCard

/-- THE TIED CARD OF 'hasselaw.EmbedCorners'. -/
def embedCornersCard : Claim7 := { stood := { row := embedCornersRow, standIns := [], harness := (true, "c74c207eab43b18639d66255374a46b04f90b5192d63a0a6db808e18fa34a84b"), looks := false }, kinds := [], alts := [], laidByText := true, laidKinds := [.data, .data], laidTests := true, laidLooks := .later }
def EmbedCornersCardSaid : Prop := Claim7.holds Tryd.pinned (.plain (OpenSpec.ofChange embedCornersSpec)) embedCornersCard

/-- THE SECOND FORM's CARD OF 'hasselaw.EmbedInto'. -/
def embedIntoUptoCard : Claim7 := { stood := { row := embedIntoUptoRow, standIns := [], harness := (true, "c74c207eab43b18639d66255374a46b04f90b5192d63a0a6db808e18fa34a84b"), looks := false }, kinds := [], alts := [], laidByText := true, laidKinds := [.data, .data], laidTests := true, laidLooks := .later }
def EmbedIntoUptoCardSaid : Prop := Claim7.holds Tryd.pinned (.plain (OpenSpec.upto embedIntoSpec)) embedIntoUptoCard

/-- THE SECOND FORM's CARD OF 'hasselaw.EmbedLeast'. -/
def embedLeastUptoCard : Claim7 := { stood := { row := embedLeastUptoRow, standIns := [], harness := (true, "c74c207eab43b18639d66255374a46b04f90b5192d63a0a6db808e18fa34a84b"), looks := false }, kinds := [], alts := [], laidByText := true, laidKinds := [.data, .data], laidTests := true, laidLooks := .later }
def EmbedLeastUptoCardSaid : Prop := Claim7.holds Tryd.pinned (.plain (OpenSpec.upto embedLeastSpec)) embedLeastUptoCard

/-- THE SECOND FORM's CARD OF 'hasselaw.EmbedGood'. -/
def embedGoodUptoCard : Claim7 := { stood := { row := embedGoodUptoRow, standIns := [], harness := (true, "c74c207eab43b18639d66255374a46b04f90b5192d63a0a6db808e18fa34a84b"), looks := false }, kinds := [], alts := [], laidByText := true, laidKinds := [.data, .data], laidTests := true, laidLooks := .later }
def EmbedGoodUptoCardSaid : Prop := Claim7.holds Tryd.pinned (.plain (OpenSpec.upto embedGoodSpec)) embedGoodUptoCard

/-- THE SECOND FORM's CARD OF 'hasselaw.EmbedLighter'. -/
def embedLighterUptoCard : Claim7 := { stood := { row := embedLighterUptoRow, standIns := [], harness := (true, "c74c207eab43b18639d66255374a46b04f90b5192d63a0a6db808e18fa34a84b"), looks := false }, kinds := [], alts := [], laidByText := true, laidKinds := [.data, .data], laidTests := true, laidLooks := .later }
def EmbedLighterUptoCardSaid : Prop := Claim7.holds Tryd.pinned (.plain (OpenSpec.upto embedLighterSpec)) embedLighterUptoCard

/-- THE SECOND FORM's CARD OF 'hasselaw.EmbedDivides'. -/
def embedDividesUptoCard : Claim7 := { stood := { row := embedDividesUptoRow, standIns := [], harness := (true, "c74c207eab43b18639d66255374a46b04f90b5192d63a0a6db808e18fa34a84b"), looks := false }, kinds := [], alts := [], laidByText := true, laidKinds := [.data, .data], laidTests := true, laidLooks := .later }
def EmbedDividesUptoCardSaid : Prop := Claim7.holds Tryd.pinned (.plain (OpenSpec.upto embedDividesSpec)) embedDividesUptoCard

/-- THE SECOND FORM's CARD OF 'hasselaw.EmbedCorners'. -/
def embedCornersUptoCard : Claim7 := { stood := { row := embedCornersUptoRow, standIns := [], harness := (true, "c74c207eab43b18639d66255374a46b04f90b5192d63a0a6db808e18fa34a84b"), looks := false }, kinds := [], alts := [], laidByText := true, laidKinds := [.data, .data], laidTests := true, laidLooks := .later }
def EmbedCornersUptoCardSaid : Prop := Claim7.holds Tryd.pinned (.plain (OpenSpec.upto embedCornersSpec)) embedCornersUptoCard
end Rows
end Go.Proofs.YtimpgcmkdcmhkaaDoor
