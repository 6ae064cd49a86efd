/-
  DERIVED. GIVEN WITH THE SEED: THE CARDS: each row of YtggngpnenbjidaaDoorRows.lean that lists a variable, with what it lists TIED to the program's text (the seventh form; the later family's looks); each row that meets fmt, with fmt's text TOLD by the authors' own Lean function (tested against real Go, not proved from fmt's source: count such statements apart). THE CARD IS WHAT COUNTS. Prove the row's statement (the work); the ties are given (YtggngpnenbjidaaDoorTie.lean); close each card by the builder's one call (the guide's Derived/Test/ToyasCard.lean, 'card_holds'). Laid BY PROGRAM, IN A SANDBOX (cutbox-door.mjs). By AI agents, Wed Nov 11 2026. No macro, syntax, notation, axiom, sorry.
-/
import Derived.Test.YtggngpnenbjidaaDoorRows
import GoSem.ClaimSeven
namespace Go.Proofs.YtggngpnenbjidaaDoor
namespace Rows

/-- THE TIED CARD OF 'hasselaw.SpaceOpens'. -/
def spaceOpensCard : Claim7 := { stood := { row := spaceOpensRow, standIns := [], harness := (true, "a3fe1e421cf3f3c3e45618c9b3912c02a8ac15609e42dc4c181b61094317c894"), looks := false }, kinds := [], alts := [], laidByText := true, laidKinds := [.data, .data], laidTests := true, laidLooks := .later }
def SpaceOpensCardSaid : Prop := Claim7.holds Tryd.pinned (.plain (OpenSpec.ofChange spaceOpensSpec)) spaceOpensCard

/-- THE TIED CARD OF 'hasselaw.SpaceFrom'. -/
def spaceFromCard : Claim7 := { stood := { row := spaceFromRow, standIns := [], harness := (true, "a3fe1e421cf3f3c3e45618c9b3912c02a8ac15609e42dc4c181b61094317c894"), looks := false }, kinds := [], alts := [], laidByText := true, laidKinds := [.data, .data], laidTests := true, laidLooks := .later }
def SpaceFromCardSaid : Prop := Claim7.holds Tryd.pinned (.plain (OpenSpec.ofChange spaceFromSpec)) spaceFromCard

/-- THE TIED CARD OF 'hasselaw.SpaceCloses'. -/
def spaceClosesCard : Claim7 := { stood := { row := spaceClosesRow, standIns := [], harness := (true, "a3fe1e421cf3f3c3e45618c9b3912c02a8ac15609e42dc4c181b61094317c894"), looks := false }, kinds := [], alts := [], laidByText := true, laidKinds := [.data, .data], laidTests := true, laidLooks := .later }
def SpaceClosesCardSaid : Prop := Claim7.holds Tryd.pinned (.plain (OpenSpec.ofChange spaceClosesSpec)) spaceClosesCard

/-- THE TIED CARD OF 'hasselaw.SpaceTurns'. -/
def spaceTurnsCard : Claim7 := { stood := { row := spaceTurnsRow, standIns := [], harness := (true, "a3fe1e421cf3f3c3e45618c9b3912c02a8ac15609e42dc4c181b61094317c894"), looks := false }, kinds := [], alts := [], laidByText := true, laidKinds := [.data, .data], laidTests := true, laidLooks := .later }
def SpaceTurnsCardSaid : Prop := Claim7.holds Tryd.pinned (.plain (OpenSpec.ofChange spaceTurnsSpec)) spaceTurnsCard

/-- THE TIED CARD OF 'hasselaw.SpacePieces'. -/
def spacePiecesCard : Claim7 := { stood := { row := spacePiecesRow, standIns := [], harness := (true, "a3fe1e421cf3f3c3e45618c9b3912c02a8ac15609e42dc4c181b61094317c894"), looks := false }, kinds := [], alts := [], laidByText := true, laidKinds := [.data, .data], laidTests := true, laidLooks := .later }
def SpacePiecesCardSaid : Prop := Claim7.holds Tryd.pinned (.plain (OpenSpec.ofChange spacePiecesSpec)) spacePiecesCard

/-- THE TIED CARD OF 'hasselaw.SpaceSmooth'. -/
def spaceSmoothCard : Claim7 := { stood := { row := spaceSmoothRow, standIns := [], harness := (true, "a3fe1e421cf3f3c3e45618c9b3912c02a8ac15609e42dc4c181b61094317c894"), looks := false }, kinds := [], alts := [], laidByText := true, laidKinds := [.data, .data], laidTests := true, laidLooks := .later }
def SpaceSmoothCardSaid : Prop := Claim7.holds Tryd.pinned (.plain (OpenSpec.ofChange spaceSmoothSpec)) spaceSmoothCard

/-- THE SECOND FORM's CARD OF 'hasselaw.SpaceOpens'. -/
def spaceOpensUptoCard : Claim7 := { stood := { row := spaceOpensUptoRow, standIns := [], harness := (true, "a3fe1e421cf3f3c3e45618c9b3912c02a8ac15609e42dc4c181b61094317c894"), looks := false }, kinds := [], alts := [], laidByText := true, laidKinds := [.data, .data], laidTests := true, laidLooks := .later }
def SpaceOpensUptoCardSaid : Prop := Claim7.holds Tryd.pinned (.plain (OpenSpec.upto spaceOpensSpec)) spaceOpensUptoCard

/-- THE SECOND FORM's CARD OF 'hasselaw.SpaceFrom'. -/
def spaceFromUptoCard : Claim7 := { stood := { row := spaceFromUptoRow, standIns := [], harness := (true, "a3fe1e421cf3f3c3e45618c9b3912c02a8ac15609e42dc4c181b61094317c894"), looks := false }, kinds := [], alts := [], laidByText := true, laidKinds := [.data, .data], laidTests := true, laidLooks := .later }
def SpaceFromUptoCardSaid : Prop := Claim7.holds Tryd.pinned (.plain (OpenSpec.upto spaceFromSpec)) spaceFromUptoCard

/-- THE SECOND FORM's CARD OF 'hasselaw.SpaceCloses'. -/
def spaceClosesUptoCard : Claim7 := { stood := { row := spaceClosesUptoRow, standIns := [], harness := (true, "a3fe1e421cf3f3c3e45618c9b3912c02a8ac15609e42dc4c181b61094317c894"), looks := false }, kinds := [], alts := [], laidByText := true, laidKinds := [.data, .data], laidTests := true, laidLooks := .later }
def SpaceClosesUptoCardSaid : Prop := Claim7.holds Tryd.pinned (.plain (OpenSpec.upto spaceClosesSpec)) spaceClosesUptoCard

/-- THE SECOND FORM's CARD OF 'hasselaw.SpaceTurns'. -/
def spaceTurnsUptoCard : Claim7 := { stood := { row := spaceTurnsUptoRow, standIns := [], harness := (true, "a3fe1e421cf3f3c3e45618c9b3912c02a8ac15609e42dc4c181b61094317c894"), looks := false }, kinds := [], alts := [], laidByText := true, laidKinds := [.data, .data], laidTests := true, laidLooks := .later }
def SpaceTurnsUptoCardSaid : Prop := Claim7.holds Tryd.pinned (.plain (OpenSpec.upto spaceTurnsSpec)) spaceTurnsUptoCard

/-- THE SECOND FORM's CARD OF 'hasselaw.SpacePieces'. -/
def spacePiecesUptoCard : Claim7 := { stood := { row := spacePiecesUptoRow, standIns := [], harness := (true, "a3fe1e421cf3f3c3e45618c9b3912c02a8ac15609e42dc4c181b61094317c894"), looks := false }, kinds := [], alts := [], laidByText := true, laidKinds := [.data, .data], laidTests := true, laidLooks := .later }
def SpacePiecesUptoCardSaid : Prop := Claim7.holds Tryd.pinned (.plain (OpenSpec.upto spacePiecesSpec)) spacePiecesUptoCard

/-- THE SECOND FORM's CARD OF 'hasselaw.SpaceSmooth'. -/
def spaceSmoothUptoCard : Claim7 := { stood := { row := spaceSmoothUptoRow, standIns := [], harness := (true, "a3fe1e421cf3f3c3e45618c9b3912c02a8ac15609e42dc4c181b61094317c894"), looks := false }, kinds := [], alts := [], laidByText := true, laidKinds := [.data, .data], laidTests := true, laidLooks := .later }
def SpaceSmoothUptoCardSaid : Prop := Claim7.holds Tryd.pinned (.plain (OpenSpec.upto spaceSmoothSpec)) spaceSmoothUptoCard
end Rows
end Go.Proofs.YtggngpnenbjidaaDoor
