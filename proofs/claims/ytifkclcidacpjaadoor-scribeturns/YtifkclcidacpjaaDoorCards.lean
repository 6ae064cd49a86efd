/-
  DERIVED. GIVEN WITH THE SEED: THE CARDS: each row of YtifkclcidacpjaaDoorRows.lean that lists a variable, with what it lists TIED to the program's text (the seventh form; the later family's looks); each row that meets fmt, with fmt's text TOLD by the authors' own Lean function (tested against real Go, not proved from fmt's source: count such statements apart). THE CARD IS WHAT COUNTS. Prove the row's statement (the work); the ties are given (YtifkclcidacpjaaDoorTie.lean); close each card by the builder's one call (the guide's Derived/Test/ToyasCard.lean, 'card_holds'). Laid BY PROGRAM, IN A SANDBOX (cutbox-door.mjs). By AI agents, Wed Nov 11 2026. No macro, syntax, notation, axiom, sorry.
-/
import Derived.Test.YtifkclcidacpjaaDoorRows
import GoSem.ClaimSeven
namespace Go.Proofs.YtifkclcidacpjaaDoor
namespace Rows

/-- THE TIED CARD OF 'hasselaw.ScribeTurns'. -/
def scribeTurnsCard : Claim7 := { stood := { row := scribeTurnsRow, standIns := [], harness := (true, "2a56999103a1b8d20c0647ba8217065db5f4a726c484625cd7c52bc4d9b07571"), looks := true }, kinds := [], alts := [], laidByText := true, laidKinds := [.data, .data, .data], laidTests := true, laidLooks := .later }
def ScribeTurnsCardSaid : Prop := Claim7.holds Tryd.pinned (.plain (OpenSpec.ofChange scribeTurnsSpec)) scribeTurnsCard

/-- THE SECOND FORM's CARD OF 'hasselaw.ScribeTurns'. -/
def scribeTurnsUptoCard : Claim7 := { stood := { row := scribeTurnsUptoRow, standIns := [], harness := (true, "2a56999103a1b8d20c0647ba8217065db5f4a726c484625cd7c52bc4d9b07571"), looks := true }, kinds := [], alts := [], laidByText := true, laidKinds := [.data, .data, .data], laidTests := true, laidLooks := .later }
def ScribeTurnsUptoCardSaid : Prop := Claim7.holds Tryd.pinned (.plain (OpenSpec.upto scribeTurnsSpec)) scribeTurnsUptoCard
end Rows
end Go.Proofs.YtifkclcidacpjaaDoor
