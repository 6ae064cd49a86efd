/-
  DERIVED. GIVEN WITH THE SEED: THE CARDS: each row of YtimpgcmkdcmhkabDoorRows.lean that lists a variable, with what it lists TIED to the program's text (the seventh form; the later family's looks); each row that meets fmt, with fmt's text TOLD by the authors' own Lean function (tested against real Go, not proved from fmt's source: count such statements apart). THE CARD IS WHAT COUNTS. Prove the row's statement (the work); the ties are given (YtimpgcmkdcmhkabDoorTie.lean); close each card by the builder's one call (the guide's Derived/Test/ToyasCard.lean, 'card_holds'). Laid BY PROGRAM, IN A SANDBOX (cutbox-door.mjs). By AI agents, Wed Nov 11 2026. No macro, syntax, notation, axiom, sorry.
-/
import Derived.Test.YtimpgcmkdcmhkabDoorRows
import GoSem.ClaimSeven
namespace Go.Proofs.YtimpgcmkdcmhkabDoor
namespace Rows

/-- THE TIED CARD OF 'hasselaw.EmbedHigman'. -/
def embedHigmanCard : Claim7 := { stood := { row := embedHigmanRow, standIns := [], harness := (true, "7f40e149135d65f27ab07d0b3995a4503c655db94fa892f64c0900f071f5f358"), looks := false }, kinds := [], alts := [], laidByText := true, laidKinds := [.data, .data], laidTests := true, laidLooks := .later }
def EmbedHigmanCardSaid : Prop := Claim7.holds Tryd.pinned (.plain (OpenSpec.ofChange embedHigmanSpec)) embedHigmanCard

/-- THE TIED CARD OF 'hasselaw.EmbedDickson'. -/
def embedDicksonCard : Claim7 := { stood := { row := embedDicksonRow, standIns := [], harness := (true, "7f40e149135d65f27ab07d0b3995a4503c655db94fa892f64c0900f071f5f358"), looks := false }, kinds := [], alts := [], laidByText := true, laidKinds := [.data, .data], laidTests := true, laidLooks := .later }
def EmbedDicksonCardSaid : Prop := Claim7.holds Tryd.pinned (.plain (OpenSpec.ofChange embedDicksonSpec)) embedDicksonCard

/-- THE TIED CARD OF 'hasselaw.EmbedGoes'. -/
def embedGoesCard : Claim7 := { stood := { row := embedGoesRow, standIns := [], harness := (true, "7f40e149135d65f27ab07d0b3995a4503c655db94fa892f64c0900f071f5f358"), looks := false }, kinds := [], alts := [], laidByText := true, laidKinds := [.data, .data], laidTests := true, laidLooks := .later }
def EmbedGoesCardSaid : Prop := Claim7.holds Tryd.pinned (.plain (OpenSpec.ofChange embedGoesSpec)) embedGoesCard

/-- THE TIED CARD OF 'hasselaw.EmbedDershowitz'. -/
def embedDershowitzCard : Claim7 := { stood := { row := embedDershowitzRow, standIns := [], harness := (true, "7f40e149135d65f27ab07d0b3995a4503c655db94fa892f64c0900f071f5f358"), looks := false }, kinds := [], alts := [], laidByText := true, laidKinds := [.data, .data], laidTests := true, laidLooks := .later }
def EmbedDershowitzCardSaid : Prop := Claim7.holds Tryd.pinned (.plain (OpenSpec.ofChange embedDershowitzSpec)) embedDershowitzCard

/-- THE SECOND FORM's CARD OF 'hasselaw.EmbedHigman'. -/
def embedHigmanUptoCard : Claim7 := { stood := { row := embedHigmanUptoRow, standIns := [], harness := (true, "7f40e149135d65f27ab07d0b3995a4503c655db94fa892f64c0900f071f5f358"), looks := false }, kinds := [], alts := [], laidByText := true, laidKinds := [.data, .data], laidTests := true, laidLooks := .later }
def EmbedHigmanUptoCardSaid : Prop := Claim7.holds Tryd.pinned (.plain (OpenSpec.upto embedHigmanSpec)) embedHigmanUptoCard

/-- THE SECOND FORM's CARD OF 'hasselaw.EmbedDickson'. -/
def embedDicksonUptoCard : Claim7 := { stood := { row := embedDicksonUptoRow, standIns := [], harness := (true, "7f40e149135d65f27ab07d0b3995a4503c655db94fa892f64c0900f071f5f358"), looks := false }, kinds := [], alts := [], laidByText := true, laidKinds := [.data, .data], laidTests := true, laidLooks := .later }
def EmbedDicksonUptoCardSaid : Prop := Claim7.holds Tryd.pinned (.plain (OpenSpec.upto embedDicksonSpec)) embedDicksonUptoCard

/-- THE SECOND FORM's CARD OF 'hasselaw.EmbedGoes'. -/
def embedGoesUptoCard : Claim7 := { stood := { row := embedGoesUptoRow, standIns := [], harness := (true, "7f40e149135d65f27ab07d0b3995a4503c655db94fa892f64c0900f071f5f358"), looks := false }, kinds := [], alts := [], laidByText := true, laidKinds := [.data, .data], laidTests := true, laidLooks := .later }
def EmbedGoesUptoCardSaid : Prop := Claim7.holds Tryd.pinned (.plain (OpenSpec.upto embedGoesSpec)) embedGoesUptoCard

/-- THE SECOND FORM's CARD OF 'hasselaw.EmbedDershowitz'. -/
def embedDershowitzUptoCard : Claim7 := { stood := { row := embedDershowitzUptoRow, standIns := [], harness := (true, "7f40e149135d65f27ab07d0b3995a4503c655db94fa892f64c0900f071f5f358"), looks := false }, kinds := [], alts := [], laidByText := true, laidKinds := [.data, .data], laidTests := true, laidLooks := .later }
def EmbedDershowitzUptoCardSaid : Prop := Claim7.holds Tryd.pinned (.plain (OpenSpec.upto embedDershowitzSpec)) embedDershowitzUptoCard
end Rows
end Go.Proofs.YtimpgcmkdcmhkabDoor
