/-
  DERIVED. GIVEN WITH THE SEED: THE CARDS: each row of YtankimgomfhfjabDoorRows.lean that lists a variable, with what it lists TIED to the program's text (the seventh form; the later family's looks); each row that meets fmt, with fmt's text TOLD by the authors' own Lean function (tested against real Go, not proved from fmt's source: count such statements apart). THE CARD IS WHAT COUNTS. Prove the row's statement (the work); the ties are given (YtankimgomfhfjabDoorTie.lean); close each card by the builder's one call (the guide's Derived/Test/ToyasCard.lean, 'card_holds'). Laid BY PROGRAM, IN A SANDBOX (cutbox-door.mjs). By AI agents, Wed Nov 11 2026. No macro, syntax, notation, axiom, sorry.
-/
import Derived.Test.YtankimgomfhfjabDoorRows
import GoSem.ClaimSeven
namespace Go.Proofs.YtankimgomfhfjabDoor
namespace Rows

/-- THE TIED CARD OF 'hasselaw.ImplyGuigues'. -/
def implyGuiguesCard : Claim7 := { stood := { row := implyGuiguesRow, standIns := [], harness := (true, "0daeab05dfe1ecab1f2ad69fd4ecffec155223a46b8144c211b884b14e8fd03f"), looks := false }, kinds := [], alts := [], laidByText := true, laidKinds := [.data, .data], laidTests := true, laidLooks := .later }
def ImplyGuiguesCardSaid : Prop := Claim7.holds Tryd.pinned (.plain (OpenSpec.ofChange implyGuiguesSpec)) implyGuiguesCard

/-- THE TIED CARD OF 'hasselaw.ImplyArmstrong'. -/
def implyArmstrongCard : Claim7 := { stood := { row := implyArmstrongRow, standIns := [], harness := (true, "0daeab05dfe1ecab1f2ad69fd4ecffec155223a46b8144c211b884b14e8fd03f"), looks := false }, kinds := [], alts := [], laidByText := true, laidKinds := [.data, .data], laidTests := true, laidLooks := .later }
def ImplyArmstrongCardSaid : Prop := Claim7.holds Tryd.pinned (.plain (OpenSpec.ofChange implyArmstrongSpec)) implyArmstrongCard

/-- THE TIED CARD OF 'hasselaw.ImplyObeyed'. -/
def implyObeyedCard : Claim7 := { stood := { row := implyObeyedRow, standIns := [], harness := (true, "0daeab05dfe1ecab1f2ad69fd4ecffec155223a46b8144c211b884b14e8fd03f"), looks := false }, kinds := [], alts := [], laidByText := true, laidKinds := [.data, .data], laidTests := true, laidLooks := .later }
def ImplyObeyedCardSaid : Prop := Claim7.holds Tryd.pinned (.plain (OpenSpec.ofChange implyObeyedSpec)) implyObeyedCard

/-- THE SECOND FORM's CARD OF 'hasselaw.ImplyGuigues'. -/
def implyGuiguesUptoCard : Claim7 := { stood := { row := implyGuiguesUptoRow, standIns := [], harness := (true, "0daeab05dfe1ecab1f2ad69fd4ecffec155223a46b8144c211b884b14e8fd03f"), looks := false }, kinds := [], alts := [], laidByText := true, laidKinds := [.data, .data], laidTests := true, laidLooks := .later }
def ImplyGuiguesUptoCardSaid : Prop := Claim7.holds Tryd.pinned (.plain (OpenSpec.upto implyGuiguesSpec)) implyGuiguesUptoCard

/-- THE SECOND FORM's CARD OF 'hasselaw.ImplyArmstrong'. -/
def implyArmstrongUptoCard : Claim7 := { stood := { row := implyArmstrongUptoRow, standIns := [], harness := (true, "0daeab05dfe1ecab1f2ad69fd4ecffec155223a46b8144c211b884b14e8fd03f"), looks := false }, kinds := [], alts := [], laidByText := true, laidKinds := [.data, .data], laidTests := true, laidLooks := .later }
def ImplyArmstrongUptoCardSaid : Prop := Claim7.holds Tryd.pinned (.plain (OpenSpec.upto implyArmstrongSpec)) implyArmstrongUptoCard

/-- THE SECOND FORM's CARD OF 'hasselaw.ImplyObeyed'. -/
def implyObeyedUptoCard : Claim7 := { stood := { row := implyObeyedUptoRow, standIns := [], harness := (true, "0daeab05dfe1ecab1f2ad69fd4ecffec155223a46b8144c211b884b14e8fd03f"), looks := false }, kinds := [], alts := [], laidByText := true, laidKinds := [.data, .data], laidTests := true, laidLooks := .later }
def ImplyObeyedUptoCardSaid : Prop := Claim7.holds Tryd.pinned (.plain (OpenSpec.upto implyObeyedSpec)) implyObeyedUptoCard
end Rows
end Go.Proofs.YtankimgomfhfjabDoor
