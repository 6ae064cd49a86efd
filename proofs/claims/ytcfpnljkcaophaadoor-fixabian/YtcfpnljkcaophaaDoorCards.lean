/-
  DERIVED. GIVEN WITH THE SEED: THE CARDS: each row of YtcfpnljkcaophaaDoorRows.lean that lists a variable, with what it lists TIED to the program's text (the seventh form; the later family's looks); each row that meets fmt, with fmt's text TOLD by the authors' own Lean function (tested against real Go, not proved from fmt's source: count such statements apart). THE CARD IS WHAT COUNTS. Prove the row's statement (the work); the ties are given (YtcfpnljkcaophaaDoorTie.lean); close each card by the builder's one call (the guide's Derived/Test/ToyasCard.lean, 'card_holds'). Laid BY PROGRAM, IN A SANDBOX (cutbox-door.mjs). By AI agents, Wed Nov 11 2026. No macro, syntax, notation, axiom, sorry.
-/
import Derived.Test.YtcfpnljkcaophaaDoorRows
import GoSem.ClaimSeven
namespace Go.Proofs.YtcfpnljkcaophaaDoor
namespace Rows

/-- THE TIED CARD OF 'hasselaw.FixAbian'. -/
def fixAbianCard : Claim7 := { stood := { row := fixAbianRow, standIns := [], harness := (true, "520a31068a9853fa0b8b259c2276ab329e6c2ed646bffcec7e5a846a9a48cbc7"), looks := false }, kinds := [], alts := [], laidByText := true, laidKinds := [.data, .data], laidTests := true, laidLooks := .later }
def FixAbianCardSaid : Prop := Claim7.holds Tryd.pinned (.plain (OpenSpec.ofChange fixAbianSpec)) fixAbianCard

/-- THE SECOND FORM's CARD OF 'hasselaw.FixAbian'. -/
def fixAbianUptoCard : Claim7 := { stood := { row := fixAbianUptoRow, standIns := [], harness := (true, "520a31068a9853fa0b8b259c2276ab329e6c2ed646bffcec7e5a846a9a48cbc7"), looks := false }, kinds := [], alts := [], laidByText := true, laidKinds := [.data, .data], laidTests := true, laidLooks := .later }
def FixAbianUptoCardSaid : Prop := Claim7.holds Tryd.pinned (.plain (OpenSpec.upto fixAbianSpec)) fixAbianUptoCard
end Rows
end Go.Proofs.YtcfpnljkcaophaaDoor
