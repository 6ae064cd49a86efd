/-
  DERIVED. GIVEN WITH THE SEED: THE CARDS: each row of YtfajgahofkcndaaDoorRows.lean that lists a variable, with what it lists TIED to the program's text (the seventh form; the later family's looks); each row that meets fmt, with fmt's text TOLD by the authors' own Lean function (tested against real Go, not proved from fmt's source: count such statements apart). THE CARD IS WHAT COUNTS. Prove the row's statement (the work); the ties are given (YtfajgahofkcndaaDoorTie.lean); close each card by the builder's one call (the guide's Derived/Test/ToyasCard.lean, 'card_holds'). Laid BY PROGRAM, IN A SANDBOX (cutbox-door.mjs). By AI agents, Wed Nov 11 2026. No macro, syntax, notation, axiom, sorry.
-/
import Derived.Test.YtfajgahofkcndaaDoorRows
import GoSem.ClaimSeven
namespace Go.Proofs.YtfajgahofkcndaaDoor
namespace Rows

/-- THE TIED CARD OF 'hasselaw.FixRival'. -/
def fixRivalCard : Claim7 := { stood := { row := fixRivalRow, standIns := [], harness := (true, "684ab055c1f8a5115cd7363470c43ffb1eb0e3467caa3a927528a3841dcf7334"), looks := false }, kinds := [], alts := [], laidByText := true, laidKinds := [.data, .data], laidTests := true, laidLooks := .later }
def FixRivalCardSaid : Prop := Claim7.holds Tryd.pinned (.plain (OpenSpec.ofChange fixRivalSpec)) fixRivalCard

/-- THE SECOND FORM's CARD OF 'hasselaw.FixRival'. -/
def fixRivalUptoCard : Claim7 := { stood := { row := fixRivalUptoRow, standIns := [], harness := (true, "684ab055c1f8a5115cd7363470c43ffb1eb0e3467caa3a927528a3841dcf7334"), looks := false }, kinds := [], alts := [], laidByText := true, laidKinds := [.data, .data], laidTests := true, laidLooks := .later }
def FixRivalUptoCardSaid : Prop := Claim7.holds Tryd.pinned (.plain (OpenSpec.upto fixRivalSpec)) fixRivalUptoCard
end Rows
end Go.Proofs.YtfajgahofkcndaaDoor
