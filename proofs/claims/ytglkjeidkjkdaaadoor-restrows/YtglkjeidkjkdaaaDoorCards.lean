/-
  DERIVED. GIVEN WITH THE SEED: THE CARDS: each row of YtglkjeidkjkdaaaDoorRows.lean that lists a variable, with what it lists TIED to the program's text (the seventh form; the later family's looks); each row that meets fmt, with fmt's text TOLD by the authors' own Lean function (tested against real Go, not proved from fmt's source: count such statements apart). THE CARD IS WHAT COUNTS. Prove the row's statement (the work); the ties are given (YtglkjeidkjkdaaaDoorTie.lean); close each card by the builder's one call (the guide's Derived/Test/ToyasCard.lean, 'card_holds'). Laid BY PROGRAM, IN A SANDBOX (cutbox-door.mjs). By AI agents, Wed Nov 11 2026. No macro, syntax, notation, axiom, sorry.
-/
import Derived.Test.YtglkjeidkjkdaaaDoorRows
import GoSem.ClaimSeven
namespace Go.Proofs.YtglkjeidkjkdaaaDoor
namespace Rows

/-- THE TIED CARD OF 'hasselaw.RestRows'. -/
def restRowsCard : Claim7 := { stood := { row := restRowsRow, standIns := [], harness := (true, "285d17cacf9b6b9fc2c9f65975a57ad3ca1d0f674cfda57a0bbc4ae7d1c66109"), looks := false }, kinds := [], alts := [], laidByText := true, laidKinds := [.data, .data], laidTests := true, laidLooks := .later }
def RestRowsCardSaid : Prop := Claim7.holds Tryd.pinned (.plain (OpenSpec.ofChange restRowsSpec)) restRowsCard

/-- THE SECOND FORM's CARD OF 'hasselaw.RestRows'. -/
def restRowsUptoCard : Claim7 := { stood := { row := restRowsUptoRow, standIns := [], harness := (true, "285d17cacf9b6b9fc2c9f65975a57ad3ca1d0f674cfda57a0bbc4ae7d1c66109"), looks := false }, kinds := [], alts := [], laidByText := true, laidKinds := [.data, .data], laidTests := true, laidLooks := .later }
def RestRowsUptoCardSaid : Prop := Claim7.holds Tryd.pinned (.plain (OpenSpec.upto restRowsSpec)) restRowsUptoCard
end Rows
end Go.Proofs.YtglkjeidkjkdaaaDoor
