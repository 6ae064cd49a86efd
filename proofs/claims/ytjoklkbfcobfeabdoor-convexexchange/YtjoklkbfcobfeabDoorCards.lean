/-
  DERIVED. GIVEN WITH THE SEED: THE CARDS: each row of YtjoklkbfcobfeabDoorRows.lean that lists a variable, with what it lists TIED to the program's text (the seventh form; the later family's looks); each row that meets fmt, with fmt's text TOLD by the authors' own Lean function (tested against real Go, not proved from fmt's source: count such statements apart). THE CARD IS WHAT COUNTS. Prove the row's statement (the work); the ties are given (YtjoklkbfcobfeabDoorTie.lean); close each card by the builder's one call (the guide's Derived/Test/ToyasCard.lean, 'card_holds'). Laid BY PROGRAM, IN A SANDBOX (cutbox-door.mjs). By AI agents, Wed Nov 11 2026. No macro, syntax, notation, axiom, sorry.
-/
import Derived.Test.YtjoklkbfcobfeabDoorRows
import GoSem.ClaimSeven
namespace Go.Proofs.YtjoklkbfcobfeabDoor
namespace Rows

/-- THE TIED CARD OF 'hasselaw.ConvexExchange'. -/
def convexExchangeCard : Claim7 := { stood := { row := convexExchangeRow, standIns := [], harness := (true, "ec38bbf30c38d0a5a996e774d3ba432ea50aa5057f3145abdcc12c211f63ebbe"), looks := false }, kinds := [], alts := [], laidByText := true, laidKinds := [.data, .data], laidTests := true, laidLooks := .later }
def ConvexExchangeCardSaid : Prop := Claim7.holds Tryd.pinned (.plain (OpenSpec.ofChange convexExchangeSpec)) convexExchangeCard

/-- THE TIED CARD OF 'hasselaw.ConvexRows'. -/
def convexRowsCard : Claim7 := { stood := { row := convexRowsRow, standIns := [], harness := (true, "ec38bbf30c38d0a5a996e774d3ba432ea50aa5057f3145abdcc12c211f63ebbe"), looks := false }, kinds := [], alts := [], laidByText := true, laidKinds := [.data, .data], laidTests := true, laidLooks := .later }
def ConvexRowsCardSaid : Prop := Claim7.holds Tryd.pinned (.plain (OpenSpec.ofChange convexRowsSpec)) convexRowsCard

/-- THE SECOND FORM's CARD OF 'hasselaw.ConvexExchange'. -/
def convexExchangeUptoCard : Claim7 := { stood := { row := convexExchangeUptoRow, standIns := [], harness := (true, "ec38bbf30c38d0a5a996e774d3ba432ea50aa5057f3145abdcc12c211f63ebbe"), looks := false }, kinds := [], alts := [], laidByText := true, laidKinds := [.data, .data], laidTests := true, laidLooks := .later }
def ConvexExchangeUptoCardSaid : Prop := Claim7.holds Tryd.pinned (.plain (OpenSpec.upto convexExchangeSpec)) convexExchangeUptoCard

/-- THE SECOND FORM's CARD OF 'hasselaw.ConvexRows'. -/
def convexRowsUptoCard : Claim7 := { stood := { row := convexRowsUptoRow, standIns := [], harness := (true, "ec38bbf30c38d0a5a996e774d3ba432ea50aa5057f3145abdcc12c211f63ebbe"), looks := false }, kinds := [], alts := [], laidByText := true, laidKinds := [.data, .data], laidTests := true, laidLooks := .later }
def ConvexRowsUptoCardSaid : Prop := Claim7.holds Tryd.pinned (.plain (OpenSpec.upto convexRowsSpec)) convexRowsUptoCard
end Rows
end Go.Proofs.YtjoklkbfcobfeabDoor
