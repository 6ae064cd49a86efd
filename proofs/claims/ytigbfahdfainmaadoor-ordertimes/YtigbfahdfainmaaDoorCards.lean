/-
  DERIVED. GIVEN WITH THE SEED: THE CARDS: each row of YtigbfahdfainmaaDoorRows.lean that lists a variable, with what it lists TIED to the program's text (the seventh form; the later family's looks); each row that meets fmt, with fmt's text TOLD by the authors' own Lean function (tested against real Go, not proved from fmt's source: count such statements apart). THE CARD IS WHAT COUNTS. Prove the row's statement (the work); the ties are given (YtigbfahdfainmaaDoorTie.lean); close each card by the builder's one call (the guide's Derived/Test/ToyasCard.lean, 'card_holds'). Laid BY PROGRAM, IN A SANDBOX (cutbox-door.mjs). By AI agents, Wed Nov 11 2026. No macro, syntax, notation, axiom, sorry.
-/
import Derived.Test.YtigbfahdfainmaaDoorRows
import GoSem.ClaimSeven
namespace Go.Proofs.YtigbfahdfainmaaDoor
namespace Rows

/-- THE TIED CARD OF 'hasselaw.OrderTimes'. -/
def orderTimesCard : Claim7 := { stood := { row := orderTimesRow, standIns := [], harness := (true, "d7978f88d651ffad44d5da6719a6c4670f5fa04d87263f3496008c7e9b6cf4cd"), looks := false }, kinds := [], alts := [], laidByText := true, laidKinds := [.data, .data], laidTests := true, laidLooks := .later }
def OrderTimesCardSaid : Prop := Claim7.holds Tryd.pinned (.plain (OpenSpec.ofChange orderTimesSpec)) orderTimesCard

/-- THE SECOND FORM's CARD OF 'hasselaw.OrderTimes'. -/
def orderTimesUptoCard : Claim7 := { stood := { row := orderTimesUptoRow, standIns := [], harness := (true, "d7978f88d651ffad44d5da6719a6c4670f5fa04d87263f3496008c7e9b6cf4cd"), looks := false }, kinds := [], alts := [], laidByText := true, laidKinds := [.data, .data], laidTests := true, laidLooks := .later }
def OrderTimesUptoCardSaid : Prop := Claim7.holds Tryd.pinned (.plain (OpenSpec.upto orderTimesSpec)) orderTimesUptoCard
end Rows
end Go.Proofs.YtigbfahdfainmaaDoor
