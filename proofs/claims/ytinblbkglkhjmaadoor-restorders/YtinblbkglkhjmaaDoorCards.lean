/-
  DERIVED. GIVEN WITH THE SEED: THE CARDS: each row of YtinblbkglkhjmaaDoorRows.lean that lists a variable, with what it lists TIED to the program's text (the seventh form; the later family's looks); each row that meets fmt, with fmt's text TOLD by the authors' own Lean function (tested against real Go, not proved from fmt's source: count such statements apart). THE CARD IS WHAT COUNTS. Prove the row's statement (the work); the ties are given (YtinblbkglkhjmaaDoorTie.lean); close each card by the builder's one call (the guide's Derived/Test/ToyasCard.lean, 'card_holds'). Laid BY PROGRAM, IN A SANDBOX (cutbox-door.mjs). By AI agents, Wed Nov 11 2026. No macro, syntax, notation, axiom, sorry.
-/
import Derived.Test.YtinblbkglkhjmaaDoorRows
import GoSem.ClaimSeven
namespace Go.Proofs.YtinblbkglkhjmaaDoor
namespace Rows

/-- THE TIED CARD OF 'hasselaw.RestOrders'. -/
def restOrdersCard : Claim7 := { stood := { row := restOrdersRow, standIns := [], harness := (true, "81b840b870b07ba4849b9660a5897311185ca1db7b48648d9815548aa91cad89"), looks := false }, kinds := [], alts := [], laidByText := true, laidKinds := [.data, .data], laidTests := true, laidLooks := .later }
def RestOrdersCardSaid : Prop := Claim7.holds Tryd.pinned (.plain (OpenSpec.ofChange restOrdersSpec)) restOrdersCard

/-- THE SECOND FORM's CARD OF 'hasselaw.RestOrders'. -/
def restOrdersUptoCard : Claim7 := { stood := { row := restOrdersUptoRow, standIns := [], harness := (true, "81b840b870b07ba4849b9660a5897311185ca1db7b48648d9815548aa91cad89"), looks := false }, kinds := [], alts := [], laidByText := true, laidKinds := [.data, .data], laidTests := true, laidLooks := .later }
def RestOrdersUptoCardSaid : Prop := Claim7.holds Tryd.pinned (.plain (OpenSpec.upto restOrdersSpec)) restOrdersUptoCard
end Rows
end Go.Proofs.YtinblbkglkhjmaaDoor
