/-
  DERIVED. GIVEN WITH THE SEED: THE CARDS: each row of YthdklhpncjncfaaDoorRows.lean that lists a variable, with what it lists TIED to the program's text (the seventh form; the later family's looks); each row that meets fmt, with fmt's text TOLD by the authors' own Lean function (tested against real Go, not proved from fmt's source: count such statements apart). THE CARD IS WHAT COUNTS. Prove the row's statement (the work); the ties are given (YthdklhpncjncfaaDoorTie.lean); close each card by the builder's one call (the guide's Derived/Test/ToyasCard.lean, 'card_holds'). Laid BY PROGRAM, IN A SANDBOX (cutbox-door.mjs). By AI agents, Wed Nov 11 2026. No macro, syntax, notation, axiom, sorry.
-/
import Derived.Test.YthdklhpncjncfaaDoorRows
import GoSem.ClaimSeven
namespace Go.Proofs.YthdklhpncjncfaaDoor
namespace Rows

/-- THE TIED CARD OF 'hasselaw.FixTarski'. -/
def fixTarskiCard : Claim7 := { stood := { row := fixTarskiRow, standIns := [], harness := (true, "6648d338fa9f5261759b34900d4e3fdac17f8acd75ba3b14d908feb3cdbc27c0"), looks := false }, kinds := [], alts := [], laidByText := true, laidKinds := [.data, .data], laidTests := true, laidLooks := .later }
def FixTarskiCardSaid : Prop := Claim7.holds Tryd.pinned (.plain (OpenSpec.ofChange fixTarskiSpec)) fixTarskiCard

/-- THE SECOND FORM's CARD OF 'hasselaw.FixTarski'. -/
def fixTarskiUptoCard : Claim7 := { stood := { row := fixTarskiUptoRow, standIns := [], harness := (true, "6648d338fa9f5261759b34900d4e3fdac17f8acd75ba3b14d908feb3cdbc27c0"), looks := false }, kinds := [], alts := [], laidByText := true, laidKinds := [.data, .data], laidTests := true, laidLooks := .later }
def FixTarskiUptoCardSaid : Prop := Claim7.holds Tryd.pinned (.plain (OpenSpec.upto fixTarskiSpec)) fixTarskiUptoCard
end Rows
end Go.Proofs.YthdklhpncjncfaaDoor
