/-
  DERIVED. GIVEN WITH THE SEED: THE CARDS: each row of YtedpfjhdngnmpaaDoorRows.lean that lists a variable, with what it lists TIED to the program's text (the seventh form; the later family's looks); each row that meets fmt, with fmt's text TOLD by the authors' own Lean function (tested against real Go, not proved from fmt's source: count such statements apart). THE CARD IS WHAT COUNTS. Prove the row's statement (the work); the ties are given (YtedpfjhdngnmpaaDoorTie.lean); close each card by the builder's one call (the guide's Derived/Test/ToyasCard.lean, 'card_holds'). Laid BY PROGRAM, IN A SANDBOX (cutbox-door.mjs). By AI agents, Wed Nov 11 2026. No macro, syntax, notation, axiom, sorry.
-/
import Derived.Test.YtedpfjhdngnmpaaDoorRows
import GoSem.ClaimSeven
namespace Go.Proofs.YtedpfjhdngnmpaaDoor
namespace Rows

/-- THE TIED CARD OF 'hasselaw.FixCores'. -/
def fixCoresCard : Claim7 := { stood := { row := fixCoresRow, standIns := [], harness := (true, "2452a360fa48eb9e2340c2ec55885b60a572bab46d7652802032a51f7ddd950a"), looks := false }, kinds := [], alts := [], laidByText := true, laidKinds := [.data, .data], laidTests := true, laidLooks := .later }
def FixCoresCardSaid : Prop := Claim7.holds Tryd.pinned (.plain (OpenSpec.ofChange fixCoresSpec)) fixCoresCard

/-- THE SECOND FORM's CARD OF 'hasselaw.FixCores'. -/
def fixCoresUptoCard : Claim7 := { stood := { row := fixCoresUptoRow, standIns := [], harness := (true, "2452a360fa48eb9e2340c2ec55885b60a572bab46d7652802032a51f7ddd950a"), looks := false }, kinds := [], alts := [], laidByText := true, laidKinds := [.data, .data], laidTests := true, laidLooks := .later }
def FixCoresUptoCardSaid : Prop := Claim7.holds Tryd.pinned (.plain (OpenSpec.upto fixCoresSpec)) fixCoresUptoCard
end Rows
end Go.Proofs.YtedpfjhdngnmpaaDoor
