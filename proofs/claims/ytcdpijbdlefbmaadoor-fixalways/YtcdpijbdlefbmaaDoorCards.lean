/-
  DERIVED. GIVEN WITH THE SEED: THE CARDS: each row of YtcdpijbdlefbmaaDoorRows.lean that lists a variable, with what it lists TIED to the program's text (the seventh form; the later family's looks); each row that meets fmt, with fmt's text TOLD by the authors' own Lean function (tested against real Go, not proved from fmt's source: count such statements apart). THE CARD IS WHAT COUNTS. Prove the row's statement (the work); the ties are given (YtcdpijbdlefbmaaDoorTie.lean); close each card by the builder's one call (the guide's Derived/Test/ToyasCard.lean, 'card_holds'). Laid BY PROGRAM, IN A SANDBOX (cutbox-door.mjs). By AI agents, Wed Nov 11 2026. No macro, syntax, notation, axiom, sorry.
-/
import Derived.Test.YtcdpijbdlefbmaaDoorRows
import GoSem.ClaimSeven
namespace Go.Proofs.YtcdpijbdlefbmaaDoor
namespace Rows

/-- THE TIED CARD OF 'hasselaw.FixCounts'. -/
def fixCountsCard : Claim7 := { stood := { row := fixCountsRow, standIns := [], harness := (true, "06b38b9af9764ed900a220579edfc3248acb3802124650ee5386a7b626ffe2a7"), looks := false }, kinds := [], alts := [], laidByText := true, laidKinds := [.data, .data], laidTests := true, laidLooks := .later }
def FixCountsCardSaid : Prop := Claim7.holds Tryd.pinned (.plain (OpenSpec.ofChange fixCountsSpec)) fixCountsCard

/-- THE TIED CARD OF 'hasselaw.FixAlways'. -/
def fixAlwaysCard : Claim7 := { stood := { row := fixAlwaysRow, standIns := [], harness := (true, "06b38b9af9764ed900a220579edfc3248acb3802124650ee5386a7b626ffe2a7"), looks := false }, kinds := [], alts := [], laidByText := true, laidKinds := [.data, .data], laidTests := true, laidLooks := .later }
def FixAlwaysCardSaid : Prop := Claim7.holds Tryd.pinned (.plain (OpenSpec.ofChange fixAlwaysSpec)) fixAlwaysCard

/-- THE SECOND FORM's CARD OF 'hasselaw.FixCounts'. -/
def fixCountsUptoCard : Claim7 := { stood := { row := fixCountsUptoRow, standIns := [], harness := (true, "06b38b9af9764ed900a220579edfc3248acb3802124650ee5386a7b626ffe2a7"), looks := false }, kinds := [], alts := [], laidByText := true, laidKinds := [.data, .data], laidTests := true, laidLooks := .later }
def FixCountsUptoCardSaid : Prop := Claim7.holds Tryd.pinned (.plain (OpenSpec.upto fixCountsSpec)) fixCountsUptoCard

/-- THE SECOND FORM's CARD OF 'hasselaw.FixAlways'. -/
def fixAlwaysUptoCard : Claim7 := { stood := { row := fixAlwaysUptoRow, standIns := [], harness := (true, "06b38b9af9764ed900a220579edfc3248acb3802124650ee5386a7b626ffe2a7"), looks := false }, kinds := [], alts := [], laidByText := true, laidKinds := [.data, .data], laidTests := true, laidLooks := .later }
def FixAlwaysUptoCardSaid : Prop := Claim7.holds Tryd.pinned (.plain (OpenSpec.upto fixAlwaysSpec)) fixAlwaysUptoCard
end Rows
end Go.Proofs.YtcdpijbdlefbmaaDoor
