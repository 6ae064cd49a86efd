/-
  No cell of these rows narrows 'for every input' (looked for: loops, veiled, ifaces, maps, wideKeys, modest, calm, conditions, laid).
  DERIVED. THE GIVEN ROWS OF THIS SEAT. 6 by the template 'for every input the law returns true; each argument reads behind the call as it read before'; 0 by the template 'total and deterministic' (their statements: YtbgdjhfaegohpaaTotals.lean).
  GIVEN WITH THE SEED: the statements are not yours to turn. If you find one false, say at which input.
  Laid BY PROGRAM, IN A SANDBOX (cutbox-rows.mjs): the forced cells as the released guide's own fill.sh prints them over the translation f0db89dc536f8ef2… (all of the seat's roots in one cut). By AI agents, Wed Nov 11 2026. No macro, syntax, notation, axiom, sorry.
-/
import Derived.Test.YtbgdjhfaegohpaaChecked
import GoSem.Claim
import GoSem.ClaimJoined
import GoSem.ClaimMapViews
import Derived.JoinedTies
import Derived.KernelRfl
namespace Go.Proofs.Ytbgdjhfaegohpaa
/- THE CELL 'sum', in the pinned program and in every row, IS THE sha256 OF THE DUMP (.gsa) THAT YtbgdjhfaegohpaaProg.lean LOADS. Nothing in Lean hashes anything: it is a label: what it is worth is what the hold of that sum in a sandbox is worth. -/
noncomputable def Try.pinned : Pinned := { name := "ytbgdjhfaegohpaa", sum := "f0db89dc536f8ef2a12f809046bc1bb4ced25df02fc0775760eff9d052728b0c", checked := Try.checked }
namespace Rows
def none {H : Type} : Left H := { results := [], args := [] }

/-- 'hasselaw.ExtendCounts': WHATEVER THE INPUT: true; the input reads as it did. -/
def extendCountsSpec : ChangeSpec := { name := "extendCounts", fn := fun _ => fun
  | [d] => { results := [.lit (.bool true)], args := [d] }
  | _ => none }
def extendCountsRow : OpenClaim := { program := "ytbgdjhfaegohpaa", sum := "f0db89dc536f8ef2a12f809046bc1bb4ced25df02fc0775760eff9d052728b0c", func := "hasse/hasselaw.ExtendCounts", spec := "extendCounts", apart := false }
def ExtendCountsSaid : Prop := extendCountsRow.holds Try.pinned (OpenSpec.ofChange extendCountsSpec)

/-- ITS FALSE NEIGHBOUR: 'it returns false'. Refute it at one input. -/
def extendCountsWrong : ChangeSpec := { name := "extendCounts", fn := fun _ => fun
  | [d] => { results := [.lit (.bool false)], args := [d] }
  | _ => none }
def ExtendCountsWrongFalsely : Prop := extendCountsRow.holds Try.pinned (OpenSpec.ofChange extendCountsWrong)

/-- 'hasselaw.ExtendNths': WHATEVER THE INPUT: true; the input reads as it did. -/
def extendNthsSpec : ChangeSpec := { name := "extendNths", fn := fun _ => fun
  | [d1, d2] => { results := [.lit (.bool true)], args := [d1, d2] }
  | _ => none }
def extendNthsRow : OpenClaim := { program := "ytbgdjhfaegohpaa", sum := "f0db89dc536f8ef2a12f809046bc1bb4ced25df02fc0775760eff9d052728b0c", func := "hasse/hasselaw.ExtendNths", spec := "extendNths", apart := false }
def ExtendNthsSaid : Prop := extendNthsRow.holds Try.pinned (OpenSpec.ofChange extendNthsSpec)

/-- ITS FALSE NEIGHBOUR: 'it returns false'. Refute it at one input. -/
def extendNthsWrong : ChangeSpec := { name := "extendNths", fn := fun _ => fun
  | [d1, d2] => { results := [.lit (.bool false)], args := [d1, d2] }
  | _ => none }
def ExtendNthsWrongFalsely : Prop := extendNthsRow.holds Try.pinned (OpenSpec.ofChange extendNthsWrong)

/-- 'hasselaw.ExtendRanks': WHATEVER THE INPUT: true; the input reads as it did. -/
def extendRanksSpec : ChangeSpec := { name := "extendRanks", fn := fun _ => fun
  | [d1, d2] => { results := [.lit (.bool true)], args := [d1, d2] }
  | _ => none }
def extendRanksRow : OpenClaim := { program := "ytbgdjhfaegohpaa", sum := "f0db89dc536f8ef2a12f809046bc1bb4ced25df02fc0775760eff9d052728b0c", func := "hasse/hasselaw.ExtendRanks", spec := "extendRanks", apart := false }
def ExtendRanksSaid : Prop := extendRanksRow.holds Try.pinned (OpenSpec.ofChange extendRanksSpec)

/-- ITS FALSE NEIGHBOUR: 'it returns false'. Refute it at one input. -/
def extendRanksWrong : ChangeSpec := { name := "extendRanks", fn := fun _ => fun
  | [d1, d2] => { results := [.lit (.bool false)], args := [d1, d2] }
  | _ => none }
def ExtendRanksWrongFalsely : Prop := extendRanksRow.holds Try.pinned (OpenSpec.ofChange extendRanksWrong)

/-- 'hasselaw.ExtendAheads': WHATEVER THE INPUT: true; the input reads as it did. -/
def extendAheadsSpec : ChangeSpec := { name := "extendAheads", fn := fun _ => fun
  | [d1, d2, d3] => { results := [.lit (.bool true)], args := [d1, d2, d3] }
  | _ => none }
def extendAheadsRow : OpenClaim := { program := "ytbgdjhfaegohpaa", sum := "f0db89dc536f8ef2a12f809046bc1bb4ced25df02fc0775760eff9d052728b0c", func := "hasse/hasselaw.ExtendAheads", spec := "extendAheads", apart := false }
def ExtendAheadsSaid : Prop := extendAheadsRow.holds Try.pinned (OpenSpec.ofChange extendAheadsSpec)

/-- ITS FALSE NEIGHBOUR: 'it returns false'. Refute it at one input. -/
def extendAheadsWrong : ChangeSpec := { name := "extendAheads", fn := fun _ => fun
  | [d1, d2, d3] => { results := [.lit (.bool false)], args := [d1, d2, d3] }
  | _ => none }
def ExtendAheadsWrongFalsely : Prop := extendAheadsRow.holds Try.pinned (OpenSpec.ofChange extendAheadsWrong)

/-- 'hasselaw.ExtendBoths': WHATEVER THE INPUT: true; the input reads as it did. -/
def extendBothsSpec : ChangeSpec := { name := "extendBoths", fn := fun _ => fun
  | [d1, d2, d3, d4] => { results := [.lit (.bool true)], args := [d1, d2, d3, d4] }
  | _ => none }
def extendBothsRow : OpenClaim := { program := "ytbgdjhfaegohpaa", sum := "f0db89dc536f8ef2a12f809046bc1bb4ced25df02fc0775760eff9d052728b0c", func := "hasse/hasselaw.ExtendBoths", spec := "extendBoths", apart := false }
def ExtendBothsSaid : Prop := extendBothsRow.holds Try.pinned (OpenSpec.ofChange extendBothsSpec)

/-- ITS FALSE NEIGHBOUR: 'it returns false'. Refute it at one input. -/
def extendBothsWrong : ChangeSpec := { name := "extendBoths", fn := fun _ => fun
  | [d1, d2, d3, d4] => { results := [.lit (.bool false)], args := [d1, d2, d3, d4] }
  | _ => none }
def ExtendBothsWrongFalsely : Prop := extendBothsRow.holds Try.pinned (OpenSpec.ofChange extendBothsWrong)

/-- 'hasselaw.ExtendTurns': WHATEVER THE INPUT: true; the input reads as it did. -/
def extendTurnsSpec : ChangeSpec := { name := "extendTurns", fn := fun _ => fun
  | [d1, d2] => { results := [.lit (.bool true)], args := [d1, d2] }
  | _ => none }
def extendTurnsRow : OpenClaim := { program := "ytbgdjhfaegohpaa", sum := "f0db89dc536f8ef2a12f809046bc1bb4ced25df02fc0775760eff9d052728b0c", func := "hasse/hasselaw.ExtendTurns", spec := "extendTurns", apart := false }
def ExtendTurnsSaid : Prop := extendTurnsRow.holds Try.pinned (OpenSpec.ofChange extendTurnsSpec)

/-- ITS FALSE NEIGHBOUR: 'it returns false'. Refute it at one input. -/
def extendTurnsWrong : ChangeSpec := { name := "extendTurns", fn := fun _ => fun
  | [d1, d2] => { results := [.lit (.bool false)], args := [d1, d2] }
  | _ => none }
def ExtendTurnsWrongFalsely : Prop := extendTurnsRow.holds Try.pinned (OpenSpec.ofChange extendTurnsWrong)

/- THE SECOND FORM. 'bulk': how many values and letters a reading holds, each counted each time it is reached (what is shared counts as often as it is met; a slice's spare places count too). A statement '..UptoSaid' is the law's where the arguments, and the package variables that the reading takes, are together of bulk at most 1048576: NARROWER than '..Said'. Prove '..Said' where nothing that the law and all that it calls make is longer than what came in: it says more and counts as full. Else prove '..UptoSaid'. A law counts once. -/
mutual
def uptoBulk {H : Type} : DataW H → Nat
  | .lit (.string bytes) => bytes.length + 1
  | .lit _ => 1
  | .nil => 1
  | .ptr d => uptoBulk d + 1
  | .slice elems spare => uptoBulkAll elems + uptoBulkAll spare + 1
  | .agg parts => uptoBulkAll parts + 1
  | .iface _ d => uptoBulk d + 1
  | .map entries => uptoBulkEntries entries + 1
  | .held _ => 1
def uptoBulkAll {H : Type} : List (DataW H) → Nat
  | [] => 0
  | d :: r => uptoBulk d + uptoBulkAll r
def uptoBulkEntries {H : Type} : List (Lit × DataW H) → Nat
  | [] => 0
  | x :: r => uptoBulkEntry x + uptoBulkEntries r
def uptoBulkEntry {H : Type} : Lit × DataW H → Nat
  | (.string bytes, d) => bytes.length + uptoBulk d + 1
  | (_, d) => uptoBulk d + 1
 end
def uptoSmall : (H : Type) → List (DataW H) → Bool := fun _ ds => decide (uptoBulkAll ds ≤ 1048576)
def OpenSpec.upto (s : _root_.Go.ChangeSpec) : _root_.Go.OpenSpec := { _root_.Go.OpenSpec.ofChange s with cond := some uptoSmall }

/-- 'hasselaw.ExtendCounts', WHERE WHAT IT READS IS OF BULK AT MOST 1048576: true; the input reads as it did. -/
def extendCountsUptoRow : OpenClaim := { program := "ytbgdjhfaegohpaa", sum := "f0db89dc536f8ef2a12f809046bc1bb4ced25df02fc0775760eff9d052728b0c", func := "hasse/hasselaw.ExtendCounts", spec := "extendCounts", apart := false, narrowed := true }
def ExtendCountsUptoSaid : Prop := extendCountsUptoRow.holds Try.pinned (OpenSpec.upto extendCountsSpec)

/-- 'hasselaw.ExtendNths', WHERE WHAT IT READS IS OF BULK AT MOST 1048576: true; the input reads as it did. -/
def extendNthsUptoRow : OpenClaim := { program := "ytbgdjhfaegohpaa", sum := "f0db89dc536f8ef2a12f809046bc1bb4ced25df02fc0775760eff9d052728b0c", func := "hasse/hasselaw.ExtendNths", spec := "extendNths", apart := false, narrowed := true }
def ExtendNthsUptoSaid : Prop := extendNthsUptoRow.holds Try.pinned (OpenSpec.upto extendNthsSpec)

/-- 'hasselaw.ExtendRanks', WHERE WHAT IT READS IS OF BULK AT MOST 1048576: true; the input reads as it did. -/
def extendRanksUptoRow : OpenClaim := { program := "ytbgdjhfaegohpaa", sum := "f0db89dc536f8ef2a12f809046bc1bb4ced25df02fc0775760eff9d052728b0c", func := "hasse/hasselaw.ExtendRanks", spec := "extendRanks", apart := false, narrowed := true }
def ExtendRanksUptoSaid : Prop := extendRanksUptoRow.holds Try.pinned (OpenSpec.upto extendRanksSpec)

/-- 'hasselaw.ExtendAheads', WHERE WHAT IT READS IS OF BULK AT MOST 1048576: true; the input reads as it did. -/
def extendAheadsUptoRow : OpenClaim := { program := "ytbgdjhfaegohpaa", sum := "f0db89dc536f8ef2a12f809046bc1bb4ced25df02fc0775760eff9d052728b0c", func := "hasse/hasselaw.ExtendAheads", spec := "extendAheads", apart := false, narrowed := true }
def ExtendAheadsUptoSaid : Prop := extendAheadsUptoRow.holds Try.pinned (OpenSpec.upto extendAheadsSpec)

/-- 'hasselaw.ExtendBoths', WHERE WHAT IT READS IS OF BULK AT MOST 1048576: true; the input reads as it did. -/
def extendBothsUptoRow : OpenClaim := { program := "ytbgdjhfaegohpaa", sum := "f0db89dc536f8ef2a12f809046bc1bb4ced25df02fc0775760eff9d052728b0c", func := "hasse/hasselaw.ExtendBoths", spec := "extendBoths", apart := false, narrowed := true }
def ExtendBothsUptoSaid : Prop := extendBothsUptoRow.holds Try.pinned (OpenSpec.upto extendBothsSpec)

/-- 'hasselaw.ExtendTurns', WHERE WHAT IT READS IS OF BULK AT MOST 1048576: true; the input reads as it did. -/
def extendTurnsUptoRow : OpenClaim := { program := "ytbgdjhfaegohpaa", sum := "f0db89dc536f8ef2a12f809046bc1bb4ced25df02fc0775760eff9d052728b0c", func := "hasse/hasselaw.ExtendTurns", spec := "extendTurns", apart := false, narrowed := true }
def ExtendTurnsUptoSaid : Prop := extendTurnsUptoRow.holds Try.pinned (OpenSpec.upto extendTurnsSpec)

end Rows
end Go.Proofs.Ytbgdjhfaegohpaa
