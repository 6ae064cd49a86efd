/-
  No cell of these rows narrows 'for every input' (looked for: loops, veiled, ifaces, maps, wideKeys, modest, calm, conditions, laid).
  DERIVED. THE GIVEN ROWS OF THIS SEAT. 6 by the template 'for every input the law returns true; each argument reads behind the call as it read before'; 0 by the template 'total and deterministic' (their statements: YtpmgengddnafeaaTotals.lean).
  GIVEN WITH THE SEED: the statements are not yours to turn. If you find one false, say at which input.
  Laid BY PROGRAM, IN A SANDBOX (cutbox-rows.mjs): the forced cells as the released guide's own fill.sh prints them over the translation bf55b73da068ac65… (all of the seat's roots in one cut). By AI agents, Wed Nov 11 2026. No macro, syntax, notation, axiom, sorry.
-/
import Derived.Test.YtpmgengddnafeaaChecked
import GoSem.Claim
import GoSem.ClaimJoined
import GoSem.ClaimMapViews
import Derived.JoinedTies
import Derived.KernelRfl
namespace Go.Proofs.Ytpmgengddnafeaa
/- THE CELL 'sum', in the pinned program and in every row, IS THE sha256 OF THE DUMP (.gsa) THAT YtpmgengddnafeaaProg.lean LOADS. Nothing in Lean hashes anything: it is a label: what it is worth is what the hold of that sum in a sandbox is worth. -/
noncomputable def Try.pinned : Pinned := { name := "ytpmgengddnafeaa", sum := "bf55b73da068ac6574bfaa50e1d01a6b0b9dea6142d588d8ae424b9740012d64", checked := Try.checked }
namespace Rows
def none {H : Type} : Left H := { results := [], args := [] }

/-- 'hasselaw.ConceptChecks': WHATEVER THE INPUT: true; the input reads as it did. -/
def conceptChecksSpec : ChangeSpec := { name := "conceptChecks", fn := fun _ => fun
  | [d] => { results := [.lit (.bool true)], args := [d] }
  | _ => none }
def conceptChecksRow : OpenClaim := { program := "ytpmgengddnafeaa", sum := "bf55b73da068ac6574bfaa50e1d01a6b0b9dea6142d588d8ae424b9740012d64", func := "hasse/hasselaw.ConceptChecks", spec := "conceptChecks", unfollowed := true, recurses := true, apart := false }
def ConceptChecksSaid : Prop := conceptChecksRow.holds Try.pinned (OpenSpec.ofChange conceptChecksSpec)

/-- ITS FALSE NEIGHBOUR: 'it returns false'. Refute it at one input. -/
def conceptChecksWrong : ChangeSpec := { name := "conceptChecks", fn := fun _ => fun
  | [d] => { results := [.lit (.bool false)], args := [d] }
  | _ => none }
def ConceptChecksWrongFalsely : Prop := conceptChecksRow.holds Try.pinned (OpenSpec.ofChange conceptChecksWrong)

/-- 'hasselaw.ConceptMarks': WHATEVER THE INPUT: true; the input reads as it did. -/
def conceptMarksSpec : ChangeSpec := { name := "conceptMarks", fn := fun _ => fun
  | [d1, d2, d3] => { results := [.lit (.bool true)], args := [d1, d2, d3] }
  | _ => none }
def conceptMarksRow : OpenClaim := { program := "ytpmgengddnafeaa", sum := "bf55b73da068ac6574bfaa50e1d01a6b0b9dea6142d588d8ae424b9740012d64", func := "hasse/hasselaw.ConceptMarks", spec := "conceptMarks", unfollowed := true, recurses := true, apart := false }
def ConceptMarksSaid : Prop := conceptMarksRow.holds Try.pinned (OpenSpec.ofChange conceptMarksSpec)

/-- ITS FALSE NEIGHBOUR: 'it returns false'. Refute it at one input. -/
def conceptMarksWrong : ChangeSpec := { name := "conceptMarks", fn := fun _ => fun
  | [d1, d2, d3] => { results := [.lit (.bool false)], args := [d1, d2, d3] }
  | _ => none }
def ConceptMarksWrongFalsely : Prop := conceptMarksRow.holds Try.pinned (OpenSpec.ofChange conceptMarksWrong)

/-- 'hasselaw.ConceptConcepts': WHATEVER THE INPUT: true; the input reads as it did. -/
def conceptConceptsSpec : ChangeSpec := { name := "conceptConcepts", fn := fun _ => fun
  | [d] => { results := [.lit (.bool true)], args := [d] }
  | _ => none }
def conceptConceptsRow : OpenClaim := { program := "ytpmgengddnafeaa", sum := "bf55b73da068ac6574bfaa50e1d01a6b0b9dea6142d588d8ae424b9740012d64", func := "hasse/hasselaw.ConceptConcepts", spec := "conceptConcepts", unfollowed := true, recurses := true, apart := false }
def ConceptConceptsSaid : Prop := conceptConceptsRow.holds Try.pinned (OpenSpec.ofChange conceptConceptsSpec)

/-- ITS FALSE NEIGHBOUR: 'it returns false'. Refute it at one input. -/
def conceptConceptsWrong : ChangeSpec := { name := "conceptConcepts", fn := fun _ => fun
  | [d] => { results := [.lit (.bool false)], args := [d] }
  | _ => none }
def ConceptConceptsWrongFalsely : Prop := conceptConceptsRow.holds Try.pinned (OpenSpec.ofChange conceptConceptsWrong)

/-- 'hasselaw.ConceptLattices': WHATEVER THE INPUT: true; the input reads as it did. -/
def conceptLatticesSpec : ChangeSpec := { name := "conceptLattices", fn := fun _ => fun
  | [d] => { results := [.lit (.bool true)], args := [d] }
  | _ => none }
def conceptLatticesRow : OpenClaim := { program := "ytpmgengddnafeaa", sum := "bf55b73da068ac6574bfaa50e1d01a6b0b9dea6142d588d8ae424b9740012d64", func := "hasse/hasselaw.ConceptLattices", spec := "conceptLattices", unfollowed := true, recurses := true, apart := false }
def ConceptLatticesSaid : Prop := conceptLatticesRow.holds Try.pinned (OpenSpec.ofChange conceptLatticesSpec)

/-- ITS FALSE NEIGHBOUR: 'it returns false'. Refute it at one input. -/
def conceptLatticesWrong : ChangeSpec := { name := "conceptLattices", fn := fun _ => fun
  | [d] => { results := [.lit (.bool false)], args := [d] }
  | _ => none }
def ConceptLatticesWrongFalsely : Prop := conceptLatticesRow.holds Try.pinned (OpenSpec.ofChange conceptLatticesWrong)

/-- 'hasselaw.ConceptNexts': WHATEVER THE INPUT: true; the input reads as it did. -/
def conceptNextsSpec : ChangeSpec := { name := "conceptNexts", fn := fun _ => fun
  | [d1, d2] => { results := [.lit (.bool true)], args := [d1, d2] }
  | _ => none }
def conceptNextsRow : OpenClaim := { program := "ytpmgengddnafeaa", sum := "bf55b73da068ac6574bfaa50e1d01a6b0b9dea6142d588d8ae424b9740012d64", func := "hasse/hasselaw.ConceptNexts", spec := "conceptNexts", unfollowed := true, recurses := true, apart := false }
def ConceptNextsSaid : Prop := conceptNextsRow.holds Try.pinned (OpenSpec.ofChange conceptNextsSpec)

/-- ITS FALSE NEIGHBOUR: 'it returns false'. Refute it at one input. -/
def conceptNextsWrong : ChangeSpec := { name := "conceptNexts", fn := fun _ => fun
  | [d1, d2] => { results := [.lit (.bool false)], args := [d1, d2] }
  | _ => none }
def ConceptNextsWrongFalsely : Prop := conceptNextsRow.holds Try.pinned (OpenSpec.ofChange conceptNextsWrong)

/-- 'hasselaw.ConceptWille': WHATEVER THE INPUT: true; the input reads as it did. -/
def conceptWilleSpec : ChangeSpec := { name := "conceptWille", fn := fun _ => fun
  | [d1, d2, d3] => { results := [.lit (.bool true)], args := [d1, d2, d3] }
  | _ => none }
def conceptWilleRow : OpenClaim := { program := "ytpmgengddnafeaa", sum := "bf55b73da068ac6574bfaa50e1d01a6b0b9dea6142d588d8ae424b9740012d64", func := "hasse/hasselaw.ConceptWille", spec := "conceptWille", unfollowed := true, recurses := true, apart := false }
def ConceptWilleSaid : Prop := conceptWilleRow.holds Try.pinned (OpenSpec.ofChange conceptWilleSpec)

/-- ITS FALSE NEIGHBOUR: 'it returns false'. Refute it at one input. -/
def conceptWilleWrong : ChangeSpec := { name := "conceptWille", fn := fun _ => fun
  | [d1, d2, d3] => { results := [.lit (.bool false)], args := [d1, d2, d3] }
  | _ => none }
def ConceptWilleWrongFalsely : Prop := conceptWilleRow.holds Try.pinned (OpenSpec.ofChange conceptWilleWrong)

/- THE SECOND FORM. 'bulk': how many values and letters a reading holds, each counted each time it is reached (what is shared counts as often as it is met; a slice's spare places count too). A statement '..UptoSaid' is the law's where the arguments, and the package variables that the reading takes, are together of bulk at most 1048576: NARROWER than '..Said'. Prove '..Said' where nothing that the law and all that it calls make is longer than what came in: it says more and counts as full. Else prove '..UptoSaid'. A law counts once. -/
mutual
def uptoBulk {H : Type} : DataW H → Nat
  | .lit (.string bytes) => bytes.length + 1
  | .lit _ => 1
  | .nil => 1
  | .ptr d => uptoBulk d + 1
  | .slice elems spare => uptoBulkAll elems + uptoBulkAll spare + 1
  | .agg parts => uptoBulkAll parts + 1
  | .iface _ d => uptoBulk d + 1
  | .map entries => uptoBulkEntries entries + 1
  | .held _ => 1
def uptoBulkAll {H : Type} : List (DataW H) → Nat
  | [] => 0
  | d :: r => uptoBulk d + uptoBulkAll r
def uptoBulkEntries {H : Type} : List (Lit × DataW H) → Nat
  | [] => 0
  | x :: r => uptoBulkEntry x + uptoBulkEntries r
def uptoBulkEntry {H : Type} : Lit × DataW H → Nat
  | (.string bytes, d) => bytes.length + uptoBulk d + 1
  | (_, d) => uptoBulk d + 1
 end
def uptoSmall : (H : Type) → List (DataW H) → Bool := fun _ ds => decide (uptoBulkAll ds ≤ 1048576)
def OpenSpec.upto (s : _root_.Go.ChangeSpec) : _root_.Go.OpenSpec := { _root_.Go.OpenSpec.ofChange s with cond := some uptoSmall }

/-- 'hasselaw.ConceptChecks', WHERE WHAT IT READS IS OF BULK AT MOST 1048576: true; the input reads as it did. -/
def conceptChecksUptoRow : OpenClaim := { program := "ytpmgengddnafeaa", sum := "bf55b73da068ac6574bfaa50e1d01a6b0b9dea6142d588d8ae424b9740012d64", func := "hasse/hasselaw.ConceptChecks", spec := "conceptChecks", unfollowed := true, recurses := true, apart := false, narrowed := true }
def ConceptChecksUptoSaid : Prop := conceptChecksUptoRow.holds Try.pinned (OpenSpec.upto conceptChecksSpec)

/-- 'hasselaw.ConceptMarks', WHERE WHAT IT READS IS OF BULK AT MOST 1048576: true; the input reads as it did. -/
def conceptMarksUptoRow : OpenClaim := { program := "ytpmgengddnafeaa", sum := "bf55b73da068ac6574bfaa50e1d01a6b0b9dea6142d588d8ae424b9740012d64", func := "hasse/hasselaw.ConceptMarks", spec := "conceptMarks", unfollowed := true, recurses := true, apart := false, narrowed := true }
def ConceptMarksUptoSaid : Prop := conceptMarksUptoRow.holds Try.pinned (OpenSpec.upto conceptMarksSpec)

/-- 'hasselaw.ConceptConcepts', WHERE WHAT IT READS IS OF BULK AT MOST 1048576: true; the input reads as it did. -/
def conceptConceptsUptoRow : OpenClaim := { program := "ytpmgengddnafeaa", sum := "bf55b73da068ac6574bfaa50e1d01a6b0b9dea6142d588d8ae424b9740012d64", func := "hasse/hasselaw.ConceptConcepts", spec := "conceptConcepts", unfollowed := true, recurses := true, apart := false, narrowed := true }
def ConceptConceptsUptoSaid : Prop := conceptConceptsUptoRow.holds Try.pinned (OpenSpec.upto conceptConceptsSpec)

/-- 'hasselaw.ConceptLattices', WHERE WHAT IT READS IS OF BULK AT MOST 1048576: true; the input reads as it did. -/
def conceptLatticesUptoRow : OpenClaim := { program := "ytpmgengddnafeaa", sum := "bf55b73da068ac6574bfaa50e1d01a6b0b9dea6142d588d8ae424b9740012d64", func := "hasse/hasselaw.ConceptLattices", spec := "conceptLattices", unfollowed := true, recurses := true, apart := false, narrowed := true }
def ConceptLatticesUptoSaid : Prop := conceptLatticesUptoRow.holds Try.pinned (OpenSpec.upto conceptLatticesSpec)

/-- 'hasselaw.ConceptNexts', WHERE WHAT IT READS IS OF BULK AT MOST 1048576: true; the input reads as it did. -/
def conceptNextsUptoRow : OpenClaim := { program := "ytpmgengddnafeaa", sum := "bf55b73da068ac6574bfaa50e1d01a6b0b9dea6142d588d8ae424b9740012d64", func := "hasse/hasselaw.ConceptNexts", spec := "conceptNexts", unfollowed := true, recurses := true, apart := false, narrowed := true }
def ConceptNextsUptoSaid : Prop := conceptNextsUptoRow.holds Try.pinned (OpenSpec.upto conceptNextsSpec)

/-- 'hasselaw.ConceptWille', WHERE WHAT IT READS IS OF BULK AT MOST 1048576: true; the input reads as it did. -/
def conceptWilleUptoRow : OpenClaim := { program := "ytpmgengddnafeaa", sum := "bf55b73da068ac6574bfaa50e1d01a6b0b9dea6142d588d8ae424b9740012d64", func := "hasse/hasselaw.ConceptWille", spec := "conceptWille", unfollowed := true, recurses := true, apart := false, narrowed := true }
def ConceptWilleUptoSaid : Prop := conceptWilleUptoRow.holds Try.pinned (OpenSpec.upto conceptWilleSpec)

end Rows
end Go.Proofs.Ytpmgengddnafeaa
