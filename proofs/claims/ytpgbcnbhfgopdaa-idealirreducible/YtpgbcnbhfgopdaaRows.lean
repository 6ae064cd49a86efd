/-
  No cell of these rows narrows 'for every input' (looked for: loops, veiled, ifaces, maps, wideKeys, modest, calm, conditions, laid).
  DERIVED. THE GIVEN ROWS OF THIS SEAT. 6 by the template 'for every input the law returns true; each argument reads behind the call as it read before'; 0 by the template 'total and deterministic' (their statements: YtpgbcnbhfgopdaaTotals.lean).
  GIVEN WITH THE SEED: the statements are not yours to turn. If you find one false, say at which input.
  Laid BY PROGRAM, IN A SANDBOX (cutbox-rows.mjs): the forced cells as the released guide's own fill.sh prints them over the translation ec166df4705da1a9… (all of the seat's roots in one cut). By AI agents, Wed Nov 11 2026. No macro, syntax, notation, axiom, sorry.
-/
import Derived.Test.YtpgbcnbhfgopdaaChecked
import GoSem.Claim
import GoSem.ClaimJoined
import GoSem.ClaimMapViews
import Derived.JoinedTies
import Derived.KernelRfl
namespace Go.Proofs.Ytpgbcnbhfgopdaa
/- THE CELL 'sum', in the pinned program and in every row, IS THE sha256 OF THE DUMP (.gsa) THAT YtpgbcnbhfgopdaaProg.lean LOADS. Nothing in Lean hashes anything: it is a label: what it is worth is what the hold of that sum in a sandbox is worth. -/
noncomputable def Try.pinned : Pinned := { name := "ytpgbcnbhfgopdaa", sum := "ec166df4705da1a914d48b9536c775331b2754062b3e4f49f8fec74254182289", checked := Try.checked }
namespace Rows
def none {H : Type} : Left H := { results := [], args := [] }

/-- 'hasselaw.IdealLattices': WHATEVER THE INPUT: true; the input reads as it did. -/
def idealLatticesSpec : ChangeSpec := { name := "idealLattices", fn := fun _ => fun
  | [d] => { results := [.lit (.bool true)], args := [d] }
  | _ => none }
def idealLatticesRow : OpenClaim := { program := "ytpgbcnbhfgopdaa", sum := "ec166df4705da1a914d48b9536c775331b2754062b3e4f49f8fec74254182289", func := "hasse/hasselaw.IdealLattices", spec := "idealLattices", unfollowed := true, recurses := true, apart := false }
def IdealLatticesSaid : Prop := idealLatticesRow.holds Try.pinned (OpenSpec.ofChange idealLatticesSpec)

/-- ITS FALSE NEIGHBOUR: 'it returns false'. Refute it at one input. -/
def idealLatticesWrong : ChangeSpec := { name := "idealLattices", fn := fun _ => fun
  | [d] => { results := [.lit (.bool false)], args := [d] }
  | _ => none }
def IdealLatticesWrongFalsely : Prop := idealLatticesRow.holds Try.pinned (OpenSpec.ofChange idealLatticesWrong)

/-- 'hasselaw.IdealIrreducible': WHATEVER THE INPUT: true; the input reads as it did. -/
def idealIrreducibleSpec : ChangeSpec := { name := "idealIrreducible", fn := fun _ => fun
  | [d] => { results := [.lit (.bool true)], args := [d] }
  | _ => none }
def idealIrreducibleRow : OpenClaim := { program := "ytpgbcnbhfgopdaa", sum := "ec166df4705da1a914d48b9536c775331b2754062b3e4f49f8fec74254182289", func := "hasse/hasselaw.IdealIrreducible", spec := "idealIrreducible", unfollowed := true, recurses := true, apart := false }
def IdealIrreducibleSaid : Prop := idealIrreducibleRow.holds Try.pinned (OpenSpec.ofChange idealIrreducibleSpec)

/-- ITS FALSE NEIGHBOUR: 'it returns false'. Refute it at one input. -/
def idealIrreducibleWrong : ChangeSpec := { name := "idealIrreducible", fn := fun _ => fun
  | [d] => { results := [.lit (.bool false)], args := [d] }
  | _ => none }
def IdealIrreducibleWrongFalsely : Prop := idealIrreducibleRow.holds Try.pinned (OpenSpec.ofChange idealIrreducibleWrong)

/-- 'hasselaw.IdealPoints': WHATEVER THE INPUT: true; the input reads as it did. -/
def idealPointsSpec : ChangeSpec := { name := "idealPoints", fn := fun _ => fun
  | [d] => { results := [.lit (.bool true)], args := [d] }
  | _ => none }
def idealPointsRow : OpenClaim := { program := "ytpgbcnbhfgopdaa", sum := "ec166df4705da1a914d48b9536c775331b2754062b3e4f49f8fec74254182289", func := "hasse/hasselaw.IdealPoints", spec := "idealPoints", unfollowed := true, recurses := true, apart := false }
def IdealPointsSaid : Prop := idealPointsRow.holds Try.pinned (OpenSpec.ofChange idealPointsSpec)

/-- ITS FALSE NEIGHBOUR: 'it returns false'. Refute it at one input. -/
def idealPointsWrong : ChangeSpec := { name := "idealPoints", fn := fun _ => fun
  | [d] => { results := [.lit (.bool false)], args := [d] }
  | _ => none }
def IdealPointsWrongFalsely : Prop := idealPointsRow.holds Try.pinned (OpenSpec.ofChange idealPointsWrong)

/-- 'hasselaw.IdealSets': WHATEVER THE INPUT: true; the input reads as it did. -/
def idealSetsSpec : ChangeSpec := { name := "idealSets", fn := fun _ => fun
  | [d1, d2] => { results := [.lit (.bool true)], args := [d1, d2] }
  | _ => none }
def idealSetsRow : OpenClaim := { program := "ytpgbcnbhfgopdaa", sum := "ec166df4705da1a914d48b9536c775331b2754062b3e4f49f8fec74254182289", func := "hasse/hasselaw.IdealSets", spec := "idealSets", unfollowed := true, recurses := true, apart := false }
def IdealSetsSaid : Prop := idealSetsRow.holds Try.pinned (OpenSpec.ofChange idealSetsSpec)

/-- ITS FALSE NEIGHBOUR: 'it returns false'. Refute it at one input. -/
def idealSetsWrong : ChangeSpec := { name := "idealSets", fn := fun _ => fun
  | [d1, d2] => { results := [.lit (.bool false)], args := [d1, d2] }
  | _ => none }
def IdealSetsWrongFalsely : Prop := idealSetsRow.holds Try.pinned (OpenSpec.ofChange idealSetsWrong)

/-- 'hasselaw.IdealBack': WHATEVER THE INPUT: true; the input reads as it did. -/
def idealBackSpec : ChangeSpec := { name := "idealBack", fn := fun _ => fun
  | [d] => { results := [.lit (.bool true)], args := [d] }
  | _ => none }
def idealBackRow : OpenClaim := { program := "ytpgbcnbhfgopdaa", sum := "ec166df4705da1a914d48b9536c775331b2754062b3e4f49f8fec74254182289", func := "hasse/hasselaw.IdealBack", spec := "idealBack", unfollowed := true, recurses := true, apart := false }
def IdealBackSaid : Prop := idealBackRow.holds Try.pinned (OpenSpec.ofChange idealBackSpec)

/-- ITS FALSE NEIGHBOUR: 'it returns false'. Refute it at one input. -/
def idealBackWrong : ChangeSpec := { name := "idealBack", fn := fun _ => fun
  | [d] => { results := [.lit (.bool false)], args := [d] }
  | _ => none }
def IdealBackWrongFalsely : Prop := idealBackRow.holds Try.pinned (OpenSpec.ofChange idealBackWrong)

/-- 'hasselaw.IdealBirkhoff': WHATEVER THE INPUT: true; the input reads as it did. -/
def idealBirkhoffSpec : ChangeSpec := { name := "idealBirkhoff", fn := fun _ => fun
  | [d] => { results := [.lit (.bool true)], args := [d] }
  | _ => none }
def idealBirkhoffRow : OpenClaim := { program := "ytpgbcnbhfgopdaa", sum := "ec166df4705da1a914d48b9536c775331b2754062b3e4f49f8fec74254182289", func := "hasse/hasselaw.IdealBirkhoff", spec := "idealBirkhoff", unfollowed := true, recurses := true, apart := false }
def IdealBirkhoffSaid : Prop := idealBirkhoffRow.holds Try.pinned (OpenSpec.ofChange idealBirkhoffSpec)

/-- ITS FALSE NEIGHBOUR: 'it returns false'. Refute it at one input. -/
def idealBirkhoffWrong : ChangeSpec := { name := "idealBirkhoff", fn := fun _ => fun
  | [d] => { results := [.lit (.bool false)], args := [d] }
  | _ => none }
def IdealBirkhoffWrongFalsely : Prop := idealBirkhoffRow.holds Try.pinned (OpenSpec.ofChange idealBirkhoffWrong)

/- THE SECOND FORM. 'bulk': how many values and letters a reading holds, each counted each time it is reached (what is shared counts as often as it is met; a slice's spare places count too). A statement '..UptoSaid' is the law's where the arguments, and the package variables that the reading takes, are together of bulk at most 1048576: NARROWER than '..Said'. Prove '..Said' where nothing that the law and all that it calls make is longer than what came in: it says more and counts as full. Else prove '..UptoSaid'. A law counts once. -/
mutual
def uptoBulk {H : Type} : DataW H → Nat
  | .lit (.string bytes) => bytes.length + 1
  | .lit _ => 1
  | .nil => 1
  | .ptr d => uptoBulk d + 1
  | .slice elems spare => uptoBulkAll elems + uptoBulkAll spare + 1
  | .agg parts => uptoBulkAll parts + 1
  | .iface _ d => uptoBulk d + 1
  | .map entries => uptoBulkEntries entries + 1
  | .held _ => 1
def uptoBulkAll {H : Type} : List (DataW H) → Nat
  | [] => 0
  | d :: r => uptoBulk d + uptoBulkAll r
def uptoBulkEntries {H : Type} : List (Lit × DataW H) → Nat
  | [] => 0
  | x :: r => uptoBulkEntry x + uptoBulkEntries r
def uptoBulkEntry {H : Type} : Lit × DataW H → Nat
  | (.string bytes, d) => bytes.length + uptoBulk d + 1
  | (_, d) => uptoBulk d + 1
 end
def uptoSmall : (H : Type) → List (DataW H) → Bool := fun _ ds => decide (uptoBulkAll ds ≤ 1048576)
def OpenSpec.upto (s : _root_.Go.ChangeSpec) : _root_.Go.OpenSpec := { _root_.Go.OpenSpec.ofChange s with cond := some uptoSmall }

/-- 'hasselaw.IdealLattices', WHERE WHAT IT READS IS OF BULK AT MOST 1048576: true; the input reads as it did. -/
def idealLatticesUptoRow : OpenClaim := { program := "ytpgbcnbhfgopdaa", sum := "ec166df4705da1a914d48b9536c775331b2754062b3e4f49f8fec74254182289", func := "hasse/hasselaw.IdealLattices", spec := "idealLattices", unfollowed := true, recurses := true, apart := false, narrowed := true }
def IdealLatticesUptoSaid : Prop := idealLatticesUptoRow.holds Try.pinned (OpenSpec.upto idealLatticesSpec)

/-- 'hasselaw.IdealIrreducible', WHERE WHAT IT READS IS OF BULK AT MOST 1048576: true; the input reads as it did. -/
def idealIrreducibleUptoRow : OpenClaim := { program := "ytpgbcnbhfgopdaa", sum := "ec166df4705da1a914d48b9536c775331b2754062b3e4f49f8fec74254182289", func := "hasse/hasselaw.IdealIrreducible", spec := "idealIrreducible", unfollowed := true, recurses := true, apart := false, narrowed := true }
def IdealIrreducibleUptoSaid : Prop := idealIrreducibleUptoRow.holds Try.pinned (OpenSpec.upto idealIrreducibleSpec)

/-- 'hasselaw.IdealPoints', WHERE WHAT IT READS IS OF BULK AT MOST 1048576: true; the input reads as it did. -/
def idealPointsUptoRow : OpenClaim := { program := "ytpgbcnbhfgopdaa", sum := "ec166df4705da1a914d48b9536c775331b2754062b3e4f49f8fec74254182289", func := "hasse/hasselaw.IdealPoints", spec := "idealPoints", unfollowed := true, recurses := true, apart := false, narrowed := true }
def IdealPointsUptoSaid : Prop := idealPointsUptoRow.holds Try.pinned (OpenSpec.upto idealPointsSpec)

/-- 'hasselaw.IdealSets', WHERE WHAT IT READS IS OF BULK AT MOST 1048576: true; the input reads as it did. -/
def idealSetsUptoRow : OpenClaim := { program := "ytpgbcnbhfgopdaa", sum := "ec166df4705da1a914d48b9536c775331b2754062b3e4f49f8fec74254182289", func := "hasse/hasselaw.IdealSets", spec := "idealSets", unfollowed := true, recurses := true, apart := false, narrowed := true }
def IdealSetsUptoSaid : Prop := idealSetsUptoRow.holds Try.pinned (OpenSpec.upto idealSetsSpec)

/-- 'hasselaw.IdealBack', WHERE WHAT IT READS IS OF BULK AT MOST 1048576: true; the input reads as it did. -/
def idealBackUptoRow : OpenClaim := { program := "ytpgbcnbhfgopdaa", sum := "ec166df4705da1a914d48b9536c775331b2754062b3e4f49f8fec74254182289", func := "hasse/hasselaw.IdealBack", spec := "idealBack", unfollowed := true, recurses := true, apart := false, narrowed := true }
def IdealBackUptoSaid : Prop := idealBackUptoRow.holds Try.pinned (OpenSpec.upto idealBackSpec)

/-- 'hasselaw.IdealBirkhoff', WHERE WHAT IT READS IS OF BULK AT MOST 1048576: true; the input reads as it did. -/
def idealBirkhoffUptoRow : OpenClaim := { program := "ytpgbcnbhfgopdaa", sum := "ec166df4705da1a914d48b9536c775331b2754062b3e4f49f8fec74254182289", func := "hasse/hasselaw.IdealBirkhoff", spec := "idealBirkhoff", unfollowed := true, recurses := true, apart := false, narrowed := true }
def IdealBirkhoffUptoSaid : Prop := idealBirkhoffUptoRow.holds Try.pinned (OpenSpec.upto idealBirkhoffSpec)

end Rows
end Go.Proofs.Ytpgbcnbhfgopdaa
