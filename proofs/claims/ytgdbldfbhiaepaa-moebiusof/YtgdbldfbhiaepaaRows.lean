/-
  No cell of these rows narrows 'for every input' (looked for: loops, veiled, ifaces, maps, wideKeys, modest, calm, conditions, laid).
  DERIVED. THE GIVEN ROWS OF THIS SEAT. 6 by the template 'for every input the law returns true; each argument reads behind the call as it read before'; 0 by the template 'total and deterministic' (their statements: YtgdbldfbhiaepaaTotals.lean).
  GIVEN WITH THE SEED: the statements are not yours to turn. If you find one false, say at which input.
  Laid BY PROGRAM, IN A SANDBOX (cutbox-rows.mjs): the forced cells as the released guide's own fill.sh prints them over the translation e3b666c3b090e2de… (all of the seat's roots in one cut). By AI agents, Wed Nov 11 2026. No macro, syntax, notation, axiom, sorry.
-/
import Derived.Test.YtgdbldfbhiaepaaChecked
import GoSem.Claim
import GoSem.ClaimJoined
import GoSem.ClaimMapViews
import Derived.JoinedTies
import Derived.KernelRfl
namespace Go.Proofs.Ytgdbldfbhiaepaa
/- THE CELL 'sum', in the pinned program and in every row, IS THE sha256 OF THE DUMP (.gsa) THAT YtgdbldfbhiaepaaProg.lean LOADS. Nothing in Lean hashes anything: it is a label: what it is worth is what the hold of that sum in a sandbox is worth. -/
noncomputable def Try.pinned : Pinned := { name := "ytgdbldfbhiaepaa", sum := "e3b666c3b090e2de2596db5fa39aed8dda48c6a8d5e76f3e5283b5d4219f71b8", checked := Try.checked }
namespace Rows
def none {H : Type} : Left H := { results := [], args := [] }

/-- 'hasselaw.MoebiusMu': WHATEVER THE INPUT: true; the input reads as it did. -/
def moebiusMuSpec : ChangeSpec := { name := "moebiusMu", fn := fun _ => fun
  | [d1, d2, d3] => { results := [.lit (.bool true)], args := [d1, d2, d3] }
  | _ => none }
def moebiusMuRow : OpenClaim := { program := "ytgdbldfbhiaepaa", sum := "e3b666c3b090e2de2596db5fa39aed8dda48c6a8d5e76f3e5283b5d4219f71b8", func := "hasse/hasselaw.MoebiusMu", spec := "moebiusMu", unfollowed := true, recurses := true, apart := false }
def MoebiusMuSaid : Prop := moebiusMuRow.holds Try.pinned (OpenSpec.ofChange moebiusMuSpec)

/-- ITS FALSE NEIGHBOUR: 'it returns false'. Refute it at one input. -/
def moebiusMuWrong : ChangeSpec := { name := "moebiusMu", fn := fun _ => fun
  | [d1, d2, d3] => { results := [.lit (.bool false)], args := [d1, d2, d3] }
  | _ => none }
def MoebiusMuWrongFalsely : Prop := moebiusMuRow.holds Try.pinned (OpenSpec.ofChange moebiusMuWrong)

/-- 'hasselaw.MoebiusOf': WHATEVER THE INPUT: true; the input reads as it did. -/
def moebiusOfSpec : ChangeSpec := { name := "moebiusOf", fn := fun _ => fun
  | [d1, d2, d3] => { results := [.lit (.bool true)], args := [d1, d2, d3] }
  | _ => none }
def moebiusOfRow : OpenClaim := { program := "ytgdbldfbhiaepaa", sum := "e3b666c3b090e2de2596db5fa39aed8dda48c6a8d5e76f3e5283b5d4219f71b8", func := "hasse/hasselaw.MoebiusOf", spec := "moebiusOf", unfollowed := true, recurses := true, apart := false }
def MoebiusOfSaid : Prop := moebiusOfRow.holds Try.pinned (OpenSpec.ofChange moebiusOfSpec)

/-- ITS FALSE NEIGHBOUR: 'it returns false'. Refute it at one input. -/
def moebiusOfWrong : ChangeSpec := { name := "moebiusOf", fn := fun _ => fun
  | [d1, d2, d3] => { results := [.lit (.bool false)], args := [d1, d2, d3] }
  | _ => none }
def MoebiusOfWrongFalsely : Prop := moebiusOfRow.holds Try.pinned (OpenSpec.ofChange moebiusOfWrong)

/-- 'hasselaw.MoebiusSums': WHATEVER THE INPUT: true; the input reads as it did. -/
def moebiusSumsSpec : ChangeSpec := { name := "moebiusSums", fn := fun _ => fun
  | [d1, d2] => { results := [.lit (.bool true)], args := [d1, d2] }
  | _ => none }
def moebiusSumsRow : OpenClaim := { program := "ytgdbldfbhiaepaa", sum := "e3b666c3b090e2de2596db5fa39aed8dda48c6a8d5e76f3e5283b5d4219f71b8", func := "hasse/hasselaw.MoebiusSums", spec := "moebiusSums", unfollowed := true, recurses := true, apart := false }
def MoebiusSumsSaid : Prop := moebiusSumsRow.holds Try.pinned (OpenSpec.ofChange moebiusSumsSpec)

/-- ITS FALSE NEIGHBOUR: 'it returns false'. Refute it at one input. -/
def moebiusSumsWrong : ChangeSpec := { name := "moebiusSums", fn := fun _ => fun
  | [d1, d2] => { results := [.lit (.bool false)], args := [d1, d2] }
  | _ => none }
def MoebiusSumsWrongFalsely : Prop := moebiusSumsRow.holds Try.pinned (OpenSpec.ofChange moebiusSumsWrong)

/-- 'hasselaw.MoebiusUndo': WHATEVER THE INPUT: true; the input reads as it did. -/
def moebiusUndoSpec : ChangeSpec := { name := "moebiusUndo", fn := fun _ => fun
  | [d1, d2] => { results := [.lit (.bool true)], args := [d1, d2] }
  | _ => none }
def moebiusUndoRow : OpenClaim := { program := "ytgdbldfbhiaepaa", sum := "e3b666c3b090e2de2596db5fa39aed8dda48c6a8d5e76f3e5283b5d4219f71b8", func := "hasse/hasselaw.MoebiusUndo", spec := "moebiusUndo", unfollowed := true, recurses := true, apart := false }
def MoebiusUndoSaid : Prop := moebiusUndoRow.holds Try.pinned (OpenSpec.ofChange moebiusUndoSpec)

/-- ITS FALSE NEIGHBOUR: 'it returns false'. Refute it at one input. -/
def moebiusUndoWrong : ChangeSpec := { name := "moebiusUndo", fn := fun _ => fun
  | [d1, d2] => { results := [.lit (.bool false)], args := [d1, d2] }
  | _ => none }
def MoebiusUndoWrongFalsely : Prop := moebiusUndoRow.holds Try.pinned (OpenSpec.ofChange moebiusUndoWrong)

/-- 'hasselaw.MoebiusEuler': WHATEVER THE INPUT: true; the input reads as it did. -/
def moebiusEulerSpec : ChangeSpec := { name := "moebiusEuler", fn := fun _ => fun
  | [d] => { results := [.lit (.bool true)], args := [d] }
  | _ => none }
def moebiusEulerRow : OpenClaim := { program := "ytgdbldfbhiaepaa", sum := "e3b666c3b090e2de2596db5fa39aed8dda48c6a8d5e76f3e5283b5d4219f71b8", func := "hasse/hasselaw.MoebiusEuler", spec := "moebiusEuler", unfollowed := true, recurses := true, apart := false }
def MoebiusEulerSaid : Prop := moebiusEulerRow.holds Try.pinned (OpenSpec.ofChange moebiusEulerSpec)

/-- ITS FALSE NEIGHBOUR: 'it returns false'. Refute it at one input. -/
def moebiusEulerWrong : ChangeSpec := { name := "moebiusEuler", fn := fun _ => fun
  | [d] => { results := [.lit (.bool false)], args := [d] }
  | _ => none }
def MoebiusEulerWrongFalsely : Prop := moebiusEulerRow.holds Try.pinned (OpenSpec.ofChange moebiusEulerWrong)

/-- 'hasselaw.MoebiusInverts': WHATEVER THE INPUT: true; the input reads as it did. -/
def moebiusInvertsSpec : ChangeSpec := { name := "moebiusInverts", fn := fun _ => fun
  | [d1, d2] => { results := [.lit (.bool true)], args := [d1, d2] }
  | _ => none }
def moebiusInvertsRow : OpenClaim := { program := "ytgdbldfbhiaepaa", sum := "e3b666c3b090e2de2596db5fa39aed8dda48c6a8d5e76f3e5283b5d4219f71b8", func := "hasse/hasselaw.MoebiusInverts", spec := "moebiusInverts", unfollowed := true, recurses := true, apart := false }
def MoebiusInvertsSaid : Prop := moebiusInvertsRow.holds Try.pinned (OpenSpec.ofChange moebiusInvertsSpec)

/-- ITS FALSE NEIGHBOUR: 'it returns false'. Refute it at one input. -/
def moebiusInvertsWrong : ChangeSpec := { name := "moebiusInverts", fn := fun _ => fun
  | [d1, d2] => { results := [.lit (.bool false)], args := [d1, d2] }
  | _ => none }
def MoebiusInvertsWrongFalsely : Prop := moebiusInvertsRow.holds Try.pinned (OpenSpec.ofChange moebiusInvertsWrong)

/- THE SECOND FORM. 'bulk': how many values and letters a reading holds, each counted each time it is reached (what is shared counts as often as it is met; a slice's spare places count too). A statement '..UptoSaid' is the law's where the arguments, and the package variables that the reading takes, are together of bulk at most 1048576: NARROWER than '..Said'. Prove '..Said' where nothing that the law and all that it calls make is longer than what came in: it says more and counts as full. Else prove '..UptoSaid'. A law counts once. -/
mutual
def uptoBulk {H : Type} : DataW H → Nat
  | .lit (.string bytes) => bytes.length + 1
  | .lit _ => 1
  | .nil => 1
  | .ptr d => uptoBulk d + 1
  | .slice elems spare => uptoBulkAll elems + uptoBulkAll spare + 1
  | .agg parts => uptoBulkAll parts + 1
  | .iface _ d => uptoBulk d + 1
  | .map entries => uptoBulkEntries entries + 1
  | .held _ => 1
def uptoBulkAll {H : Type} : List (DataW H) → Nat
  | [] => 0
  | d :: r => uptoBulk d + uptoBulkAll r
def uptoBulkEntries {H : Type} : List (Lit × DataW H) → Nat
  | [] => 0
  | x :: r => uptoBulkEntry x + uptoBulkEntries r
def uptoBulkEntry {H : Type} : Lit × DataW H → Nat
  | (.string bytes, d) => bytes.length + uptoBulk d + 1
  | (_, d) => uptoBulk d + 1
 end
def uptoSmall : (H : Type) → List (DataW H) → Bool := fun _ ds => decide (uptoBulkAll ds ≤ 1048576)
def OpenSpec.upto (s : _root_.Go.ChangeSpec) : _root_.Go.OpenSpec := { _root_.Go.OpenSpec.ofChange s with cond := some uptoSmall }

/-- 'hasselaw.MoebiusMu', WHERE WHAT IT READS IS OF BULK AT MOST 1048576: true; the input reads as it did. -/
def moebiusMuUptoRow : OpenClaim := { program := "ytgdbldfbhiaepaa", sum := "e3b666c3b090e2de2596db5fa39aed8dda48c6a8d5e76f3e5283b5d4219f71b8", func := "hasse/hasselaw.MoebiusMu", spec := "moebiusMu", unfollowed := true, recurses := true, apart := false, narrowed := true }
def MoebiusMuUptoSaid : Prop := moebiusMuUptoRow.holds Try.pinned (OpenSpec.upto moebiusMuSpec)

/-- 'hasselaw.MoebiusOf', WHERE WHAT IT READS IS OF BULK AT MOST 1048576: true; the input reads as it did. -/
def moebiusOfUptoRow : OpenClaim := { program := "ytgdbldfbhiaepaa", sum := "e3b666c3b090e2de2596db5fa39aed8dda48c6a8d5e76f3e5283b5d4219f71b8", func := "hasse/hasselaw.MoebiusOf", spec := "moebiusOf", unfollowed := true, recurses := true, apart := false, narrowed := true }
def MoebiusOfUptoSaid : Prop := moebiusOfUptoRow.holds Try.pinned (OpenSpec.upto moebiusOfSpec)

/-- 'hasselaw.MoebiusSums', WHERE WHAT IT READS IS OF BULK AT MOST 1048576: true; the input reads as it did. -/
def moebiusSumsUptoRow : OpenClaim := { program := "ytgdbldfbhiaepaa", sum := "e3b666c3b090e2de2596db5fa39aed8dda48c6a8d5e76f3e5283b5d4219f71b8", func := "hasse/hasselaw.MoebiusSums", spec := "moebiusSums", unfollowed := true, recurses := true, apart := false, narrowed := true }
def MoebiusSumsUptoSaid : Prop := moebiusSumsUptoRow.holds Try.pinned (OpenSpec.upto moebiusSumsSpec)

/-- 'hasselaw.MoebiusUndo', WHERE WHAT IT READS IS OF BULK AT MOST 1048576: true; the input reads as it did. -/
def moebiusUndoUptoRow : OpenClaim := { program := "ytgdbldfbhiaepaa", sum := "e3b666c3b090e2de2596db5fa39aed8dda48c6a8d5e76f3e5283b5d4219f71b8", func := "hasse/hasselaw.MoebiusUndo", spec := "moebiusUndo", unfollowed := true, recurses := true, apart := false, narrowed := true }
def MoebiusUndoUptoSaid : Prop := moebiusUndoUptoRow.holds Try.pinned (OpenSpec.upto moebiusUndoSpec)

/-- 'hasselaw.MoebiusEuler', WHERE WHAT IT READS IS OF BULK AT MOST 1048576: true; the input reads as it did. -/
def moebiusEulerUptoRow : OpenClaim := { program := "ytgdbldfbhiaepaa", sum := "e3b666c3b090e2de2596db5fa39aed8dda48c6a8d5e76f3e5283b5d4219f71b8", func := "hasse/hasselaw.MoebiusEuler", spec := "moebiusEuler", unfollowed := true, recurses := true, apart := false, narrowed := true }
def MoebiusEulerUptoSaid : Prop := moebiusEulerUptoRow.holds Try.pinned (OpenSpec.upto moebiusEulerSpec)

/-- 'hasselaw.MoebiusInverts', WHERE WHAT IT READS IS OF BULK AT MOST 1048576: true; the input reads as it did. -/
def moebiusInvertsUptoRow : OpenClaim := { program := "ytgdbldfbhiaepaa", sum := "e3b666c3b090e2de2596db5fa39aed8dda48c6a8d5e76f3e5283b5d4219f71b8", func := "hasse/hasselaw.MoebiusInverts", spec := "moebiusInverts", unfollowed := true, recurses := true, apart := false, narrowed := true }
def MoebiusInvertsUptoSaid : Prop := moebiusInvertsUptoRow.holds Try.pinned (OpenSpec.upto moebiusInvertsSpec)

end Rows
end Go.Proofs.Ytgdbldfbhiaepaa
