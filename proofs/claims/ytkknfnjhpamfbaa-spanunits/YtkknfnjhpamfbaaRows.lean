/-
  No cell of these rows narrows 'for every input' (looked for: loops, veiled, ifaces, maps, wideKeys, modest, calm, conditions, laid).
  DERIVED. THE GIVEN ROWS OF THIS SEAT. 6 by the template 'for every input the law returns true; each argument reads behind the call as it read before'; 0 by the template 'total and deterministic' (their statements: YtkknfnjhpamfbaaTotals.lean).
  GIVEN WITH THE SEED: the statements are not yours to turn. If you find one false, say at which input.
  Laid BY PROGRAM, IN A SANDBOX (cutbox-rows.mjs): the forced cells as the released guide's own fill.sh prints them over the translation 97bc613f9f7bfe0f… (all of the seat's roots in one cut). By AI agents, Wed Nov 11 2026. No macro, syntax, notation, axiom, sorry.
-/
import Derived.Test.YtkknfnjhpamfbaaChecked
import GoSem.Claim
import GoSem.ClaimJoined
import GoSem.ClaimMapViews
import Derived.JoinedTies
import Derived.KernelRfl
namespace Go.Proofs.Ytkknfnjhpamfbaa
/- THE CELL 'sum', in the pinned program and in every row, IS THE sha256 OF THE DUMP (.gsa) THAT YtkknfnjhpamfbaaProg.lean LOADS. Nothing in Lean hashes anything: it is a label: what it is worth is what the hold of that sum in a sandbox is worth. -/
noncomputable def Try.pinned : Pinned := { name := "ytkknfnjhpamfbaa", sum := "97bc613f9f7bfe0fb568ae39c759be6cf4dfb91da649888515103fa0f40fe177", checked := Try.checked }
namespace Rows
def none {H : Type} : Left H := { results := [], args := [] }

/-- 'hasselaw.SpanOf': WHATEVER THE INPUT: true; the input reads as it did. -/
def spanOfSpec : ChangeSpec := { name := "spanOf", fn := fun _ => fun
  | [d] => { results := [.lit (.bool true)], args := [d] }
  | _ => none }
def spanOfRow : OpenClaim := { program := "ytkknfnjhpamfbaa", sum := "97bc613f9f7bfe0fb568ae39c759be6cf4dfb91da649888515103fa0f40fe177", func := "hasse/hasselaw.SpanOf", spec := "spanOf", unfollowed := true, recurses := true, apart := false }
def SpanOfSaid : Prop := spanOfRow.holds Try.pinned (OpenSpec.ofChange spanOfSpec)

/-- ITS FALSE NEIGHBOUR: 'it returns false'. Refute it at one input. -/
def spanOfWrong : ChangeSpec := { name := "spanOf", fn := fun _ => fun
  | [d] => { results := [.lit (.bool false)], args := [d] }
  | _ => none }
def SpanOfWrongFalsely : Prop := spanOfRow.holds Try.pinned (OpenSpec.ofChange spanOfWrong)

/-- 'hasselaw.SpanSpans': WHATEVER THE INPUT: true; the input reads as it did. -/
def spanSpansSpec : ChangeSpec := { name := "spanSpans", fn := fun _ => fun
  | [d] => { results := [.lit (.bool true)], args := [d] }
  | _ => none }
def spanSpansRow : OpenClaim := { program := "ytkknfnjhpamfbaa", sum := "97bc613f9f7bfe0fb568ae39c759be6cf4dfb91da649888515103fa0f40fe177", func := "hasse/hasselaw.SpanSpans", spec := "spanSpans", unfollowed := true, recurses := true, apart := false }
def SpanSpansSaid : Prop := spanSpansRow.holds Try.pinned (OpenSpec.ofChange spanSpansSpec)

/-- ITS FALSE NEIGHBOUR: 'it returns false'. Refute it at one input. -/
def spanSpansWrong : ChangeSpec := { name := "spanSpans", fn := fun _ => fun
  | [d] => { results := [.lit (.bool false)], args := [d] }
  | _ => none }
def SpanSpansWrongFalsely : Prop := spanSpansRow.holds Try.pinned (OpenSpec.ofChange spanSpansWrong)

/-- 'hasselaw.SpanTwo': WHATEVER THE INPUT: true; the input reads as it did. -/
def spanTwoSpec : ChangeSpec := { name := "spanTwo", fn := fun _ => fun
  | [d] => { results := [.lit (.bool true)], args := [d] }
  | _ => none }
def spanTwoRow : OpenClaim := { program := "ytkknfnjhpamfbaa", sum := "97bc613f9f7bfe0fb568ae39c759be6cf4dfb91da649888515103fa0f40fe177", func := "hasse/hasselaw.SpanTwo", spec := "spanTwo", unfollowed := true, recurses := true, apart := false }
def SpanTwoSaid : Prop := spanTwoRow.holds Try.pinned (OpenSpec.ofChange spanTwoSpec)

/-- ITS FALSE NEIGHBOUR: 'it returns false'. Refute it at one input. -/
def spanTwoWrong : ChangeSpec := { name := "spanTwo", fn := fun _ => fun
  | [d] => { results := [.lit (.bool false)], args := [d] }
  | _ => none }
def SpanTwoWrongFalsely : Prop := spanTwoRow.holds Try.pinned (OpenSpec.ofChange spanTwoWrong)

/-- 'hasselaw.SpanThree': WHATEVER THE INPUT: true; the input reads as it did. -/
def spanThreeSpec : ChangeSpec := { name := "spanThree", fn := fun _ => fun
  | [d] => { results := [.lit (.bool true)], args := [d] }
  | _ => none }
def spanThreeRow : OpenClaim := { program := "ytkknfnjhpamfbaa", sum := "97bc613f9f7bfe0fb568ae39c759be6cf4dfb91da649888515103fa0f40fe177", func := "hasse/hasselaw.SpanThree", spec := "spanThree", unfollowed := true, recurses := true, apart := false }
def SpanThreeSaid : Prop := spanThreeRow.holds Try.pinned (OpenSpec.ofChange spanThreeSpec)

/-- ITS FALSE NEIGHBOUR: 'it returns false'. Refute it at one input. -/
def spanThreeWrong : ChangeSpec := { name := "spanThree", fn := fun _ => fun
  | [d] => { results := [.lit (.bool false)], args := [d] }
  | _ => none }
def SpanThreeWrongFalsely : Prop := spanThreeRow.holds Try.pinned (OpenSpec.ofChange spanThreeWrong)

/-- 'hasselaw.SpanUnits': WHATEVER THE INPUT: true; the input reads as it did. -/
def spanUnitsSpec : ChangeSpec := { name := "spanUnits", fn := fun _ => fun
  | [d] => { results := [.lit (.bool true)], args := [d] }
  | _ => none }
def spanUnitsRow : OpenClaim := { program := "ytkknfnjhpamfbaa", sum := "97bc613f9f7bfe0fb568ae39c759be6cf4dfb91da649888515103fa0f40fe177", func := "hasse/hasselaw.SpanUnits", spec := "spanUnits", unfollowed := true, recurses := true, apart := false }
def SpanUnitsSaid : Prop := spanUnitsRow.holds Try.pinned (OpenSpec.ofChange spanUnitsSpec)

/-- ITS FALSE NEIGHBOUR: 'it returns false'. Refute it at one input. -/
def spanUnitsWrong : ChangeSpec := { name := "spanUnits", fn := fun _ => fun
  | [d] => { results := [.lit (.bool false)], args := [d] }
  | _ => none }
def SpanUnitsWrongFalsely : Prop := spanUnitsRow.holds Try.pinned (OpenSpec.ofChange spanUnitsWrong)

/-- 'hasselaw.SpanFishburn': WHATEVER THE INPUT: true; the input reads as it did. -/
def spanFishburnSpec : ChangeSpec := { name := "spanFishburn", fn := fun _ => fun
  | [d1, d2] => { results := [.lit (.bool true)], args := [d1, d2] }
  | _ => none }
def spanFishburnRow : OpenClaim := { program := "ytkknfnjhpamfbaa", sum := "97bc613f9f7bfe0fb568ae39c759be6cf4dfb91da649888515103fa0f40fe177", func := "hasse/hasselaw.SpanFishburn", spec := "spanFishburn", unfollowed := true, recurses := true, apart := false }
def SpanFishburnSaid : Prop := spanFishburnRow.holds Try.pinned (OpenSpec.ofChange spanFishburnSpec)

/-- ITS FALSE NEIGHBOUR: 'it returns false'. Refute it at one input. -/
def spanFishburnWrong : ChangeSpec := { name := "spanFishburn", fn := fun _ => fun
  | [d1, d2] => { results := [.lit (.bool false)], args := [d1, d2] }
  | _ => none }
def SpanFishburnWrongFalsely : Prop := spanFishburnRow.holds Try.pinned (OpenSpec.ofChange spanFishburnWrong)

/- THE SECOND FORM. 'bulk': how many values and letters a reading holds, each counted each time it is reached (what is shared counts as often as it is met; a slice's spare places count too). A statement '..UptoSaid' is the law's where the arguments, and the package variables that the reading takes, are together of bulk at most 1048576: NARROWER than '..Said'. Prove '..Said' where nothing that the law and all that it calls make is longer than what came in: it says more and counts as full. Else prove '..UptoSaid'. A law counts once. -/
mutual
def uptoBulk {H : Type} : DataW H → Nat
  | .lit (.string bytes) => bytes.length + 1
  | .lit _ => 1
  | .nil => 1
  | .ptr d => uptoBulk d + 1
  | .slice elems spare => uptoBulkAll elems + uptoBulkAll spare + 1
  | .agg parts => uptoBulkAll parts + 1
  | .iface _ d => uptoBulk d + 1
  | .map entries => uptoBulkEntries entries + 1
  | .held _ => 1
def uptoBulkAll {H : Type} : List (DataW H) → Nat
  | [] => 0
  | d :: r => uptoBulk d + uptoBulkAll r
def uptoBulkEntries {H : Type} : List (Lit × DataW H) → Nat
  | [] => 0
  | x :: r => uptoBulkEntry x + uptoBulkEntries r
def uptoBulkEntry {H : Type} : Lit × DataW H → Nat
  | (.string bytes, d) => bytes.length + uptoBulk d + 1
  | (_, d) => uptoBulk d + 1
 end
def uptoSmall : (H : Type) → List (DataW H) → Bool := fun _ ds => decide (uptoBulkAll ds ≤ 1048576)
def OpenSpec.upto (s : _root_.Go.ChangeSpec) : _root_.Go.OpenSpec := { _root_.Go.OpenSpec.ofChange s with cond := some uptoSmall }

/-- 'hasselaw.SpanOf', WHERE WHAT IT READS IS OF BULK AT MOST 1048576: true; the input reads as it did. -/
def spanOfUptoRow : OpenClaim := { program := "ytkknfnjhpamfbaa", sum := "97bc613f9f7bfe0fb568ae39c759be6cf4dfb91da649888515103fa0f40fe177", func := "hasse/hasselaw.SpanOf", spec := "spanOf", unfollowed := true, recurses := true, apart := false, narrowed := true }
def SpanOfUptoSaid : Prop := spanOfUptoRow.holds Try.pinned (OpenSpec.upto spanOfSpec)

/-- 'hasselaw.SpanSpans', WHERE WHAT IT READS IS OF BULK AT MOST 1048576: true; the input reads as it did. -/
def spanSpansUptoRow : OpenClaim := { program := "ytkknfnjhpamfbaa", sum := "97bc613f9f7bfe0fb568ae39c759be6cf4dfb91da649888515103fa0f40fe177", func := "hasse/hasselaw.SpanSpans", spec := "spanSpans", unfollowed := true, recurses := true, apart := false, narrowed := true }
def SpanSpansUptoSaid : Prop := spanSpansUptoRow.holds Try.pinned (OpenSpec.upto spanSpansSpec)

/-- 'hasselaw.SpanTwo', WHERE WHAT IT READS IS OF BULK AT MOST 1048576: true; the input reads as it did. -/
def spanTwoUptoRow : OpenClaim := { program := "ytkknfnjhpamfbaa", sum := "97bc613f9f7bfe0fb568ae39c759be6cf4dfb91da649888515103fa0f40fe177", func := "hasse/hasselaw.SpanTwo", spec := "spanTwo", unfollowed := true, recurses := true, apart := false, narrowed := true }
def SpanTwoUptoSaid : Prop := spanTwoUptoRow.holds Try.pinned (OpenSpec.upto spanTwoSpec)

/-- 'hasselaw.SpanThree', WHERE WHAT IT READS IS OF BULK AT MOST 1048576: true; the input reads as it did. -/
def spanThreeUptoRow : OpenClaim := { program := "ytkknfnjhpamfbaa", sum := "97bc613f9f7bfe0fb568ae39c759be6cf4dfb91da649888515103fa0f40fe177", func := "hasse/hasselaw.SpanThree", spec := "spanThree", unfollowed := true, recurses := true, apart := false, narrowed := true }
def SpanThreeUptoSaid : Prop := spanThreeUptoRow.holds Try.pinned (OpenSpec.upto spanThreeSpec)

/-- 'hasselaw.SpanUnits', WHERE WHAT IT READS IS OF BULK AT MOST 1048576: true; the input reads as it did. -/
def spanUnitsUptoRow : OpenClaim := { program := "ytkknfnjhpamfbaa", sum := "97bc613f9f7bfe0fb568ae39c759be6cf4dfb91da649888515103fa0f40fe177", func := "hasse/hasselaw.SpanUnits", spec := "spanUnits", unfollowed := true, recurses := true, apart := false, narrowed := true }
def SpanUnitsUptoSaid : Prop := spanUnitsUptoRow.holds Try.pinned (OpenSpec.upto spanUnitsSpec)

/-- 'hasselaw.SpanFishburn', WHERE WHAT IT READS IS OF BULK AT MOST 1048576: true; the input reads as it did. -/
def spanFishburnUptoRow : OpenClaim := { program := "ytkknfnjhpamfbaa", sum := "97bc613f9f7bfe0fb568ae39c759be6cf4dfb91da649888515103fa0f40fe177", func := "hasse/hasselaw.SpanFishburn", spec := "spanFishburn", unfollowed := true, recurses := true, apart := false, narrowed := true }
def SpanFishburnUptoSaid : Prop := spanFishburnUptoRow.holds Try.pinned (OpenSpec.upto spanFishburnSpec)

end Rows
end Go.Proofs.Ytkknfnjhpamfbaa
