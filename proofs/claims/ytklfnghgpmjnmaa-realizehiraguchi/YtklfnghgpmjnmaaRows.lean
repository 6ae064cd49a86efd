/-
  No cell of these rows narrows 'for every input' (looked for: loops, veiled, ifaces, maps, wideKeys, modest, calm, conditions, laid).
  DERIVED. THE GIVEN ROWS OF THIS SEAT. 5 by the template 'for every input the law returns true; each argument reads behind the call as it read before'; 0 by the template 'total and deterministic' (their statements: YtklfnghgpmjnmaaTotals.lean).
  GIVEN WITH THE SEED: the statements are not yours to turn. If you find one false, say at which input.
  Laid BY PROGRAM, IN A SANDBOX (cutbox-rows.mjs): the forced cells as the released guide's own fill.sh prints them over the translation 199a0afad41f9b93… (all of the seat's roots in one cut). By AI agents, Wed Nov 11 2026. No macro, syntax, notation, axiom, sorry.
-/
import Derived.Test.YtklfnghgpmjnmaaChecked
import GoSem.Claim
import GoSem.ClaimJoined
import GoSem.ClaimMapViews
import Derived.JoinedTies
import Derived.KernelRfl
namespace Go.Proofs.Ytklfnghgpmjnmaa
/- THE CELL 'sum', in the pinned program and in every row, IS THE sha256 OF THE DUMP (.gsa) THAT YtklfnghgpmjnmaaProg.lean LOADS. Nothing in Lean hashes anything: it is a label: what it is worth is what the hold of that sum in a sandbox is worth. -/
noncomputable def Try.pinned : Pinned := { name := "ytklfnghgpmjnmaa", sum := "199a0afad41f9b936e79e32b0225e2abc7dbf17158dbef1ed29520064e29bf5a", checked := Try.checked }
namespace Rows
def none {H : Type} : Left H := { results := [], args := [] }

/-- 'hasselaw.RealizeOf': WHATEVER THE INPUT: true; the input reads as it did. -/
def realizeOfSpec : ChangeSpec := { name := "realizeOf", fn := fun _ => fun
  | [d1, d2] => { results := [.lit (.bool true)], args := [d1, d2] }
  | _ => none }
def realizeOfRow : OpenClaim := { program := "ytklfnghgpmjnmaa", sum := "199a0afad41f9b936e79e32b0225e2abc7dbf17158dbef1ed29520064e29bf5a", func := "hasse/hasselaw.RealizeOf", spec := "realizeOf", unfollowed := true, recurses := true, apart := false }
def RealizeOfSaid : Prop := realizeOfRow.holds Try.pinned (OpenSpec.ofChange realizeOfSpec)

/-- ITS FALSE NEIGHBOUR: 'it returns false'. Refute it at one input. -/
def realizeOfWrong : ChangeSpec := { name := "realizeOf", fn := fun _ => fun
  | [d1, d2] => { results := [.lit (.bool false)], args := [d1, d2] }
  | _ => none }
def RealizeOfWrongFalsely : Prop := realizeOfRow.holds Try.pinned (OpenSpec.ofChange realizeOfWrong)

/-- 'hasselaw.RealizeDimension': WHATEVER THE INPUT: true; the input reads as it did. -/
def realizeDimensionSpec : ChangeSpec := { name := "realizeDimension", fn := fun _ => fun
  | [d] => { results := [.lit (.bool true)], args := [d] }
  | _ => none }
def realizeDimensionRow : OpenClaim := { program := "ytklfnghgpmjnmaa", sum := "199a0afad41f9b936e79e32b0225e2abc7dbf17158dbef1ed29520064e29bf5a", func := "hasse/hasselaw.RealizeDimension", spec := "realizeDimension", unfollowed := true, recurses := true, apart := false }
def RealizeDimensionSaid : Prop := realizeDimensionRow.holds Try.pinned (OpenSpec.ofChange realizeDimensionSpec)

/-- ITS FALSE NEIGHBOUR: 'it returns false'. Refute it at one input. -/
def realizeDimensionWrong : ChangeSpec := { name := "realizeDimension", fn := fun _ => fun
  | [d] => { results := [.lit (.bool false)], args := [d] }
  | _ => none }
def RealizeDimensionWrongFalsely : Prop := realizeDimensionRow.holds Try.pinned (OpenSpec.ofChange realizeDimensionWrong)

/-- 'hasselaw.RealizeTurned': WHATEVER THE INPUT: true; the input reads as it did. -/
def realizeTurnedSpec : ChangeSpec := { name := "realizeTurned", fn := fun _ => fun
  | [d] => { results := [.lit (.bool true)], args := [d] }
  | _ => none }
def realizeTurnedRow : OpenClaim := { program := "ytklfnghgpmjnmaa", sum := "199a0afad41f9b936e79e32b0225e2abc7dbf17158dbef1ed29520064e29bf5a", func := "hasse/hasselaw.RealizeTurned", spec := "realizeTurned", unfollowed := true, recurses := true, apart := false }
def RealizeTurnedSaid : Prop := realizeTurnedRow.holds Try.pinned (OpenSpec.ofChange realizeTurnedSpec)

/-- ITS FALSE NEIGHBOUR: 'it returns false'. Refute it at one input. -/
def realizeTurnedWrong : ChangeSpec := { name := "realizeTurned", fn := fun _ => fun
  | [d] => { results := [.lit (.bool false)], args := [d] }
  | _ => none }
def RealizeTurnedWrongFalsely : Prop := realizeTurnedRow.holds Try.pinned (OpenSpec.ofChange realizeTurnedWrong)

/-- 'hasselaw.RealizeDushnik': WHATEVER THE INPUT: true; the input reads as it did. -/
def realizeDushnikSpec : ChangeSpec := { name := "realizeDushnik", fn := fun _ => fun
  | [d1, d2] => { results := [.lit (.bool true)], args := [d1, d2] }
  | _ => none }
def realizeDushnikRow : OpenClaim := { program := "ytklfnghgpmjnmaa", sum := "199a0afad41f9b936e79e32b0225e2abc7dbf17158dbef1ed29520064e29bf5a", func := "hasse/hasselaw.RealizeDushnik", spec := "realizeDushnik", unfollowed := true, recurses := true, apart := false }
def RealizeDushnikSaid : Prop := realizeDushnikRow.holds Try.pinned (OpenSpec.ofChange realizeDushnikSpec)

/-- ITS FALSE NEIGHBOUR: 'it returns false'. Refute it at one input. -/
def realizeDushnikWrong : ChangeSpec := { name := "realizeDushnik", fn := fun _ => fun
  | [d1, d2] => { results := [.lit (.bool false)], args := [d1, d2] }
  | _ => none }
def RealizeDushnikWrongFalsely : Prop := realizeDushnikRow.holds Try.pinned (OpenSpec.ofChange realizeDushnikWrong)

/-- 'hasselaw.RealizeHiraguchi': WHATEVER THE INPUT: true; the input reads as it did. -/
def realizeHiraguchiSpec : ChangeSpec := { name := "realizeHiraguchi", fn := fun _ => fun
  | [d] => { results := [.lit (.bool true)], args := [d] }
  | _ => none }
def realizeHiraguchiRow : OpenClaim := { program := "ytklfnghgpmjnmaa", sum := "199a0afad41f9b936e79e32b0225e2abc7dbf17158dbef1ed29520064e29bf5a", func := "hasse/hasselaw.RealizeHiraguchi", spec := "realizeHiraguchi", unfollowed := true, recurses := true, apart := false }
def RealizeHiraguchiSaid : Prop := realizeHiraguchiRow.holds Try.pinned (OpenSpec.ofChange realizeHiraguchiSpec)

/-- ITS FALSE NEIGHBOUR: 'it returns false'. Refute it at one input. -/
def realizeHiraguchiWrong : ChangeSpec := { name := "realizeHiraguchi", fn := fun _ => fun
  | [d] => { results := [.lit (.bool false)], args := [d] }
  | _ => none }
def RealizeHiraguchiWrongFalsely : Prop := realizeHiraguchiRow.holds Try.pinned (OpenSpec.ofChange realizeHiraguchiWrong)

/- THE SECOND FORM. 'bulk': how many values and letters a reading holds, each counted each time it is reached (what is shared counts as often as it is met; a slice's spare places count too). A statement '..UptoSaid' is the law's where the arguments, and the package variables that the reading takes, are together of bulk at most 1048576: NARROWER than '..Said'. Prove '..Said' where nothing that the law and all that it calls make is longer than what came in: it says more and counts as full. Else prove '..UptoSaid'. A law counts once. -/
mutual
def uptoBulk {H : Type} : DataW H → Nat
  | .lit (.string bytes) => bytes.length + 1
  | .lit _ => 1
  | .nil => 1
  | .ptr d => uptoBulk d + 1
  | .slice elems spare => uptoBulkAll elems + uptoBulkAll spare + 1
  | .agg parts => uptoBulkAll parts + 1
  | .iface _ d => uptoBulk d + 1
  | .map entries => uptoBulkEntries entries + 1
  | .held _ => 1
def uptoBulkAll {H : Type} : List (DataW H) → Nat
  | [] => 0
  | d :: r => uptoBulk d + uptoBulkAll r
def uptoBulkEntries {H : Type} : List (Lit × DataW H) → Nat
  | [] => 0
  | x :: r => uptoBulkEntry x + uptoBulkEntries r
def uptoBulkEntry {H : Type} : Lit × DataW H → Nat
  | (.string bytes, d) => bytes.length + uptoBulk d + 1
  | (_, d) => uptoBulk d + 1
 end
def uptoSmall : (H : Type) → List (DataW H) → Bool := fun _ ds => decide (uptoBulkAll ds ≤ 1048576)
def OpenSpec.upto (s : _root_.Go.ChangeSpec) : _root_.Go.OpenSpec := { _root_.Go.OpenSpec.ofChange s with cond := some uptoSmall }

/-- 'hasselaw.RealizeOf', WHERE WHAT IT READS IS OF BULK AT MOST 1048576: true; the input reads as it did. -/
def realizeOfUptoRow : OpenClaim := { program := "ytklfnghgpmjnmaa", sum := "199a0afad41f9b936e79e32b0225e2abc7dbf17158dbef1ed29520064e29bf5a", func := "hasse/hasselaw.RealizeOf", spec := "realizeOf", unfollowed := true, recurses := true, apart := false, narrowed := true }
def RealizeOfUptoSaid : Prop := realizeOfUptoRow.holds Try.pinned (OpenSpec.upto realizeOfSpec)

/-- 'hasselaw.RealizeDimension', WHERE WHAT IT READS IS OF BULK AT MOST 1048576: true; the input reads as it did. -/
def realizeDimensionUptoRow : OpenClaim := { program := "ytklfnghgpmjnmaa", sum := "199a0afad41f9b936e79e32b0225e2abc7dbf17158dbef1ed29520064e29bf5a", func := "hasse/hasselaw.RealizeDimension", spec := "realizeDimension", unfollowed := true, recurses := true, apart := false, narrowed := true }
def RealizeDimensionUptoSaid : Prop := realizeDimensionUptoRow.holds Try.pinned (OpenSpec.upto realizeDimensionSpec)

/-- 'hasselaw.RealizeTurned', WHERE WHAT IT READS IS OF BULK AT MOST 1048576: true; the input reads as it did. -/
def realizeTurnedUptoRow : OpenClaim := { program := "ytklfnghgpmjnmaa", sum := "199a0afad41f9b936e79e32b0225e2abc7dbf17158dbef1ed29520064e29bf5a", func := "hasse/hasselaw.RealizeTurned", spec := "realizeTurned", unfollowed := true, recurses := true, apart := false, narrowed := true }
def RealizeTurnedUptoSaid : Prop := realizeTurnedUptoRow.holds Try.pinned (OpenSpec.upto realizeTurnedSpec)

/-- 'hasselaw.RealizeDushnik', WHERE WHAT IT READS IS OF BULK AT MOST 1048576: true; the input reads as it did. -/
def realizeDushnikUptoRow : OpenClaim := { program := "ytklfnghgpmjnmaa", sum := "199a0afad41f9b936e79e32b0225e2abc7dbf17158dbef1ed29520064e29bf5a", func := "hasse/hasselaw.RealizeDushnik", spec := "realizeDushnik", unfollowed := true, recurses := true, apart := false, narrowed := true }
def RealizeDushnikUptoSaid : Prop := realizeDushnikUptoRow.holds Try.pinned (OpenSpec.upto realizeDushnikSpec)

/-- 'hasselaw.RealizeHiraguchi', WHERE WHAT IT READS IS OF BULK AT MOST 1048576: true; the input reads as it did. -/
def realizeHiraguchiUptoRow : OpenClaim := { program := "ytklfnghgpmjnmaa", sum := "199a0afad41f9b936e79e32b0225e2abc7dbf17158dbef1ed29520064e29bf5a", func := "hasse/hasselaw.RealizeHiraguchi", spec := "realizeHiraguchi", unfollowed := true, recurses := true, apart := false, narrowed := true }
def RealizeHiraguchiUptoSaid : Prop := realizeHiraguchiUptoRow.holds Try.pinned (OpenSpec.upto realizeHiraguchiSpec)

end Rows
end Go.Proofs.Ytklfnghgpmjnmaa
