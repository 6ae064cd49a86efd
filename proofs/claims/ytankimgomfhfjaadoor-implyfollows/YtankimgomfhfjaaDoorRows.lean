/-
  NARROWER THAN 'FOR EVERY INPUT', by the rows' own cells (each row's printed sentence says how): ImplyChecks: laid · ImplyCloses: laid · ImplyFollows: laid · ImplyKeys: laid · ImplyBases: laid · ImplyOf: laid.
  DERIVED. THE GIVEN ROWS OF THIS SEAT. 6 by the template 'for every input the law returns true; each argument reads behind the call as it read before'; 0 by the template 'total and deterministic' (their statements: YtankimgomfhfjaaDoorTotals.lean).
  GIVEN WITH THE SEED: the statements are not yours to turn. If you find one false, say at which input.
  Laid BY PROGRAM, IN A SANDBOX (cutbox-rows.mjs): the forced cells as the released guide's own fill.sh prints them over the translation 3c9447370616e99e… (all of the seat's roots in one cut). By AI agents, Wed Nov 11 2026. No macro, syntax, notation, axiom, sorry.
-/
import Derived.Test.YtankimgomfhfjaaDoorChecked
import GoSem.Claim
import GoSem.ClaimJoined
import GoSem.ClaimMapViews
import Derived.JoinedTies
import Derived.KernelRfl
namespace Go.Proofs.YtankimgomfhfjaaDoor
/- THE CELL 'sum', in the pinned program and in every row, IS THE sha256 OF THE DUMP (.gsa) THAT YtankimgomfhfjaaDoorProg.lean LOADS. Nothing in Lean hashes anything: it is a label: what it is worth is what the hold of that sum in a sandbox is worth. -/
noncomputable def Tryd.pinned : Pinned := { name := "ytankimgomfhfjaadoor", sum := "3c9447370616e99eb724876074defc71f9cb86b3cb616813159165b8e373062c", checked := Tryd.checked }
namespace Rows
def none {H : Type} : Left H := { results := [], args := [] }

/- WHAT THE LISTED PACKAGE-LEVEL VARIABLES READ AS WHEN THE CALL BEGINS. Each datum BY PROGRAM (the guide's laid-datum.mjs) off the statement by which the dump's own 'gosem.cut.vars' lays the variable. In a bare row this is a premise. The card (YtankimgomfhfjaaDoorCards.lean) ties it to the program's text. -/
def laid_math_bits_deBruijn32tab {H : Type} : DataW H := .agg [.lit (.int .u8 0), .lit (.int .u8 1), .lit (.int .u8 28), .lit (.int .u8 2), .lit (.int .u8 29), .lit (.int .u8 14), .lit (.int .u8 24), .lit (.int .u8 3), .lit (.int .u8 30), .lit (.int .u8 22), .lit (.int .u8 20), .lit (.int .u8 15), .lit (.int .u8 25), .lit (.int .u8 17), .lit (.int .u8 4), .lit (.int .u8 8), .lit (.int .u8 31), .lit (.int .u8 27), .lit (.int .u8 13), .lit (.int .u8 23), .lit (.int .u8 21), .lit (.int .u8 19), .lit (.int .u8 16), .lit (.int .u8 7), .lit (.int .u8 26), .lit (.int .u8 12), .lit (.int .u8 18), .lit (.int .u8 6), .lit (.int .u8 11), .lit (.int .u8 5), .lit (.int .u8 10), .lit (.int .u8 9)]
def laid_math_bits_deBruijn64tab {H : Type} : DataW H := .agg [.lit (.int .u8 0), .lit (.int .u8 1), .lit (.int .u8 56), .lit (.int .u8 2), .lit (.int .u8 57), .lit (.int .u8 49), .lit (.int .u8 28), .lit (.int .u8 3), .lit (.int .u8 61), .lit (.int .u8 58), .lit (.int .u8 42), .lit (.int .u8 50), .lit (.int .u8 38), .lit (.int .u8 29), .lit (.int .u8 17), .lit (.int .u8 4), .lit (.int .u8 62), .lit (.int .u8 47), .lit (.int .u8 59), .lit (.int .u8 36), .lit (.int .u8 45), .lit (.int .u8 43), .lit (.int .u8 51), .lit (.int .u8 22), .lit (.int .u8 53), .lit (.int .u8 39), .lit (.int .u8 33), .lit (.int .u8 30), .lit (.int .u8 24), .lit (.int .u8 18), .lit (.int .u8 12), .lit (.int .u8 5), .lit (.int .u8 63), .lit (.int .u8 55), .lit (.int .u8 48), .lit (.int .u8 27), .lit (.int .u8 60), .lit (.int .u8 41), .lit (.int .u8 37), .lit (.int .u8 16), .lit (.int .u8 46), .lit (.int .u8 35), .lit (.int .u8 44), .lit (.int .u8 21), .lit (.int .u8 52), .lit (.int .u8 32), .lit (.int .u8 23), .lit (.int .u8 11), .lit (.int .u8 54), .lit (.int .u8 26), .lit (.int .u8 40), .lit (.int .u8 15), .lit (.int .u8 34), .lit (.int .u8 20), .lit (.int .u8 31), .lit (.int .u8 10), .lit (.int .u8 25), .lit (.int .u8 14), .lit (.int .u8 19), .lit (.int .u8 9), .lit (.int .u8 13), .lit (.int .u8 8), .lit (.int .u8 7), .lit (.int .u8 6)]

/-- 'hasselaw.ImplyChecks': WHATEVER THE INPUT: true; the input reads as it did. -/
def implyChecksSpec : ChangeSpec := { name := "implyChecks", fn := fun _ => fun
  | [d1, d2] => { results := [.lit (.bool true)], args := [d1, d2] }
  | _ => none }
def implyChecksRow : OpenClaim := { program := "ytankimgomfhfjaadoor", sum := "3c9447370616e99eb724876074defc71f9cb86b3cb616813159165b8e373062c", func := "hasse/hasselaw.ImplyChecks", spec := "implyChecks", unfollowed := true, recurses := true, named := ["math/bits.deBruijn32tab", "math/bits.deBruijn64tab"], apart := false, laid := [("math/bits.deBruijn32tab", laid_math_bits_deBruijn32tab), ("math/bits.deBruijn64tab", laid_math_bits_deBruijn64tab)] }
def ImplyChecksSaid : Prop := implyChecksRow.holds Tryd.pinned (OpenSpec.ofChange implyChecksSpec)

/-- ITS FALSE NEIGHBOUR: 'it returns false'. Refute it at one input. -/
def implyChecksWrong : ChangeSpec := { name := "implyChecks", fn := fun _ => fun
  | [d1, d2] => { results := [.lit (.bool false)], args := [d1, d2] }
  | _ => none }
def ImplyChecksWrongFalsely : Prop := implyChecksRow.holds Tryd.pinned (OpenSpec.ofChange implyChecksWrong)

/-- 'hasselaw.ImplyCloses': WHATEVER THE INPUT: true; the input reads as it did. -/
def implyClosesSpec : ChangeSpec := { name := "implyCloses", fn := fun _ => fun
  | [d1, d2, d3] => { results := [.lit (.bool true)], args := [d1, d2, d3] }
  | _ => none }
def implyClosesRow : OpenClaim := { program := "ytankimgomfhfjaadoor", sum := "3c9447370616e99eb724876074defc71f9cb86b3cb616813159165b8e373062c", func := "hasse/hasselaw.ImplyCloses", spec := "implyCloses", unfollowed := true, recurses := true, named := ["math/bits.deBruijn32tab", "math/bits.deBruijn64tab"], apart := false, laid := [("math/bits.deBruijn32tab", laid_math_bits_deBruijn32tab), ("math/bits.deBruijn64tab", laid_math_bits_deBruijn64tab)] }
def ImplyClosesSaid : Prop := implyClosesRow.holds Tryd.pinned (OpenSpec.ofChange implyClosesSpec)

/-- ITS FALSE NEIGHBOUR: 'it returns false'. Refute it at one input. -/
def implyClosesWrong : ChangeSpec := { name := "implyCloses", fn := fun _ => fun
  | [d1, d2, d3] => { results := [.lit (.bool false)], args := [d1, d2, d3] }
  | _ => none }
def ImplyClosesWrongFalsely : Prop := implyClosesRow.holds Tryd.pinned (OpenSpec.ofChange implyClosesWrong)

/-- 'hasselaw.ImplyFollows': WHATEVER THE INPUT: true; the input reads as it did. -/
def implyFollowsSpec : ChangeSpec := { name := "implyFollows", fn := fun _ => fun
  | [d1, d2, d3] => { results := [.lit (.bool true)], args := [d1, d2, d3] }
  | _ => none }
def implyFollowsRow : OpenClaim := { program := "ytankimgomfhfjaadoor", sum := "3c9447370616e99eb724876074defc71f9cb86b3cb616813159165b8e373062c", func := "hasse/hasselaw.ImplyFollows", spec := "implyFollows", unfollowed := true, recurses := true, named := ["math/bits.deBruijn32tab", "math/bits.deBruijn64tab"], apart := false, laid := [("math/bits.deBruijn32tab", laid_math_bits_deBruijn32tab), ("math/bits.deBruijn64tab", laid_math_bits_deBruijn64tab)] }
def ImplyFollowsSaid : Prop := implyFollowsRow.holds Tryd.pinned (OpenSpec.ofChange implyFollowsSpec)

/-- ITS FALSE NEIGHBOUR: 'it returns false'. Refute it at one input. -/
def implyFollowsWrong : ChangeSpec := { name := "implyFollows", fn := fun _ => fun
  | [d1, d2, d3] => { results := [.lit (.bool false)], args := [d1, d2, d3] }
  | _ => none }
def ImplyFollowsWrongFalsely : Prop := implyFollowsRow.holds Tryd.pinned (OpenSpec.ofChange implyFollowsWrong)

/-- 'hasselaw.ImplyKeys': WHATEVER THE INPUT: true; the input reads as it did. -/
def implyKeysSpec : ChangeSpec := { name := "implyKeys", fn := fun _ => fun
  | [d1, d2] => { results := [.lit (.bool true)], args := [d1, d2] }
  | _ => none }
def implyKeysRow : OpenClaim := { program := "ytankimgomfhfjaadoor", sum := "3c9447370616e99eb724876074defc71f9cb86b3cb616813159165b8e373062c", func := "hasse/hasselaw.ImplyKeys", spec := "implyKeys", unfollowed := true, recurses := true, named := ["math/bits.deBruijn32tab", "math/bits.deBruijn64tab"], apart := false, laid := [("math/bits.deBruijn32tab", laid_math_bits_deBruijn32tab), ("math/bits.deBruijn64tab", laid_math_bits_deBruijn64tab)] }
def ImplyKeysSaid : Prop := implyKeysRow.holds Tryd.pinned (OpenSpec.ofChange implyKeysSpec)

/-- ITS FALSE NEIGHBOUR: 'it returns false'. Refute it at one input. -/
def implyKeysWrong : ChangeSpec := { name := "implyKeys", fn := fun _ => fun
  | [d1, d2] => { results := [.lit (.bool false)], args := [d1, d2] }
  | _ => none }
def ImplyKeysWrongFalsely : Prop := implyKeysRow.holds Tryd.pinned (OpenSpec.ofChange implyKeysWrong)

/-- 'hasselaw.ImplyBases': WHATEVER THE INPUT: true; the input reads as it did. -/
def implyBasesSpec : ChangeSpec := { name := "implyBases", fn := fun _ => fun
  | [d1, d2] => { results := [.lit (.bool true)], args := [d1, d2] }
  | _ => none }
def implyBasesRow : OpenClaim := { program := "ytankimgomfhfjaadoor", sum := "3c9447370616e99eb724876074defc71f9cb86b3cb616813159165b8e373062c", func := "hasse/hasselaw.ImplyBases", spec := "implyBases", unfollowed := true, recurses := true, named := ["math/bits.deBruijn32tab", "math/bits.deBruijn64tab"], apart := false, laid := [("math/bits.deBruijn32tab", laid_math_bits_deBruijn32tab), ("math/bits.deBruijn64tab", laid_math_bits_deBruijn64tab)] }
def ImplyBasesSaid : Prop := implyBasesRow.holds Tryd.pinned (OpenSpec.ofChange implyBasesSpec)

/-- ITS FALSE NEIGHBOUR: 'it returns false'. Refute it at one input. -/
def implyBasesWrong : ChangeSpec := { name := "implyBases", fn := fun _ => fun
  | [d1, d2] => { results := [.lit (.bool false)], args := [d1, d2] }
  | _ => none }
def ImplyBasesWrongFalsely : Prop := implyBasesRow.holds Tryd.pinned (OpenSpec.ofChange implyBasesWrong)

/-- 'hasselaw.ImplyOf': WHATEVER THE INPUT: true; the input reads as it did. -/
def implyOfSpec : ChangeSpec := { name := "implyOf", fn := fun _ => fun
  | [d] => { results := [.lit (.bool true)], args := [d] }
  | _ => none }
def implyOfRow : OpenClaim := { program := "ytankimgomfhfjaadoor", sum := "3c9447370616e99eb724876074defc71f9cb86b3cb616813159165b8e373062c", func := "hasse/hasselaw.ImplyOf", spec := "implyOf", unfollowed := true, recurses := true, named := ["math/bits.deBruijn32tab", "math/bits.deBruijn64tab"], apart := false, laid := [("math/bits.deBruijn32tab", laid_math_bits_deBruijn32tab), ("math/bits.deBruijn64tab", laid_math_bits_deBruijn64tab)] }
def ImplyOfSaid : Prop := implyOfRow.holds Tryd.pinned (OpenSpec.ofChange implyOfSpec)

/-- ITS FALSE NEIGHBOUR: 'it returns false'. Refute it at one input. -/
def implyOfWrong : ChangeSpec := { name := "implyOf", fn := fun _ => fun
  | [d] => { results := [.lit (.bool false)], args := [d] }
  | _ => none }
def ImplyOfWrongFalsely : Prop := implyOfRow.holds Tryd.pinned (OpenSpec.ofChange implyOfWrong)

/- THE SECOND FORM. 'bulk': how many values and letters a reading holds, each counted each time it is reached (what is shared counts as often as it is met; a slice's spare places count too). A statement '..UptoSaid' is the law's where the arguments, and the package variables that the reading takes, are together of bulk at most 1048576: NARROWER than '..Said'. Prove '..Said' where nothing that the law and all that it calls make is longer than what came in: it says more and counts as full. Else prove '..UptoSaid'. A law counts once. -/
mutual
def uptoBulk {H : Type} : DataW H → Nat
  | .lit (.string bytes) => bytes.length + 1
  | .lit _ => 1
  | .nil => 1
  | .ptr d => uptoBulk d + 1
  | .slice elems spare => uptoBulkAll elems + uptoBulkAll spare + 1
  | .agg parts => uptoBulkAll parts + 1
  | .iface _ d => uptoBulk d + 1
  | .map entries => uptoBulkEntries entries + 1
  | .held _ => 1
def uptoBulkAll {H : Type} : List (DataW H) → Nat
  | [] => 0
  | d :: r => uptoBulk d + uptoBulkAll r
def uptoBulkEntries {H : Type} : List (Lit × DataW H) → Nat
  | [] => 0
  | x :: r => uptoBulkEntry x + uptoBulkEntries r
def uptoBulkEntry {H : Type} : Lit × DataW H → Nat
  | (.string bytes, d) => bytes.length + uptoBulk d + 1
  | (_, d) => uptoBulk d + 1
 end
def uptoSmall : (H : Type) → List (DataW H) → Bool := fun _ ds => decide (uptoBulkAll ds ≤ 1048576)
def OpenSpec.upto (s : _root_.Go.ChangeSpec) : _root_.Go.OpenSpec := { _root_.Go.OpenSpec.ofChange s with cond := some uptoSmall }

/-- 'hasselaw.ImplyChecks', WHERE WHAT IT READS IS OF BULK AT MOST 1048576: true; the input reads as it did. -/
def implyChecksUptoRow : OpenClaim := { program := "ytankimgomfhfjaadoor", sum := "3c9447370616e99eb724876074defc71f9cb86b3cb616813159165b8e373062c", func := "hasse/hasselaw.ImplyChecks", spec := "implyChecks", unfollowed := true, recurses := true, named := ["math/bits.deBruijn32tab", "math/bits.deBruijn64tab"], apart := false, laid := [("math/bits.deBruijn32tab", laid_math_bits_deBruijn32tab), ("math/bits.deBruijn64tab", laid_math_bits_deBruijn64tab)], narrowed := true }
def ImplyChecksUptoSaid : Prop := implyChecksUptoRow.holds Tryd.pinned (OpenSpec.upto implyChecksSpec)

/-- 'hasselaw.ImplyCloses', WHERE WHAT IT READS IS OF BULK AT MOST 1048576: true; the input reads as it did. -/
def implyClosesUptoRow : OpenClaim := { program := "ytankimgomfhfjaadoor", sum := "3c9447370616e99eb724876074defc71f9cb86b3cb616813159165b8e373062c", func := "hasse/hasselaw.ImplyCloses", spec := "implyCloses", unfollowed := true, recurses := true, named := ["math/bits.deBruijn32tab", "math/bits.deBruijn64tab"], apart := false, laid := [("math/bits.deBruijn32tab", laid_math_bits_deBruijn32tab), ("math/bits.deBruijn64tab", laid_math_bits_deBruijn64tab)], narrowed := true }
def ImplyClosesUptoSaid : Prop := implyClosesUptoRow.holds Tryd.pinned (OpenSpec.upto implyClosesSpec)

/-- 'hasselaw.ImplyFollows', WHERE WHAT IT READS IS OF BULK AT MOST 1048576: true; the input reads as it did. -/
def implyFollowsUptoRow : OpenClaim := { program := "ytankimgomfhfjaadoor", sum := "3c9447370616e99eb724876074defc71f9cb86b3cb616813159165b8e373062c", func := "hasse/hasselaw.ImplyFollows", spec := "implyFollows", unfollowed := true, recurses := true, named := ["math/bits.deBruijn32tab", "math/bits.deBruijn64tab"], apart := false, laid := [("math/bits.deBruijn32tab", laid_math_bits_deBruijn32tab), ("math/bits.deBruijn64tab", laid_math_bits_deBruijn64tab)], narrowed := true }
def ImplyFollowsUptoSaid : Prop := implyFollowsUptoRow.holds Tryd.pinned (OpenSpec.upto implyFollowsSpec)

/-- 'hasselaw.ImplyKeys', WHERE WHAT IT READS IS OF BULK AT MOST 1048576: true; the input reads as it did. -/
def implyKeysUptoRow : OpenClaim := { program := "ytankimgomfhfjaadoor", sum := "3c9447370616e99eb724876074defc71f9cb86b3cb616813159165b8e373062c", func := "hasse/hasselaw.ImplyKeys", spec := "implyKeys", unfollowed := true, recurses := true, named := ["math/bits.deBruijn32tab", "math/bits.deBruijn64tab"], apart := false, laid := [("math/bits.deBruijn32tab", laid_math_bits_deBruijn32tab), ("math/bits.deBruijn64tab", laid_math_bits_deBruijn64tab)], narrowed := true }
def ImplyKeysUptoSaid : Prop := implyKeysUptoRow.holds Tryd.pinned (OpenSpec.upto implyKeysSpec)

/-- 'hasselaw.ImplyBases', WHERE WHAT IT READS IS OF BULK AT MOST 1048576: true; the input reads as it did. -/
def implyBasesUptoRow : OpenClaim := { program := "ytankimgomfhfjaadoor", sum := "3c9447370616e99eb724876074defc71f9cb86b3cb616813159165b8e373062c", func := "hasse/hasselaw.ImplyBases", spec := "implyBases", unfollowed := true, recurses := true, named := ["math/bits.deBruijn32tab", "math/bits.deBruijn64tab"], apart := false, laid := [("math/bits.deBruijn32tab", laid_math_bits_deBruijn32tab), ("math/bits.deBruijn64tab", laid_math_bits_deBruijn64tab)], narrowed := true }
def ImplyBasesUptoSaid : Prop := implyBasesUptoRow.holds Tryd.pinned (OpenSpec.upto implyBasesSpec)

/-- 'hasselaw.ImplyOf', WHERE WHAT IT READS IS OF BULK AT MOST 1048576: true; the input reads as it did. -/
def implyOfUptoRow : OpenClaim := { program := "ytankimgomfhfjaadoor", sum := "3c9447370616e99eb724876074defc71f9cb86b3cb616813159165b8e373062c", func := "hasse/hasselaw.ImplyOf", spec := "implyOf", unfollowed := true, recurses := true, named := ["math/bits.deBruijn32tab", "math/bits.deBruijn64tab"], apart := false, laid := [("math/bits.deBruijn32tab", laid_math_bits_deBruijn32tab), ("math/bits.deBruijn64tab", laid_math_bits_deBruijn64tab)], narrowed := true }
def ImplyOfUptoSaid : Prop := implyOfUptoRow.holds Tryd.pinned (OpenSpec.upto implyOfSpec)

end Rows
end Go.Proofs.YtankimgomfhfjaaDoor
