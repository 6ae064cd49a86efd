/-
  No cell of these rows narrows 'for every input' (looked for: loops, veiled, ifaces, maps, wideKeys, modest, calm, conditions, laid).
  DERIVED. THE GIVEN ROWS OF THIS SEAT. 4 by the template 'for every input the law returns true; each argument reads behind the call as it read before'; 0 by the template 'total and deterministic' (their statements: YtliajgcobhjidaaTotals.lean).
  GIVEN WITH THE SEED: the statements are not yours to turn. If you find one false, say at which input.
  Laid BY PROGRAM, IN A SANDBOX (cutbox-rows.mjs): the forced cells as the released guide's own fill.sh prints them over the translation 8fd29637dfbdd1fa… (all of the seat's roots in one cut). By AI agents, Wed Nov 11 2026. No macro, syntax, notation, axiom, sorry.
-/
import Derived.Test.YtliajgcobhjidaaChecked
import GoSem.Claim
import GoSem.ClaimJoined
import GoSem.ClaimMapViews
import Derived.JoinedTies
import Derived.KernelRfl
namespace Go.Proofs.Ytliajgcobhjidaa
/- THE CELL 'sum', in the pinned program and in every row, IS THE sha256 OF THE DUMP (.gsa) THAT YtliajgcobhjidaaProg.lean LOADS. Nothing in Lean hashes anything: it is a label: what it is worth is what the hold of that sum in a sandbox is worth. -/
noncomputable def Try.pinned : Pinned := { name := "ytliajgcobhjidaa", sum := "8fd29637dfbdd1fa5f5f0bc8530d78e01ddbb615d1a998048c89c9b21cdc591f", checked := Try.checked }
namespace Rows
def none {H : Type} : Left H := { results := [], args := [] }

/-- 'hasselaw.LevelHeights': WHATEVER THE INPUT: true; the input reads as it did. -/
def levelHeightsSpec : ChangeSpec := { name := "levelHeights", fn := fun _ => fun
  | [d] => { results := [.lit (.bool true)], args := [d] }
  | _ => none }
def levelHeightsRow : OpenClaim := { program := "ytliajgcobhjidaa", sum := "8fd29637dfbdd1fa5f5f0bc8530d78e01ddbb615d1a998048c89c9b21cdc591f", func := "hasse/hasselaw.LevelHeights", spec := "levelHeights", recurses := true, apart := false }
def LevelHeightsSaid : Prop := levelHeightsRow.holds Try.pinned (OpenSpec.ofChange levelHeightsSpec)

/-- ITS FALSE NEIGHBOUR: 'it returns false'. Refute it at one input. -/
def levelHeightsWrong : ChangeSpec := { name := "levelHeights", fn := fun _ => fun
  | [d] => { results := [.lit (.bool false)], args := [d] }
  | _ => none }
def LevelHeightsWrongFalsely : Prop := levelHeightsRow.holds Try.pinned (OpenSpec.ofChange levelHeightsWrong)

/-- 'hasselaw.LevelSets': WHATEVER THE INPUT: true; the input reads as it did. -/
def levelSetsSpec : ChangeSpec := { name := "levelSets", fn := fun _ => fun
  | [d] => { results := [.lit (.bool true)], args := [d] }
  | _ => none }
def levelSetsRow : OpenClaim := { program := "ytliajgcobhjidaa", sum := "8fd29637dfbdd1fa5f5f0bc8530d78e01ddbb615d1a998048c89c9b21cdc591f", func := "hasse/hasselaw.LevelSets", spec := "levelSets", recurses := true, apart := false }
def LevelSetsSaid : Prop := levelSetsRow.holds Try.pinned (OpenSpec.ofChange levelSetsSpec)

/-- ITS FALSE NEIGHBOUR: 'it returns false'. Refute it at one input. -/
def levelSetsWrong : ChangeSpec := { name := "levelSets", fn := fun _ => fun
  | [d] => { results := [.lit (.bool false)], args := [d] }
  | _ => none }
def LevelSetsWrongFalsely : Prop := levelSetsRow.holds Try.pinned (OpenSpec.ofChange levelSetsWrong)

/-- 'hasselaw.LevelGraded': WHATEVER THE INPUT: true; the input reads as it did. -/
def levelGradedSpec : ChangeSpec := { name := "levelGraded", fn := fun _ => fun
  | [d] => { results := [.lit (.bool true)], args := [d] }
  | _ => none }
def levelGradedRow : OpenClaim := { program := "ytliajgcobhjidaa", sum := "8fd29637dfbdd1fa5f5f0bc8530d78e01ddbb615d1a998048c89c9b21cdc591f", func := "hasse/hasselaw.LevelGraded", spec := "levelGraded", recurses := true, apart := false }
def LevelGradedSaid : Prop := levelGradedRow.holds Try.pinned (OpenSpec.ofChange levelGradedSpec)

/-- ITS FALSE NEIGHBOUR: 'it returns false'. Refute it at one input. -/
def levelGradedWrong : ChangeSpec := { name := "levelGraded", fn := fun _ => fun
  | [d] => { results := [.lit (.bool false)], args := [d] }
  | _ => none }
def LevelGradedWrongFalsely : Prop := levelGradedRow.holds Try.pinned (OpenSpec.ofChange levelGradedWrong)

/-- 'hasselaw.LevelChains': WHATEVER THE INPUT: true; the input reads as it did. -/
def levelChainsSpec : ChangeSpec := { name := "levelChains", fn := fun _ => fun
  | [d] => { results := [.lit (.bool true)], args := [d] }
  | _ => none }
def levelChainsRow : OpenClaim := { program := "ytliajgcobhjidaa", sum := "8fd29637dfbdd1fa5f5f0bc8530d78e01ddbb615d1a998048c89c9b21cdc591f", func := "hasse/hasselaw.LevelChains", spec := "levelChains", apart := false }
def LevelChainsSaid : Prop := levelChainsRow.holds Try.pinned (OpenSpec.ofChange levelChainsSpec)

/-- ITS FALSE NEIGHBOUR: 'it returns false'. Refute it at one input. -/
def levelChainsWrong : ChangeSpec := { name := "levelChains", fn := fun _ => fun
  | [d] => { results := [.lit (.bool false)], args := [d] }
  | _ => none }
def LevelChainsWrongFalsely : Prop := levelChainsRow.holds Try.pinned (OpenSpec.ofChange levelChainsWrong)

/- THE SECOND FORM. 'bulk': how many values and letters a reading holds, each counted each time it is reached (what is shared counts as often as it is met; a slice's spare places count too). A statement '..UptoSaid' is the law's where the arguments, and the package variables that the reading takes, are together of bulk at most 1048576: NARROWER than '..Said'. Prove '..Said' where nothing that the law and all that it calls make is longer than what came in: it says more and counts as full. Else prove '..UptoSaid'. A law counts once. -/
mutual
def uptoBulk {H : Type} : DataW H → Nat
  | .lit (.string bytes) => bytes.length + 1
  | .lit _ => 1
  | .nil => 1
  | .ptr d => uptoBulk d + 1
  | .slice elems spare => uptoBulkAll elems + uptoBulkAll spare + 1
  | .agg parts => uptoBulkAll parts + 1
  | .iface _ d => uptoBulk d + 1
  | .map entries => uptoBulkEntries entries + 1
  | .held _ => 1
def uptoBulkAll {H : Type} : List (DataW H) → Nat
  | [] => 0
  | d :: r => uptoBulk d + uptoBulkAll r
def uptoBulkEntries {H : Type} : List (Lit × DataW H) → Nat
  | [] => 0
  | x :: r => uptoBulkEntry x + uptoBulkEntries r
def uptoBulkEntry {H : Type} : Lit × DataW H → Nat
  | (.string bytes, d) => bytes.length + uptoBulk d + 1
  | (_, d) => uptoBulk d + 1
 end
def uptoSmall : (H : Type) → List (DataW H) → Bool := fun _ ds => decide (uptoBulkAll ds ≤ 1048576)
def OpenSpec.upto (s : _root_.Go.ChangeSpec) : _root_.Go.OpenSpec := { _root_.Go.OpenSpec.ofChange s with cond := some uptoSmall }

/-- 'hasselaw.LevelHeights', WHERE WHAT IT READS IS OF BULK AT MOST 1048576: true; the input reads as it did. -/
def levelHeightsUptoRow : OpenClaim := { program := "ytliajgcobhjidaa", sum := "8fd29637dfbdd1fa5f5f0bc8530d78e01ddbb615d1a998048c89c9b21cdc591f", func := "hasse/hasselaw.LevelHeights", spec := "levelHeights", recurses := true, apart := false, narrowed := true }
def LevelHeightsUptoSaid : Prop := levelHeightsUptoRow.holds Try.pinned (OpenSpec.upto levelHeightsSpec)

/-- 'hasselaw.LevelSets', WHERE WHAT IT READS IS OF BULK AT MOST 1048576: true; the input reads as it did. -/
def levelSetsUptoRow : OpenClaim := { program := "ytliajgcobhjidaa", sum := "8fd29637dfbdd1fa5f5f0bc8530d78e01ddbb615d1a998048c89c9b21cdc591f", func := "hasse/hasselaw.LevelSets", spec := "levelSets", recurses := true, apart := false, narrowed := true }
def LevelSetsUptoSaid : Prop := levelSetsUptoRow.holds Try.pinned (OpenSpec.upto levelSetsSpec)

/-- 'hasselaw.LevelGraded', WHERE WHAT IT READS IS OF BULK AT MOST 1048576: true; the input reads as it did. -/
def levelGradedUptoRow : OpenClaim := { program := "ytliajgcobhjidaa", sum := "8fd29637dfbdd1fa5f5f0bc8530d78e01ddbb615d1a998048c89c9b21cdc591f", func := "hasse/hasselaw.LevelGraded", spec := "levelGraded", recurses := true, apart := false, narrowed := true }
def LevelGradedUptoSaid : Prop := levelGradedUptoRow.holds Try.pinned (OpenSpec.upto levelGradedSpec)

/-- 'hasselaw.LevelChains', WHERE WHAT IT READS IS OF BULK AT MOST 1048576: true; the input reads as it did. -/
def levelChainsUptoRow : OpenClaim := { program := "ytliajgcobhjidaa", sum := "8fd29637dfbdd1fa5f5f0bc8530d78e01ddbb615d1a998048c89c9b21cdc591f", func := "hasse/hasselaw.LevelChains", spec := "levelChains", apart := false, narrowed := true }
def LevelChainsUptoSaid : Prop := levelChainsUptoRow.holds Try.pinned (OpenSpec.upto levelChainsSpec)

end Rows
end Go.Proofs.Ytliajgcobhjidaa
