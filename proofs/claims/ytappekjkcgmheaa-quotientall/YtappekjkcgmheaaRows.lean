/-
  No cell of these rows narrows 'for every input' (looked for: loops, veiled, ifaces, maps, wideKeys, modest, calm, conditions, laid).
  DERIVED. THE GIVEN ROWS OF THIS SEAT. 6 by the template 'for every input the law returns true; each argument reads behind the call as it read before'; 0 by the template 'total and deterministic' (their statements: YtappekjkcgmheaaTotals.lean).
  GIVEN WITH THE SEED: the statements are not yours to turn. If you find one false, say at which input.
  Laid BY PROGRAM, IN A SANDBOX (cutbox-rows.mjs): the forced cells as the released guide's own fill.sh prints them over the translation d94a2e9912934d47… (all of the seat's roots in one cut). By AI agents, Wed Nov 11 2026. No macro, syntax, notation, axiom, sorry.
-/
import Derived.Test.YtappekjkcgmheaaChecked
import GoSem.Claim
import GoSem.ClaimJoined
import GoSem.ClaimMapViews
import Derived.JoinedTies
import Derived.KernelRfl
namespace Go.Proofs.Ytappekjkcgmheaa
/- THE CELL 'sum', in the pinned program and in every row, IS THE sha256 OF THE DUMP (.gsa) THAT YtappekjkcgmheaaProg.lean LOADS. Nothing in Lean hashes anything: it is a label: what it is worth is what the hold of that sum in a sandbox is worth. -/
noncomputable def Try.pinned : Pinned := { name := "ytappekjkcgmheaa", sum := "d94a2e9912934d47083b95b3d9d917a5abdad39dfc54b2203124be847929a08f", checked := Try.checked }
namespace Rows
def none {H : Type} : Left H := { results := [], args := [] }

/-- 'hasselaw.QuotientChecks': WHATEVER THE INPUT: true; the input reads as it did. -/
def quotientChecksSpec : ChangeSpec := { name := "quotientChecks", fn := fun _ => fun
  | [d1, d2] => { results := [.lit (.bool true)], args := [d1, d2] }
  | _ => none }
def quotientChecksRow : OpenClaim := { program := "ytappekjkcgmheaa", sum := "d94a2e9912934d47083b95b3d9d917a5abdad39dfc54b2203124be847929a08f", func := "hasse/hasselaw.QuotientChecks", spec := "quotientChecks", unfollowed := true, recurses := true, plainKeys := false, apart := false }
def QuotientChecksSaid : Prop := quotientChecksRow.holds Try.pinned (OpenSpec.ofChange quotientChecksSpec)

/-- ITS FALSE NEIGHBOUR: 'it returns false'. Refute it at one input. -/
def quotientChecksWrong : ChangeSpec := { name := "quotientChecks", fn := fun _ => fun
  | [d1, d2] => { results := [.lit (.bool false)], args := [d1, d2] }
  | _ => none }
def QuotientChecksWrongFalsely : Prop := quotientChecksRow.holds Try.pinned (OpenSpec.ofChange quotientChecksWrong)

/-- 'hasselaw.QuotientLeast': WHATEVER THE INPUT: true; the input reads as it did. -/
def quotientLeastSpec : ChangeSpec := { name := "quotientLeast", fn := fun _ => fun
  | [d1, d2, d3] => { results := [.lit (.bool true)], args := [d1, d2, d3] }
  | _ => none }
def quotientLeastRow : OpenClaim := { program := "ytappekjkcgmheaa", sum := "d94a2e9912934d47083b95b3d9d917a5abdad39dfc54b2203124be847929a08f", func := "hasse/hasselaw.QuotientLeast", spec := "quotientLeast", unfollowed := true, recurses := true, plainKeys := false, apart := false }
def QuotientLeastSaid : Prop := quotientLeastRow.holds Try.pinned (OpenSpec.ofChange quotientLeastSpec)

/-- ITS FALSE NEIGHBOUR: 'it returns false'. Refute it at one input. -/
def quotientLeastWrong : ChangeSpec := { name := "quotientLeast", fn := fun _ => fun
  | [d1, d2, d3] => { results := [.lit (.bool false)], args := [d1, d2, d3] }
  | _ => none }
def QuotientLeastWrongFalsely : Prop := quotientLeastRow.holds Try.pinned (OpenSpec.ofChange quotientLeastWrong)

/-- 'hasselaw.QuotientAll': WHATEVER THE INPUT: true; the input reads as it did. -/
def quotientAllSpec : ChangeSpec := { name := "quotientAll", fn := fun _ => fun
  | [d] => { results := [.lit (.bool true)], args := [d] }
  | _ => none }
def quotientAllRow : OpenClaim := { program := "ytappekjkcgmheaa", sum := "d94a2e9912934d47083b95b3d9d917a5abdad39dfc54b2203124be847929a08f", func := "hasse/hasselaw.QuotientAll", spec := "quotientAll", unfollowed := true, recurses := true, plainKeys := false, apart := false }
def QuotientAllSaid : Prop := quotientAllRow.holds Try.pinned (OpenSpec.ofChange quotientAllSpec)

/-- ITS FALSE NEIGHBOUR: 'it returns false'. Refute it at one input. -/
def quotientAllWrong : ChangeSpec := { name := "quotientAll", fn := fun _ => fun
  | [d] => { results := [.lit (.bool false)], args := [d] }
  | _ => none }
def QuotientAllWrongFalsely : Prop := quotientAllRow.holds Try.pinned (OpenSpec.ofChange quotientAllWrong)

/-- 'hasselaw.QuotientBy': WHATEVER THE INPUT: true; the input reads as it did. -/
def quotientBySpec : ChangeSpec := { name := "quotientBy", fn := fun _ => fun
  | [d1, d2] => { results := [.lit (.bool true)], args := [d1, d2] }
  | _ => none }
def quotientByRow : OpenClaim := { program := "ytappekjkcgmheaa", sum := "d94a2e9912934d47083b95b3d9d917a5abdad39dfc54b2203124be847929a08f", func := "hasse/hasselaw.QuotientBy", spec := "quotientBy", unfollowed := true, recurses := true, plainKeys := false, apart := false }
def QuotientBySaid : Prop := quotientByRow.holds Try.pinned (OpenSpec.ofChange quotientBySpec)

/-- ITS FALSE NEIGHBOUR: 'it returns false'. Refute it at one input. -/
def quotientByWrong : ChangeSpec := { name := "quotientBy", fn := fun _ => fun
  | [d1, d2] => { results := [.lit (.bool false)], args := [d1, d2] }
  | _ => none }
def QuotientByWrongFalsely : Prop := quotientByRow.holds Try.pinned (OpenSpec.ofChange quotientByWrong)

/-- 'hasselaw.QuotientMaps': WHATEVER THE INPUT: true; the input reads as it did. -/
def quotientMapsSpec : ChangeSpec := { name := "quotientMaps", fn := fun _ => fun
  | [d1, d2, d3] => { results := [.lit (.bool true)], args := [d1, d2, d3] }
  | _ => none }
def quotientMapsRow : OpenClaim := { program := "ytappekjkcgmheaa", sum := "d94a2e9912934d47083b95b3d9d917a5abdad39dfc54b2203124be847929a08f", func := "hasse/hasselaw.QuotientMaps", spec := "quotientMaps", unfollowed := true, recurses := true, plainKeys := false, apart := false }
def QuotientMapsSaid : Prop := quotientMapsRow.holds Try.pinned (OpenSpec.ofChange quotientMapsSpec)

/-- ITS FALSE NEIGHBOUR: 'it returns false'. Refute it at one input. -/
def quotientMapsWrong : ChangeSpec := { name := "quotientMaps", fn := fun _ => fun
  | [d1, d2, d3] => { results := [.lit (.bool false)], args := [d1, d2, d3] }
  | _ => none }
def QuotientMapsWrongFalsely : Prop := quotientMapsRow.holds Try.pinned (OpenSpec.ofChange quotientMapsWrong)

/-- 'hasselaw.QuotientSmallest': WHATEVER THE INPUT: true; the input reads as it did. -/
def quotientSmallestSpec : ChangeSpec := { name := "quotientSmallest", fn := fun _ => fun
  | [d1, d2, d3, d4] => { results := [.lit (.bool true)], args := [d1, d2, d3, d4] }
  | _ => none }
def quotientSmallestRow : OpenClaim := { program := "ytappekjkcgmheaa", sum := "d94a2e9912934d47083b95b3d9d917a5abdad39dfc54b2203124be847929a08f", func := "hasse/hasselaw.QuotientSmallest", spec := "quotientSmallest", unfollowed := true, recurses := true, plainKeys := false, apart := false }
def QuotientSmallestSaid : Prop := quotientSmallestRow.holds Try.pinned (OpenSpec.ofChange quotientSmallestSpec)

/-- ITS FALSE NEIGHBOUR: 'it returns false'. Refute it at one input. -/
def quotientSmallestWrong : ChangeSpec := { name := "quotientSmallest", fn := fun _ => fun
  | [d1, d2, d3, d4] => { results := [.lit (.bool false)], args := [d1, d2, d3, d4] }
  | _ => none }
def QuotientSmallestWrongFalsely : Prop := quotientSmallestRow.holds Try.pinned (OpenSpec.ofChange quotientSmallestWrong)

/- THE SECOND FORM. 'bulk': how many values and letters a reading holds, each counted each time it is reached (what is shared counts as often as it is met; a slice's spare places count too). A statement '..UptoSaid' is the law's where the arguments, and the package variables that the reading takes, are together of bulk at most 1048576: NARROWER than '..Said'. Prove '..Said' where nothing that the law and all that it calls make is longer than what came in: it says more and counts as full. Else prove '..UptoSaid'. A law counts once. -/
mutual
def uptoBulk {H : Type} : DataW H → Nat
  | .lit (.string bytes) => bytes.length + 1
  | .lit _ => 1
  | .nil => 1
  | .ptr d => uptoBulk d + 1
  | .slice elems spare => uptoBulkAll elems + uptoBulkAll spare + 1
  | .agg parts => uptoBulkAll parts + 1
  | .iface _ d => uptoBulk d + 1
  | .map entries => uptoBulkEntries entries + 1
  | .held _ => 1
def uptoBulkAll {H : Type} : List (DataW H) → Nat
  | [] => 0
  | d :: r => uptoBulk d + uptoBulkAll r
def uptoBulkEntries {H : Type} : List (Lit × DataW H) → Nat
  | [] => 0
  | x :: r => uptoBulkEntry x + uptoBulkEntries r
def uptoBulkEntry {H : Type} : Lit × DataW H → Nat
  | (.string bytes, d) => bytes.length + uptoBulk d + 1
  | (_, d) => uptoBulk d + 1
 end
def uptoSmall : (H : Type) → List (DataW H) → Bool := fun _ ds => decide (uptoBulkAll ds ≤ 1048576)
def OpenSpec.upto (s : _root_.Go.ChangeSpec) : _root_.Go.OpenSpec := { _root_.Go.OpenSpec.ofChange s with cond := some uptoSmall }

/-- 'hasselaw.QuotientChecks', WHERE WHAT IT READS IS OF BULK AT MOST 1048576: true; the input reads as it did. -/
def quotientChecksUptoRow : OpenClaim := { program := "ytappekjkcgmheaa", sum := "d94a2e9912934d47083b95b3d9d917a5abdad39dfc54b2203124be847929a08f", func := "hasse/hasselaw.QuotientChecks", spec := "quotientChecks", unfollowed := true, recurses := true, plainKeys := false, apart := false, narrowed := true }
def QuotientChecksUptoSaid : Prop := quotientChecksUptoRow.holds Try.pinned (OpenSpec.upto quotientChecksSpec)

/-- 'hasselaw.QuotientLeast', WHERE WHAT IT READS IS OF BULK AT MOST 1048576: true; the input reads as it did. -/
def quotientLeastUptoRow : OpenClaim := { program := "ytappekjkcgmheaa", sum := "d94a2e9912934d47083b95b3d9d917a5abdad39dfc54b2203124be847929a08f", func := "hasse/hasselaw.QuotientLeast", spec := "quotientLeast", unfollowed := true, recurses := true, plainKeys := false, apart := false, narrowed := true }
def QuotientLeastUptoSaid : Prop := quotientLeastUptoRow.holds Try.pinned (OpenSpec.upto quotientLeastSpec)

/-- 'hasselaw.QuotientAll', WHERE WHAT IT READS IS OF BULK AT MOST 1048576: true; the input reads as it did. -/
def quotientAllUptoRow : OpenClaim := { program := "ytappekjkcgmheaa", sum := "d94a2e9912934d47083b95b3d9d917a5abdad39dfc54b2203124be847929a08f", func := "hasse/hasselaw.QuotientAll", spec := "quotientAll", unfollowed := true, recurses := true, plainKeys := false, apart := false, narrowed := true }
def QuotientAllUptoSaid : Prop := quotientAllUptoRow.holds Try.pinned (OpenSpec.upto quotientAllSpec)

/-- 'hasselaw.QuotientBy', WHERE WHAT IT READS IS OF BULK AT MOST 1048576: true; the input reads as it did. -/
def quotientByUptoRow : OpenClaim := { program := "ytappekjkcgmheaa", sum := "d94a2e9912934d47083b95b3d9d917a5abdad39dfc54b2203124be847929a08f", func := "hasse/hasselaw.QuotientBy", spec := "quotientBy", unfollowed := true, recurses := true, plainKeys := false, apart := false, narrowed := true }
def QuotientByUptoSaid : Prop := quotientByUptoRow.holds Try.pinned (OpenSpec.upto quotientBySpec)

/-- 'hasselaw.QuotientMaps', WHERE WHAT IT READS IS OF BULK AT MOST 1048576: true; the input reads as it did. -/
def quotientMapsUptoRow : OpenClaim := { program := "ytappekjkcgmheaa", sum := "d94a2e9912934d47083b95b3d9d917a5abdad39dfc54b2203124be847929a08f", func := "hasse/hasselaw.QuotientMaps", spec := "quotientMaps", unfollowed := true, recurses := true, plainKeys := false, apart := false, narrowed := true }
def QuotientMapsUptoSaid : Prop := quotientMapsUptoRow.holds Try.pinned (OpenSpec.upto quotientMapsSpec)

/-- 'hasselaw.QuotientSmallest', WHERE WHAT IT READS IS OF BULK AT MOST 1048576: true; the input reads as it did. -/
def quotientSmallestUptoRow : OpenClaim := { program := "ytappekjkcgmheaa", sum := "d94a2e9912934d47083b95b3d9d917a5abdad39dfc54b2203124be847929a08f", func := "hasse/hasselaw.QuotientSmallest", spec := "quotientSmallest", unfollowed := true, recurses := true, plainKeys := false, apart := false, narrowed := true }
def QuotientSmallestUptoSaid : Prop := quotientSmallestUptoRow.holds Try.pinned (OpenSpec.upto quotientSmallestSpec)

end Rows
end Go.Proofs.Ytappekjkcgmheaa
