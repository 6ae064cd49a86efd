/-
  No cell of these rows narrows 'for every input' (looked for: loops, veiled, ifaces, maps, wideKeys, modest, calm, conditions, laid).
  DERIVED. THE GIVEN ROWS OF THIS SEAT. 6 by the template 'for every input the law returns true; each argument reads behind the call as it read before'; 0 by the template 'total and deterministic' (their statements: YtahnkmdhhdgfhaaTotals.lean).
  GIVEN WITH THE SEED: the statements are not yours to turn. If you find one false, say at which input.
  Laid BY PROGRAM, IN A SANDBOX (cutbox-rows.mjs): the forced cells as the released guide's own fill.sh prints them over the translation 0b4f971f83a4377e… (all of the seat's roots in one cut). By AI agents, Wed Nov 11 2026. No macro, syntax, notation, axiom, sorry.
-/
import Derived.Test.YtahnkmdhhdgfhaaChecked
import GoSem.Claim
import GoSem.ClaimJoined
import GoSem.ClaimMapViews
import Derived.JoinedTies
import Derived.KernelRfl
namespace Go.Proofs.Ytahnkmdhhdgfhaa
/- THE CELL 'sum', in the pinned program and in every row, IS THE sha256 OF THE DUMP (.gsa) THAT YtahnkmdhhdgfhaaProg.lean LOADS. Nothing in Lean hashes anything: it is a label: what it is worth is what the hold of that sum in a sandbox is worth. -/
noncomputable def Try.pinned : Pinned := { name := "ytahnkmdhhdgfhaa", sum := "0b4f971f83a4377e784f2d7aade3e2031982053031193ce152516ccc707a3a08", checked := Try.checked }
namespace Rows
def none {H : Type} : Left H := { results := [], args := [] }

/-- 'hasselaw.MatchChecks': WHATEVER THE INPUT: true; the input reads as it did. -/
def matchChecksSpec : ChangeSpec := { name := "matchChecks", fn := fun _ => fun
  | [d] => { results := [.lit (.bool true)], args := [d] }
  | _ => none }
def matchChecksRow : OpenClaim := { program := "ytahnkmdhhdgfhaa", sum := "0b4f971f83a4377e784f2d7aade3e2031982053031193ce152516ccc707a3a08", func := "hasse/hasselaw.MatchChecks", spec := "matchChecks", apart := false }
def MatchChecksSaid : Prop := matchChecksRow.holds Try.pinned (OpenSpec.ofChange matchChecksSpec)

/-- ITS FALSE NEIGHBOUR: 'it returns false'. Refute it at one input. -/
def matchChecksWrong : ChangeSpec := { name := "matchChecks", fn := fun _ => fun
  | [d] => { results := [.lit (.bool false)], args := [d] }
  | _ => none }
def MatchChecksWrongFalsely : Prop := matchChecksRow.holds Try.pinned (OpenSpec.ofChange matchChecksWrong)

/-- 'hasselaw.MatchBest': WHATEVER THE INPUT: true; the input reads as it did. -/
def matchBestSpec : ChangeSpec := { name := "matchBest", fn := fun _ => fun
  | [d] => { results := [.lit (.bool true)], args := [d] }
  | _ => none }
def matchBestRow : OpenClaim := { program := "ytahnkmdhhdgfhaa", sum := "0b4f971f83a4377e784f2d7aade3e2031982053031193ce152516ccc707a3a08", func := "hasse/hasselaw.MatchBest", spec := "matchBest", recurses := true, apart := false }
def MatchBestSaid : Prop := matchBestRow.holds Try.pinned (OpenSpec.ofChange matchBestSpec)

/-- ITS FALSE NEIGHBOUR: 'it returns false'. Refute it at one input. -/
def matchBestWrong : ChangeSpec := { name := "matchBest", fn := fun _ => fun
  | [d] => { results := [.lit (.bool false)], args := [d] }
  | _ => none }
def MatchBestWrongFalsely : Prop := matchBestRow.holds Try.pinned (OpenSpec.ofChange matchBestWrong)

/-- 'hasselaw.MatchCovers': WHATEVER THE INPUT: true; the input reads as it did. -/
def matchCoversSpec : ChangeSpec := { name := "matchCovers", fn := fun _ => fun
  | [d] => { results := [.lit (.bool true)], args := [d] }
  | _ => none }
def matchCoversRow : OpenClaim := { program := "ytahnkmdhhdgfhaa", sum := "0b4f971f83a4377e784f2d7aade3e2031982053031193ce152516ccc707a3a08", func := "hasse/hasselaw.MatchCovers", spec := "matchCovers", recurses := true, apart := false }
def MatchCoversSaid : Prop := matchCoversRow.holds Try.pinned (OpenSpec.ofChange matchCoversSpec)

/-- ITS FALSE NEIGHBOUR: 'it returns false'. Refute it at one input. -/
def matchCoversWrong : ChangeSpec := { name := "matchCovers", fn := fun _ => fun
  | [d] => { results := [.lit (.bool false)], args := [d] }
  | _ => none }
def MatchCoversWrongFalsely : Prop := matchCoversRow.holds Try.pinned (OpenSpec.ofChange matchCoversWrong)

/-- 'hasselaw.MatchLacks': WHATEVER THE INPUT: true; the input reads as it did. -/
def matchLacksSpec : ChangeSpec := { name := "matchLacks", fn := fun _ => fun
  | [d] => { results := [.lit (.bool true)], args := [d] }
  | _ => none }
def matchLacksRow : OpenClaim := { program := "ytahnkmdhhdgfhaa", sum := "0b4f971f83a4377e784f2d7aade3e2031982053031193ce152516ccc707a3a08", func := "hasse/hasselaw.MatchLacks", spec := "matchLacks", apart := false }
def MatchLacksSaid : Prop := matchLacksRow.holds Try.pinned (OpenSpec.ofChange matchLacksSpec)

/-- ITS FALSE NEIGHBOUR: 'it returns false'. Refute it at one input. -/
def matchLacksWrong : ChangeSpec := { name := "matchLacks", fn := fun _ => fun
  | [d] => { results := [.lit (.bool false)], args := [d] }
  | _ => none }
def MatchLacksWrongFalsely : Prop := matchLacksRow.holds Try.pinned (OpenSpec.ofChange matchLacksWrong)

/-- 'hasselaw.MatchCounts': WHATEVER THE INPUT: true; the input reads as it did. -/
def matchCountsSpec : ChangeSpec := { name := "matchCounts", fn := fun _ => fun
  | [d] => { results := [.lit (.bool true)], args := [d] }
  | _ => none }
def matchCountsRow : OpenClaim := { program := "ytahnkmdhhdgfhaa", sum := "0b4f971f83a4377e784f2d7aade3e2031982053031193ce152516ccc707a3a08", func := "hasse/hasselaw.MatchCounts", spec := "matchCounts", recurses := true, apart := false }
def MatchCountsSaid : Prop := matchCountsRow.holds Try.pinned (OpenSpec.ofChange matchCountsSpec)

/-- ITS FALSE NEIGHBOUR: 'it returns false'. Refute it at one input. -/
def matchCountsWrong : ChangeSpec := { name := "matchCounts", fn := fun _ => fun
  | [d] => { results := [.lit (.bool false)], args := [d] }
  | _ => none }
def MatchCountsWrongFalsely : Prop := matchCountsRow.holds Try.pinned (OpenSpec.ofChange matchCountsWrong)

/-- 'hasselaw.MatchKoenig': WHATEVER THE INPUT: true; the input reads as it did. -/
def matchKoenigSpec : ChangeSpec := { name := "matchKoenig", fn := fun _ => fun
  | [d1, d2, d3, d4] => { results := [.lit (.bool true)], args := [d1, d2, d3, d4] }
  | _ => none }
def matchKoenigRow : OpenClaim := { program := "ytahnkmdhhdgfhaa", sum := "0b4f971f83a4377e784f2d7aade3e2031982053031193ce152516ccc707a3a08", func := "hasse/hasselaw.MatchKoenig", spec := "matchKoenig", recurses := true, apart := false }
def MatchKoenigSaid : Prop := matchKoenigRow.holds Try.pinned (OpenSpec.ofChange matchKoenigSpec)

/-- ITS FALSE NEIGHBOUR: 'it returns false'. Refute it at one input. -/
def matchKoenigWrong : ChangeSpec := { name := "matchKoenig", fn := fun _ => fun
  | [d1, d2, d3, d4] => { results := [.lit (.bool false)], args := [d1, d2, d3, d4] }
  | _ => none }
def MatchKoenigWrongFalsely : Prop := matchKoenigRow.holds Try.pinned (OpenSpec.ofChange matchKoenigWrong)

/- THE SECOND FORM. 'bulk': how many values and letters a reading holds, each counted each time it is reached (what is shared counts as often as it is met; a slice's spare places count too). A statement '..UptoSaid' is the law's where the arguments, and the package variables that the reading takes, are together of bulk at most 1048576: NARROWER than '..Said'. Prove '..Said' where nothing that the law and all that it calls make is longer than what came in: it says more and counts as full. Else prove '..UptoSaid'. A law counts once. -/
mutual
def uptoBulk {H : Type} : DataW H → Nat
  | .lit (.string bytes) => bytes.length + 1
  | .lit _ => 1
  | .nil => 1
  | .ptr d => uptoBulk d + 1
  | .slice elems spare => uptoBulkAll elems + uptoBulkAll spare + 1
  | .agg parts => uptoBulkAll parts + 1
  | .iface _ d => uptoBulk d + 1
  | .map entries => uptoBulkEntries entries + 1
  | .held _ => 1
def uptoBulkAll {H : Type} : List (DataW H) → Nat
  | [] => 0
  | d :: r => uptoBulk d + uptoBulkAll r
def uptoBulkEntries {H : Type} : List (Lit × DataW H) → Nat
  | [] => 0
  | x :: r => uptoBulkEntry x + uptoBulkEntries r
def uptoBulkEntry {H : Type} : Lit × DataW H → Nat
  | (.string bytes, d) => bytes.length + uptoBulk d + 1
  | (_, d) => uptoBulk d + 1
 end
def uptoSmall : (H : Type) → List (DataW H) → Bool := fun _ ds => decide (uptoBulkAll ds ≤ 1048576)
def OpenSpec.upto (s : _root_.Go.ChangeSpec) : _root_.Go.OpenSpec := { _root_.Go.OpenSpec.ofChange s with cond := some uptoSmall }

/-- 'hasselaw.MatchChecks', WHERE WHAT IT READS IS OF BULK AT MOST 1048576: true; the input reads as it did. -/
def matchChecksUptoRow : OpenClaim := { program := "ytahnkmdhhdgfhaa", sum := "0b4f971f83a4377e784f2d7aade3e2031982053031193ce152516ccc707a3a08", func := "hasse/hasselaw.MatchChecks", spec := "matchChecks", apart := false, narrowed := true }
def MatchChecksUptoSaid : Prop := matchChecksUptoRow.holds Try.pinned (OpenSpec.upto matchChecksSpec)

/-- 'hasselaw.MatchBest', WHERE WHAT IT READS IS OF BULK AT MOST 1048576: true; the input reads as it did. -/
def matchBestUptoRow : OpenClaim := { program := "ytahnkmdhhdgfhaa", sum := "0b4f971f83a4377e784f2d7aade3e2031982053031193ce152516ccc707a3a08", func := "hasse/hasselaw.MatchBest", spec := "matchBest", recurses := true, apart := false, narrowed := true }
def MatchBestUptoSaid : Prop := matchBestUptoRow.holds Try.pinned (OpenSpec.upto matchBestSpec)

/-- 'hasselaw.MatchCovers', WHERE WHAT IT READS IS OF BULK AT MOST 1048576: true; the input reads as it did. -/
def matchCoversUptoRow : OpenClaim := { program := "ytahnkmdhhdgfhaa", sum := "0b4f971f83a4377e784f2d7aade3e2031982053031193ce152516ccc707a3a08", func := "hasse/hasselaw.MatchCovers", spec := "matchCovers", recurses := true, apart := false, narrowed := true }
def MatchCoversUptoSaid : Prop := matchCoversUptoRow.holds Try.pinned (OpenSpec.upto matchCoversSpec)

/-- 'hasselaw.MatchLacks', WHERE WHAT IT READS IS OF BULK AT MOST 1048576: true; the input reads as it did. -/
def matchLacksUptoRow : OpenClaim := { program := "ytahnkmdhhdgfhaa", sum := "0b4f971f83a4377e784f2d7aade3e2031982053031193ce152516ccc707a3a08", func := "hasse/hasselaw.MatchLacks", spec := "matchLacks", apart := false, narrowed := true }
def MatchLacksUptoSaid : Prop := matchLacksUptoRow.holds Try.pinned (OpenSpec.upto matchLacksSpec)

/-- 'hasselaw.MatchCounts', WHERE WHAT IT READS IS OF BULK AT MOST 1048576: true; the input reads as it did. -/
def matchCountsUptoRow : OpenClaim := { program := "ytahnkmdhhdgfhaa", sum := "0b4f971f83a4377e784f2d7aade3e2031982053031193ce152516ccc707a3a08", func := "hasse/hasselaw.MatchCounts", spec := "matchCounts", recurses := true, apart := false, narrowed := true }
def MatchCountsUptoSaid : Prop := matchCountsUptoRow.holds Try.pinned (OpenSpec.upto matchCountsSpec)

/-- 'hasselaw.MatchKoenig', WHERE WHAT IT READS IS OF BULK AT MOST 1048576: true; the input reads as it did. -/
def matchKoenigUptoRow : OpenClaim := { program := "ytahnkmdhhdgfhaa", sum := "0b4f971f83a4377e784f2d7aade3e2031982053031193ce152516ccc707a3a08", func := "hasse/hasselaw.MatchKoenig", spec := "matchKoenig", recurses := true, apart := false, narrowed := true }
def MatchKoenigUptoSaid : Prop := matchKoenigUptoRow.holds Try.pinned (OpenSpec.upto matchKoenigSpec)

end Rows
end Go.Proofs.Ytahnkmdhhdgfhaa
