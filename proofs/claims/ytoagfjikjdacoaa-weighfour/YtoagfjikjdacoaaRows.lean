/-
  No cell of these rows narrows 'for every input' (looked for: loops, veiled, ifaces, maps, wideKeys, modest, calm, conditions, laid).
  DERIVED. THE GIVEN ROWS OF THIS SEAT. 6 by the template 'for every input the law returns true; each argument reads behind the call as it read before'; 0 by the template 'total and deterministic' (their statements: YtoagfjikjdacoaaTotals.lean).
  GIVEN WITH THE SEED: the statements are not yours to turn. If you find one false, say at which input.
  Laid BY PROGRAM, IN A SANDBOX (cutbox-rows.mjs): the forced cells as the released guide's own fill.sh prints them over the translation d57d2672a6d732e0… (all of the seat's roots in one cut). By AI agents, Wed Nov 11 2026. No macro, syntax, notation, axiom, sorry.
-/
import Derived.Test.YtoagfjikjdacoaaChecked
import GoSem.Claim
import GoSem.ClaimJoined
import GoSem.ClaimMapViews
import Derived.JoinedTies
import Derived.KernelRfl
namespace Go.Proofs.Ytoagfjikjdacoaa
/- THE CELL 'sum', in the pinned program and in every row, IS THE sha256 OF THE DUMP (.gsa) THAT YtoagfjikjdacoaaProg.lean LOADS. Nothing in Lean hashes anything: it is a label: what it is worth is what the hold of that sum in a sandbox is worth. -/
noncomputable def Try.pinned : Pinned := { name := "ytoagfjikjdacoaa", sum := "d57d2672a6d732e06d0386c9d17d5480ea571f84e03033188cd740b5a483c873", checked := Try.checked }
namespace Rows
def none {H : Type} : Left H := { results := [], args := [] }

/-- 'hasselaw.WeighRises': WHATEVER THE INPUT: true; the input reads as it did. -/
def weighRisesSpec : ChangeSpec := { name := "weighRises", fn := fun _ => fun
  | [d1, d2] => { results := [.lit (.bool true)], args := [d1, d2] }
  | _ => none }
def weighRisesRow : OpenClaim := { program := "ytoagfjikjdacoaa", sum := "d57d2672a6d732e06d0386c9d17d5480ea571f84e03033188cd740b5a483c873", func := "hasse/hasselaw.WeighRises", spec := "weighRises", unfollowed := true, recurses := true, apart := false }
def WeighRisesSaid : Prop := weighRisesRow.holds Try.pinned (OpenSpec.ofChange weighRisesSpec)

/-- ITS FALSE NEIGHBOUR: 'it returns false'. Refute it at one input. -/
def weighRisesWrong : ChangeSpec := { name := "weighRises", fn := fun _ => fun
  | [d1, d2] => { results := [.lit (.bool false)], args := [d1, d2] }
  | _ => none }
def WeighRisesWrongFalsely : Prop := weighRisesRow.holds Try.pinned (OpenSpec.ofChange weighRisesWrong)

/-- 'hasselaw.WeighCurved': WHATEVER THE INPUT: true; the input reads as it did. -/
def weighCurvedSpec : ChangeSpec := { name := "weighCurved", fn := fun _ => fun
  | [d1, d2] => { results := [.lit (.bool true)], args := [d1, d2] }
  | _ => none }
def weighCurvedRow : OpenClaim := { program := "ytoagfjikjdacoaa", sum := "d57d2672a6d732e06d0386c9d17d5480ea571f84e03033188cd740b5a483c873", func := "hasse/hasselaw.WeighCurved", spec := "weighCurved", unfollowed := true, recurses := true, apart := false }
def WeighCurvedSaid : Prop := weighCurvedRow.holds Try.pinned (OpenSpec.ofChange weighCurvedSpec)

/-- ITS FALSE NEIGHBOUR: 'it returns false'. Refute it at one input. -/
def weighCurvedWrong : ChangeSpec := { name := "weighCurved", fn := fun _ => fun
  | [d1, d2] => { results := [.lit (.bool false)], args := [d1, d2] }
  | _ => none }
def WeighCurvedWrongFalsely : Prop := weighCurvedRow.holds Try.pinned (OpenSpec.ofChange weighCurvedWrong)

/-- 'hasselaw.WeighFour': WHATEVER THE INPUT: true; the input reads as it did. -/
def weighFourSpec : ChangeSpec := { name := "weighFour", fn := fun _ => fun
  | [d1, d2, d3, d4, d5] => { results := [.lit (.bool true)], args := [d1, d2, d3, d4, d5] }
  | _ => none }
def weighFourRow : OpenClaim := { program := "ytoagfjikjdacoaa", sum := "d57d2672a6d732e06d0386c9d17d5480ea571f84e03033188cd740b5a483c873", func := "hasse/hasselaw.WeighFour", spec := "weighFour", unfollowed := true, recurses := true, apart := false }
def WeighFourSaid : Prop := weighFourRow.holds Try.pinned (OpenSpec.ofChange weighFourSpec)

/-- ITS FALSE NEIGHBOUR: 'it returns false'. Refute it at one input. -/
def weighFourWrong : ChangeSpec := { name := "weighFour", fn := fun _ => fun
  | [d1, d2, d3, d4, d5] => { results := [.lit (.bool false)], args := [d1, d2, d3, d4, d5] }
  | _ => none }
def WeighFourWrongFalsely : Prop := weighFourRow.holds Try.pinned (OpenSpec.ofChange weighFourWrong)

/-- 'hasselaw.WeighSums': WHATEVER THE INPUT: true; the input reads as it did. -/
def weighSumsSpec : ChangeSpec := { name := "weighSums", fn := fun _ => fun
  | [d1, d2, d3, d4] => { results := [.lit (.bool true)], args := [d1, d2, d3, d4] }
  | _ => none }
def weighSumsRow : OpenClaim := { program := "ytoagfjikjdacoaa", sum := "d57d2672a6d732e06d0386c9d17d5480ea571f84e03033188cd740b5a483c873", func := "hasse/hasselaw.WeighSums", spec := "weighSums", unfollowed := true, recurses := true, apart := false }
def WeighSumsSaid : Prop := weighSumsRow.holds Try.pinned (OpenSpec.ofChange weighSumsSpec)

/-- ITS FALSE NEIGHBOUR: 'it returns false'. Refute it at one input. -/
def weighSumsWrong : ChangeSpec := { name := "weighSums", fn := fun _ => fun
  | [d1, d2, d3, d4] => { results := [.lit (.bool false)], args := [d1, d2, d3, d4] }
  | _ => none }
def WeighSumsWrongFalsely : Prop := weighSumsRow.holds Try.pinned (OpenSpec.ofChange weighSumsWrong)

/-- 'hasselaw.WeighHarris': WHATEVER THE INPUT: true; the input reads as it did. -/
def weighHarrisSpec : ChangeSpec := { name := "weighHarris", fn := fun _ => fun
  | [d1, d2, d3, d4] => { results := [.lit (.bool true)], args := [d1, d2, d3, d4] }
  | _ => none }
def weighHarrisRow : OpenClaim := { program := "ytoagfjikjdacoaa", sum := "d57d2672a6d732e06d0386c9d17d5480ea571f84e03033188cd740b5a483c873", func := "hasse/hasselaw.WeighHarris", spec := "weighHarris", unfollowed := true, recurses := true, apart := false }
def WeighHarrisSaid : Prop := weighHarrisRow.holds Try.pinned (OpenSpec.ofChange weighHarrisSpec)

/-- ITS FALSE NEIGHBOUR: 'it returns false'. Refute it at one input. -/
def weighHarrisWrong : ChangeSpec := { name := "weighHarris", fn := fun _ => fun
  | [d1, d2, d3, d4] => { results := [.lit (.bool false)], args := [d1, d2, d3, d4] }
  | _ => none }
def WeighHarrisWrongFalsely : Prop := weighHarrisRow.holds Try.pinned (OpenSpec.ofChange weighHarrisWrong)

/-- 'hasselaw.WeighDaykin': WHATEVER THE INPUT: true; the input reads as it did. -/
def weighDaykinSpec : ChangeSpec := { name := "weighDaykin", fn := fun _ => fun
  | [d1, d2, d3, d4, d5] => { results := [.lit (.bool true)], args := [d1, d2, d3, d4, d5] }
  | _ => none }
def weighDaykinRow : OpenClaim := { program := "ytoagfjikjdacoaa", sum := "d57d2672a6d732e06d0386c9d17d5480ea571f84e03033188cd740b5a483c873", func := "hasse/hasselaw.WeighDaykin", spec := "weighDaykin", unfollowed := true, recurses := true, apart := false }
def WeighDaykinSaid : Prop := weighDaykinRow.holds Try.pinned (OpenSpec.ofChange weighDaykinSpec)

/-- ITS FALSE NEIGHBOUR: 'it returns false'. Refute it at one input. -/
def weighDaykinWrong : ChangeSpec := { name := "weighDaykin", fn := fun _ => fun
  | [d1, d2, d3, d4, d5] => { results := [.lit (.bool false)], args := [d1, d2, d3, d4, d5] }
  | _ => none }
def WeighDaykinWrongFalsely : Prop := weighDaykinRow.holds Try.pinned (OpenSpec.ofChange weighDaykinWrong)

/- THE SECOND FORM. 'bulk': how many values and letters a reading holds, each counted each time it is reached (what is shared counts as often as it is met; a slice's spare places count too). A statement '..UptoSaid' is the law's where the arguments, and the package variables that the reading takes, are together of bulk at most 1048576: NARROWER than '..Said'. Prove '..Said' where nothing that the law and all that it calls make is longer than what came in: it says more and counts as full. Else prove '..UptoSaid'. A law counts once. -/
mutual
def uptoBulk {H : Type} : DataW H → Nat
  | .lit (.string bytes) => bytes.length + 1
  | .lit _ => 1
  | .nil => 1
  | .ptr d => uptoBulk d + 1
  | .slice elems spare => uptoBulkAll elems + uptoBulkAll spare + 1
  | .agg parts => uptoBulkAll parts + 1
  | .iface _ d => uptoBulk d + 1
  | .map entries => uptoBulkEntries entries + 1
  | .held _ => 1
def uptoBulkAll {H : Type} : List (DataW H) → Nat
  | [] => 0
  | d :: r => uptoBulk d + uptoBulkAll r
def uptoBulkEntries {H : Type} : List (Lit × DataW H) → Nat
  | [] => 0
  | x :: r => uptoBulkEntry x + uptoBulkEntries r
def uptoBulkEntry {H : Type} : Lit × DataW H → Nat
  | (.string bytes, d) => bytes.length + uptoBulk d + 1
  | (_, d) => uptoBulk d + 1
 end
def uptoSmall : (H : Type) → List (DataW H) → Bool := fun _ ds => decide (uptoBulkAll ds ≤ 1048576)
def OpenSpec.upto (s : _root_.Go.ChangeSpec) : _root_.Go.OpenSpec := { _root_.Go.OpenSpec.ofChange s with cond := some uptoSmall }

/-- 'hasselaw.WeighRises', WHERE WHAT IT READS IS OF BULK AT MOST 1048576: true; the input reads as it did. -/
def weighRisesUptoRow : OpenClaim := { program := "ytoagfjikjdacoaa", sum := "d57d2672a6d732e06d0386c9d17d5480ea571f84e03033188cd740b5a483c873", func := "hasse/hasselaw.WeighRises", spec := "weighRises", unfollowed := true, recurses := true, apart := false, narrowed := true }
def WeighRisesUptoSaid : Prop := weighRisesUptoRow.holds Try.pinned (OpenSpec.upto weighRisesSpec)

/-- 'hasselaw.WeighCurved', WHERE WHAT IT READS IS OF BULK AT MOST 1048576: true; the input reads as it did. -/
def weighCurvedUptoRow : OpenClaim := { program := "ytoagfjikjdacoaa", sum := "d57d2672a6d732e06d0386c9d17d5480ea571f84e03033188cd740b5a483c873", func := "hasse/hasselaw.WeighCurved", spec := "weighCurved", unfollowed := true, recurses := true, apart := false, narrowed := true }
def WeighCurvedUptoSaid : Prop := weighCurvedUptoRow.holds Try.pinned (OpenSpec.upto weighCurvedSpec)

/-- 'hasselaw.WeighFour', WHERE WHAT IT READS IS OF BULK AT MOST 1048576: true; the input reads as it did. -/
def weighFourUptoRow : OpenClaim := { program := "ytoagfjikjdacoaa", sum := "d57d2672a6d732e06d0386c9d17d5480ea571f84e03033188cd740b5a483c873", func := "hasse/hasselaw.WeighFour", spec := "weighFour", unfollowed := true, recurses := true, apart := false, narrowed := true }
def WeighFourUptoSaid : Prop := weighFourUptoRow.holds Try.pinned (OpenSpec.upto weighFourSpec)

/-- 'hasselaw.WeighSums', WHERE WHAT IT READS IS OF BULK AT MOST 1048576: true; the input reads as it did. -/
def weighSumsUptoRow : OpenClaim := { program := "ytoagfjikjdacoaa", sum := "d57d2672a6d732e06d0386c9d17d5480ea571f84e03033188cd740b5a483c873", func := "hasse/hasselaw.WeighSums", spec := "weighSums", unfollowed := true, recurses := true, apart := false, narrowed := true }
def WeighSumsUptoSaid : Prop := weighSumsUptoRow.holds Try.pinned (OpenSpec.upto weighSumsSpec)

/-- 'hasselaw.WeighHarris', WHERE WHAT IT READS IS OF BULK AT MOST 1048576: true; the input reads as it did. -/
def weighHarrisUptoRow : OpenClaim := { program := "ytoagfjikjdacoaa", sum := "d57d2672a6d732e06d0386c9d17d5480ea571f84e03033188cd740b5a483c873", func := "hasse/hasselaw.WeighHarris", spec := "weighHarris", unfollowed := true, recurses := true, apart := false, narrowed := true }
def WeighHarrisUptoSaid : Prop := weighHarrisUptoRow.holds Try.pinned (OpenSpec.upto weighHarrisSpec)

/-- 'hasselaw.WeighDaykin', WHERE WHAT IT READS IS OF BULK AT MOST 1048576: true; the input reads as it did. -/
def weighDaykinUptoRow : OpenClaim := { program := "ytoagfjikjdacoaa", sum := "d57d2672a6d732e06d0386c9d17d5480ea571f84e03033188cd740b5a483c873", func := "hasse/hasselaw.WeighDaykin", spec := "weighDaykin", unfollowed := true, recurses := true, apart := false, narrowed := true }
def WeighDaykinUptoSaid : Prop := weighDaykinUptoRow.holds Try.pinned (OpenSpec.upto weighDaykinSpec)

end Rows
end Go.Proofs.Ytoagfjikjdacoaa
