/-
  No cell of these rows narrows 'for every input' (looked for: loops, veiled, ifaces, maps, wideKeys, modest, calm, conditions, laid).
  DERIVED. THE GIVEN ROWS OF THIS SEAT. 6 by the template 'for every input the law returns true; each argument reads behind the call as it read before'; 0 by the template 'total and deterministic' (their statements: YtnommlfenaijoaaTotals.lean).
  GIVEN WITH THE SEED: the statements are not yours to turn. If you find one false, say at which input.
  Laid BY PROGRAM, IN A SANDBOX (cutbox-rows.mjs): the forced cells as the released guide's own fill.sh prints them over the translation 4834ef094776dc60… (all of the seat's roots in one cut). By AI agents, Wed Nov 11 2026. No macro, syntax, notation, axiom, sorry.
-/
import Derived.Test.YtnommlfenaijoaaChecked
import GoSem.Claim
import GoSem.ClaimJoined
import GoSem.ClaimMapViews
import Derived.JoinedTies
import Derived.KernelRfl
namespace Go.Proofs.Ytnommlfenaijoaa
/- THE CELL 'sum', in the pinned program and in every row, IS THE sha256 OF THE DUMP (.gsa) THAT YtnommlfenaijoaaProg.lean LOADS. Nothing in Lean hashes anything: it is a label: what it is worth is what the hold of that sum in a sandbox is worth. -/
noncomputable def Try.pinned : Pinned := { name := "ytnommlfenaijoaa", sum := "4834ef094776dc607a1bf25197c6f44172d087d8f8bec4ac766fcfcdbe1c3cdf", checked := Try.checked }
namespace Rows
def none {H : Type} : Left H := { results := [], args := [] }

/-- 'hasselaw.PromotePromotes': WHATEVER THE INPUT: true; the input reads as it did. -/
def promotePromotesSpec : ChangeSpec := { name := "promotePromotes", fn := fun _ => fun
  | [d1, d2] => { results := [.lit (.bool true)], args := [d1, d2] }
  | _ => none }
def promotePromotesRow : OpenClaim := { program := "ytnommlfenaijoaa", sum := "4834ef094776dc607a1bf25197c6f44172d087d8f8bec4ac766fcfcdbe1c3cdf", func := "hasse/hasselaw.PromotePromotes", spec := "promotePromotes", apart := false }
def PromotePromotesSaid : Prop := promotePromotesRow.holds Try.pinned (OpenSpec.ofChange promotePromotesSpec)

/-- ITS FALSE NEIGHBOUR: 'it returns false'. Refute it at one input. -/
def promotePromotesWrong : ChangeSpec := { name := "promotePromotes", fn := fun _ => fun
  | [d1, d2] => { results := [.lit (.bool false)], args := [d1, d2] }
  | _ => none }
def PromotePromotesWrongFalsely : Prop := promotePromotesRow.holds Try.pinned (OpenSpec.ofChange promotePromotesWrong)

/-- 'hasselaw.PromoteDemotes': WHATEVER THE INPUT: true; the input reads as it did. -/
def promoteDemotesSpec : ChangeSpec := { name := "promoteDemotes", fn := fun _ => fun
  | [d1, d2] => { results := [.lit (.bool true)], args := [d1, d2] }
  | _ => none }
def promoteDemotesRow : OpenClaim := { program := "ytnommlfenaijoaa", sum := "4834ef094776dc607a1bf25197c6f44172d087d8f8bec4ac766fcfcdbe1c3cdf", func := "hasse/hasselaw.PromoteDemotes", spec := "promoteDemotes", apart := false }
def PromoteDemotesSaid : Prop := promoteDemotesRow.holds Try.pinned (OpenSpec.ofChange promoteDemotesSpec)

/-- ITS FALSE NEIGHBOUR: 'it returns false'. Refute it at one input. -/
def promoteDemotesWrong : ChangeSpec := { name := "promoteDemotes", fn := fun _ => fun
  | [d1, d2] => { results := [.lit (.bool false)], args := [d1, d2] }
  | _ => none }
def PromoteDemotesWrongFalsely : Prop := promoteDemotesRow.holds Try.pinned (OpenSpec.ofChange promoteDemotesWrong)

/-- 'hasselaw.PromoteEvacuates': WHATEVER THE INPUT: true; the input reads as it did. -/
def promoteEvacuatesSpec : ChangeSpec := { name := "promoteEvacuates", fn := fun _ => fun
  | [d1, d2] => { results := [.lit (.bool true)], args := [d1, d2] }
  | _ => none }
def promoteEvacuatesRow : OpenClaim := { program := "ytnommlfenaijoaa", sum := "4834ef094776dc607a1bf25197c6f44172d087d8f8bec4ac766fcfcdbe1c3cdf", func := "hasse/hasselaw.PromoteEvacuates", spec := "promoteEvacuates", apart := false }
def PromoteEvacuatesSaid : Prop := promoteEvacuatesRow.holds Try.pinned (OpenSpec.ofChange promoteEvacuatesSpec)

/-- ITS FALSE NEIGHBOUR: 'it returns false'. Refute it at one input. -/
def promoteEvacuatesWrong : ChangeSpec := { name := "promoteEvacuates", fn := fun _ => fun
  | [d1, d2] => { results := [.lit (.bool false)], args := [d1, d2] }
  | _ => none }
def PromoteEvacuatesWrongFalsely : Prop := promoteEvacuatesRow.holds Try.pinned (OpenSpec.ofChange promoteEvacuatesWrong)

/-- 'hasselaw.PromoteOrbits': WHATEVER THE INPUT: true; the input reads as it did. -/
def promoteOrbitsSpec : ChangeSpec := { name := "promoteOrbits", fn := fun _ => fun
  | [d1, d2] => { results := [.lit (.bool true)], args := [d1, d2] }
  | _ => none }
def promoteOrbitsRow : OpenClaim := { program := "ytnommlfenaijoaa", sum := "4834ef094776dc607a1bf25197c6f44172d087d8f8bec4ac766fcfcdbe1c3cdf", func := "hasse/hasselaw.PromoteOrbits", spec := "promoteOrbits", apart := false }
def PromoteOrbitsSaid : Prop := promoteOrbitsRow.holds Try.pinned (OpenSpec.ofChange promoteOrbitsSpec)

/-- ITS FALSE NEIGHBOUR: 'it returns false'. Refute it at one input. -/
def promoteOrbitsWrong : ChangeSpec := { name := "promoteOrbits", fn := fun _ => fun
  | [d1, d2] => { results := [.lit (.bool false)], args := [d1, d2] }
  | _ => none }
def PromoteOrbitsWrongFalsely : Prop := promoteOrbitsRow.holds Try.pinned (OpenSpec.ofChange promoteOrbitsWrong)

/-- 'hasselaw.PromoteBack': WHATEVER THE INPUT: true; the input reads as it did. -/
def promoteBackSpec : ChangeSpec := { name := "promoteBack", fn := fun _ => fun
  | [d1, d2] => { results := [.lit (.bool true)], args := [d1, d2] }
  | _ => none }
def promoteBackRow : OpenClaim := { program := "ytnommlfenaijoaa", sum := "4834ef094776dc607a1bf25197c6f44172d087d8f8bec4ac766fcfcdbe1c3cdf", func := "hasse/hasselaw.PromoteBack", spec := "promoteBack", apart := false }
def PromoteBackSaid : Prop := promoteBackRow.holds Try.pinned (OpenSpec.ofChange promoteBackSpec)

/-- ITS FALSE NEIGHBOUR: 'it returns false'. Refute it at one input. -/
def promoteBackWrong : ChangeSpec := { name := "promoteBack", fn := fun _ => fun
  | [d1, d2] => { results := [.lit (.bool false)], args := [d1, d2] }
  | _ => none }
def PromoteBackWrongFalsely : Prop := promoteBackRow.holds Try.pinned (OpenSpec.ofChange promoteBackWrong)

/-- 'hasselaw.PromoteTwice': WHATEVER THE INPUT: true; the input reads as it did. -/
def promoteTwiceSpec : ChangeSpec := { name := "promoteTwice", fn := fun _ => fun
  | [d1, d2] => { results := [.lit (.bool true)], args := [d1, d2] }
  | _ => none }
def promoteTwiceRow : OpenClaim := { program := "ytnommlfenaijoaa", sum := "4834ef094776dc607a1bf25197c6f44172d087d8f8bec4ac766fcfcdbe1c3cdf", func := "hasse/hasselaw.PromoteTwice", spec := "promoteTwice", apart := false }
def PromoteTwiceSaid : Prop := promoteTwiceRow.holds Try.pinned (OpenSpec.ofChange promoteTwiceSpec)

/-- ITS FALSE NEIGHBOUR: 'it returns false'. Refute it at one input. -/
def promoteTwiceWrong : ChangeSpec := { name := "promoteTwice", fn := fun _ => fun
  | [d1, d2] => { results := [.lit (.bool false)], args := [d1, d2] }
  | _ => none }
def PromoteTwiceWrongFalsely : Prop := promoteTwiceRow.holds Try.pinned (OpenSpec.ofChange promoteTwiceWrong)

/- THE SECOND FORM. 'bulk': how many values and letters a reading holds, each counted each time it is reached (what is shared counts as often as it is met; a slice's spare places count too). A statement '..UptoSaid' is the law's where the arguments, and the package variables that the reading takes, are together of bulk at most 1048576: NARROWER than '..Said'. Prove '..Said' where nothing that the law and all that it calls make is longer than what came in: it says more and counts as full. Else prove '..UptoSaid'. A law counts once. -/
mutual
def uptoBulk {H : Type} : DataW H → Nat
  | .lit (.string bytes) => bytes.length + 1
  | .lit _ => 1
  | .nil => 1
  | .ptr d => uptoBulk d + 1
  | .slice elems spare => uptoBulkAll elems + uptoBulkAll spare + 1
  | .agg parts => uptoBulkAll parts + 1
  | .iface _ d => uptoBulk d + 1
  | .map entries => uptoBulkEntries entries + 1
  | .held _ => 1
def uptoBulkAll {H : Type} : List (DataW H) → Nat
  | [] => 0
  | d :: r => uptoBulk d + uptoBulkAll r
def uptoBulkEntries {H : Type} : List (Lit × DataW H) → Nat
  | [] => 0
  | x :: r => uptoBulkEntry x + uptoBulkEntries r
def uptoBulkEntry {H : Type} : Lit × DataW H → Nat
  | (.string bytes, d) => bytes.length + uptoBulk d + 1
  | (_, d) => uptoBulk d + 1
 end
def uptoSmall : (H : Type) → List (DataW H) → Bool := fun _ ds => decide (uptoBulkAll ds ≤ 1048576)
def OpenSpec.upto (s : _root_.Go.ChangeSpec) : _root_.Go.OpenSpec := { _root_.Go.OpenSpec.ofChange s with cond := some uptoSmall }

/-- 'hasselaw.PromotePromotes', WHERE WHAT IT READS IS OF BULK AT MOST 1048576: true; the input reads as it did. -/
def promotePromotesUptoRow : OpenClaim := { program := "ytnommlfenaijoaa", sum := "4834ef094776dc607a1bf25197c6f44172d087d8f8bec4ac766fcfcdbe1c3cdf", func := "hasse/hasselaw.PromotePromotes", spec := "promotePromotes", apart := false, narrowed := true }
def PromotePromotesUptoSaid : Prop := promotePromotesUptoRow.holds Try.pinned (OpenSpec.upto promotePromotesSpec)

/-- 'hasselaw.PromoteDemotes', WHERE WHAT IT READS IS OF BULK AT MOST 1048576: true; the input reads as it did. -/
def promoteDemotesUptoRow : OpenClaim := { program := "ytnommlfenaijoaa", sum := "4834ef094776dc607a1bf25197c6f44172d087d8f8bec4ac766fcfcdbe1c3cdf", func := "hasse/hasselaw.PromoteDemotes", spec := "promoteDemotes", apart := false, narrowed := true }
def PromoteDemotesUptoSaid : Prop := promoteDemotesUptoRow.holds Try.pinned (OpenSpec.upto promoteDemotesSpec)

/-- 'hasselaw.PromoteEvacuates', WHERE WHAT IT READS IS OF BULK AT MOST 1048576: true; the input reads as it did. -/
def promoteEvacuatesUptoRow : OpenClaim := { program := "ytnommlfenaijoaa", sum := "4834ef094776dc607a1bf25197c6f44172d087d8f8bec4ac766fcfcdbe1c3cdf", func := "hasse/hasselaw.PromoteEvacuates", spec := "promoteEvacuates", apart := false, narrowed := true }
def PromoteEvacuatesUptoSaid : Prop := promoteEvacuatesUptoRow.holds Try.pinned (OpenSpec.upto promoteEvacuatesSpec)

/-- 'hasselaw.PromoteOrbits', WHERE WHAT IT READS IS OF BULK AT MOST 1048576: true; the input reads as it did. -/
def promoteOrbitsUptoRow : OpenClaim := { program := "ytnommlfenaijoaa", sum := "4834ef094776dc607a1bf25197c6f44172d087d8f8bec4ac766fcfcdbe1c3cdf", func := "hasse/hasselaw.PromoteOrbits", spec := "promoteOrbits", apart := false, narrowed := true }
def PromoteOrbitsUptoSaid : Prop := promoteOrbitsUptoRow.holds Try.pinned (OpenSpec.upto promoteOrbitsSpec)

/-- 'hasselaw.PromoteBack', WHERE WHAT IT READS IS OF BULK AT MOST 1048576: true; the input reads as it did. -/
def promoteBackUptoRow : OpenClaim := { program := "ytnommlfenaijoaa", sum := "4834ef094776dc607a1bf25197c6f44172d087d8f8bec4ac766fcfcdbe1c3cdf", func := "hasse/hasselaw.PromoteBack", spec := "promoteBack", apart := false, narrowed := true }
def PromoteBackUptoSaid : Prop := promoteBackUptoRow.holds Try.pinned (OpenSpec.upto promoteBackSpec)

/-- 'hasselaw.PromoteTwice', WHERE WHAT IT READS IS OF BULK AT MOST 1048576: true; the input reads as it did. -/
def promoteTwiceUptoRow : OpenClaim := { program := "ytnommlfenaijoaa", sum := "4834ef094776dc607a1bf25197c6f44172d087d8f8bec4ac766fcfcdbe1c3cdf", func := "hasse/hasselaw.PromoteTwice", spec := "promoteTwice", apart := false, narrowed := true }
def PromoteTwiceUptoSaid : Prop := promoteTwiceUptoRow.holds Try.pinned (OpenSpec.upto promoteTwiceSpec)

end Rows
end Go.Proofs.Ytnommlfenaijoaa
