/-
  No cell of these rows narrows 'for every input' (looked for: loops, veiled, ifaces, maps, wideKeys, modest, calm, conditions, laid).
  DERIVED. THE GIVEN ROWS OF THIS SEAT. 5 by the template 'for every input the law returns true; each argument reads behind the call as it read before'; 0 by the template 'total and deterministic' (their statements: YtkcogfjlpbfckaaTotals.lean).
  GIVEN WITH THE SEED: the statements are not yours to turn. If you find one false, say at which input.
  Laid BY PROGRAM, IN A SANDBOX (cutbox-rows.mjs): the forced cells as the released guide's own fill.sh prints them over the translation 4cf581ed1f409f89… (all of the seat's roots in one cut). By AI agents, Wed Nov 11 2026. No macro, syntax, notation, axiom, sorry.
-/
import Derived.Test.YtkcogfjlpbfckaaChecked
import GoSem.Claim
import GoSem.ClaimJoined
import GoSem.ClaimMapViews
import Derived.JoinedTies
import Derived.KernelRfl
namespace Go.Proofs.Ytkcogfjlpbfckaa
/- THE CELL 'sum', in the pinned program and in every row, IS THE sha256 OF THE DUMP (.gsa) THAT YtkcogfjlpbfckaaProg.lean LOADS. Nothing in Lean hashes anything: it is a label: what it is worth is what the hold of that sum in a sandbox is worth. -/
noncomputable def Try.pinned : Pinned := { name := "ytkcogfjlpbfckaa", sum := "4cf581ed1f409f8922b4ec526341a3bcdf67dcf11f66527b9536214b9dd53081", checked := Try.checked }
namespace Rows
def none {H : Type} : Left H := { results := [], args := [] }

/-- 'hasselaw.CompleteBounds': WHATEVER THE INPUT: true; the input reads as it did. -/
def completeBoundsSpec : ChangeSpec := { name := "completeBounds", fn := fun _ => fun
  | [d1, d2] => { results := [.lit (.bool true)], args := [d1, d2] }
  | _ => none }
def completeBoundsRow : OpenClaim := { program := "ytkcogfjlpbfckaa", sum := "4cf581ed1f409f8922b4ec526341a3bcdf67dcf11f66527b9536214b9dd53081", func := "hasse/hasselaw.CompleteBounds", spec := "completeBounds", apart := false }
def CompleteBoundsSaid : Prop := completeBoundsRow.holds Try.pinned (OpenSpec.ofChange completeBoundsSpec)

/-- ITS FALSE NEIGHBOUR: 'it returns false'. Refute it at one input. -/
def completeBoundsWrong : ChangeSpec := { name := "completeBounds", fn := fun _ => fun
  | [d1, d2] => { results := [.lit (.bool false)], args := [d1, d2] }
  | _ => none }
def CompleteBoundsWrongFalsely : Prop := completeBoundsRow.holds Try.pinned (OpenSpec.ofChange completeBoundsWrong)

/-- 'hasselaw.CompleteCuts': WHATEVER THE INPUT: true; the input reads as it did. -/
def completeCutsSpec : ChangeSpec := { name := "completeCuts", fn := fun _ => fun
  | [d] => { results := [.lit (.bool true)], args := [d] }
  | _ => none }
def completeCutsRow : OpenClaim := { program := "ytkcogfjlpbfckaa", sum := "4cf581ed1f409f8922b4ec526341a3bcdf67dcf11f66527b9536214b9dd53081", func := "hasse/hasselaw.CompleteCuts", spec := "completeCuts", apart := false }
def CompleteCutsSaid : Prop := completeCutsRow.holds Try.pinned (OpenSpec.ofChange completeCutsSpec)

/-- ITS FALSE NEIGHBOUR: 'it returns false'. Refute it at one input. -/
def completeCutsWrong : ChangeSpec := { name := "completeCuts", fn := fun _ => fun
  | [d] => { results := [.lit (.bool false)], args := [d] }
  | _ => none }
def CompleteCutsWrongFalsely : Prop := completeCutsRow.holds Try.pinned (OpenSpec.ofChange completeCutsWrong)

/-- 'hasselaw.CompleteFills': WHATEVER THE INPUT: true; the input reads as it did. -/
def completeFillsSpec : ChangeSpec := { name := "completeFills", fn := fun _ => fun
  | [d] => { results := [.lit (.bool true)], args := [d] }
  | _ => none }
def completeFillsRow : OpenClaim := { program := "ytkcogfjlpbfckaa", sum := "4cf581ed1f409f8922b4ec526341a3bcdf67dcf11f66527b9536214b9dd53081", func := "hasse/hasselaw.CompleteFills", spec := "completeFills", unfollowed := true, recurses := true, apart := false }
def CompleteFillsSaid : Prop := completeFillsRow.holds Try.pinned (OpenSpec.ofChange completeFillsSpec)

/-- ITS FALSE NEIGHBOUR: 'it returns false'. Refute it at one input. -/
def completeFillsWrong : ChangeSpec := { name := "completeFills", fn := fun _ => fun
  | [d] => { results := [.lit (.bool false)], args := [d] }
  | _ => none }
def CompleteFillsWrongFalsely : Prop := completeFillsRow.holds Try.pinned (OpenSpec.ofChange completeFillsWrong)

/-- 'hasselaw.CompleteKeeps': WHATEVER THE INPUT: true; the input reads as it did. -/
def completeKeepsSpec : ChangeSpec := { name := "completeKeeps", fn := fun _ => fun
  | [d] => { results := [.lit (.bool true)], args := [d] }
  | _ => none }
def completeKeepsRow : OpenClaim := { program := "ytkcogfjlpbfckaa", sum := "4cf581ed1f409f8922b4ec526341a3bcdf67dcf11f66527b9536214b9dd53081", func := "hasse/hasselaw.CompleteKeeps", spec := "completeKeeps", unfollowed := true, recurses := true, apart := false }
def CompleteKeepsSaid : Prop := completeKeepsRow.holds Try.pinned (OpenSpec.ofChange completeKeepsSpec)

/-- ITS FALSE NEIGHBOUR: 'it returns false'. Refute it at one input. -/
def completeKeepsWrong : ChangeSpec := { name := "completeKeeps", fn := fun _ => fun
  | [d] => { results := [.lit (.bool false)], args := [d] }
  | _ => none }
def CompleteKeepsWrongFalsely : Prop := completeKeepsRow.holds Try.pinned (OpenSpec.ofChange completeKeepsWrong)

/-- 'hasselaw.CompleteDense': WHATEVER THE INPUT: true; the input reads as it did. -/
def completeDenseSpec : ChangeSpec := { name := "completeDense", fn := fun _ => fun
  | [d] => { results := [.lit (.bool true)], args := [d] }
  | _ => none }
def completeDenseRow : OpenClaim := { program := "ytkcogfjlpbfckaa", sum := "4cf581ed1f409f8922b4ec526341a3bcdf67dcf11f66527b9536214b9dd53081", func := "hasse/hasselaw.CompleteDense", spec := "completeDense", unfollowed := true, recurses := true, apart := false }
def CompleteDenseSaid : Prop := completeDenseRow.holds Try.pinned (OpenSpec.ofChange completeDenseSpec)

/-- ITS FALSE NEIGHBOUR: 'it returns false'. Refute it at one input. -/
def completeDenseWrong : ChangeSpec := { name := "completeDense", fn := fun _ => fun
  | [d] => { results := [.lit (.bool false)], args := [d] }
  | _ => none }
def CompleteDenseWrongFalsely : Prop := completeDenseRow.holds Try.pinned (OpenSpec.ofChange completeDenseWrong)

/- THE SECOND FORM. 'bulk': how many values and letters a reading holds, each counted each time it is reached (what is shared counts as often as it is met; a slice's spare places count too). A statement '..UptoSaid' is the law's where the arguments, and the package variables that the reading takes, are together of bulk at most 1048576: NARROWER than '..Said'. Prove '..Said' where nothing that the law and all that it calls make is longer than what came in: it says more and counts as full. Else prove '..UptoSaid'. A law counts once. -/
mutual
def uptoBulk {H : Type} : DataW H → Nat
  | .lit (.string bytes) => bytes.length + 1
  | .lit _ => 1
  | .nil => 1
  | .ptr d => uptoBulk d + 1
  | .slice elems spare => uptoBulkAll elems + uptoBulkAll spare + 1
  | .agg parts => uptoBulkAll parts + 1
  | .iface _ d => uptoBulk d + 1
  | .map entries => uptoBulkEntries entries + 1
  | .held _ => 1
def uptoBulkAll {H : Type} : List (DataW H) → Nat
  | [] => 0
  | d :: r => uptoBulk d + uptoBulkAll r
def uptoBulkEntries {H : Type} : List (Lit × DataW H) → Nat
  | [] => 0
  | x :: r => uptoBulkEntry x + uptoBulkEntries r
def uptoBulkEntry {H : Type} : Lit × DataW H → Nat
  | (.string bytes, d) => bytes.length + uptoBulk d + 1
  | (_, d) => uptoBulk d + 1
 end
def uptoSmall : (H : Type) → List (DataW H) → Bool := fun _ ds => decide (uptoBulkAll ds ≤ 1048576)
def OpenSpec.upto (s : _root_.Go.ChangeSpec) : _root_.Go.OpenSpec := { _root_.Go.OpenSpec.ofChange s with cond := some uptoSmall }

/-- 'hasselaw.CompleteBounds', WHERE WHAT IT READS IS OF BULK AT MOST 1048576: true; the input reads as it did. -/
def completeBoundsUptoRow : OpenClaim := { program := "ytkcogfjlpbfckaa", sum := "4cf581ed1f409f8922b4ec526341a3bcdf67dcf11f66527b9536214b9dd53081", func := "hasse/hasselaw.CompleteBounds", spec := "completeBounds", apart := false, narrowed := true }
def CompleteBoundsUptoSaid : Prop := completeBoundsUptoRow.holds Try.pinned (OpenSpec.upto completeBoundsSpec)

/-- 'hasselaw.CompleteCuts', WHERE WHAT IT READS IS OF BULK AT MOST 1048576: true; the input reads as it did. -/
def completeCutsUptoRow : OpenClaim := { program := "ytkcogfjlpbfckaa", sum := "4cf581ed1f409f8922b4ec526341a3bcdf67dcf11f66527b9536214b9dd53081", func := "hasse/hasselaw.CompleteCuts", spec := "completeCuts", apart := false, narrowed := true }
def CompleteCutsUptoSaid : Prop := completeCutsUptoRow.holds Try.pinned (OpenSpec.upto completeCutsSpec)

/-- 'hasselaw.CompleteFills', WHERE WHAT IT READS IS OF BULK AT MOST 1048576: true; the input reads as it did. -/
def completeFillsUptoRow : OpenClaim := { program := "ytkcogfjlpbfckaa", sum := "4cf581ed1f409f8922b4ec526341a3bcdf67dcf11f66527b9536214b9dd53081", func := "hasse/hasselaw.CompleteFills", spec := "completeFills", unfollowed := true, recurses := true, apart := false, narrowed := true }
def CompleteFillsUptoSaid : Prop := completeFillsUptoRow.holds Try.pinned (OpenSpec.upto completeFillsSpec)

/-- 'hasselaw.CompleteKeeps', WHERE WHAT IT READS IS OF BULK AT MOST 1048576: true; the input reads as it did. -/
def completeKeepsUptoRow : OpenClaim := { program := "ytkcogfjlpbfckaa", sum := "4cf581ed1f409f8922b4ec526341a3bcdf67dcf11f66527b9536214b9dd53081", func := "hasse/hasselaw.CompleteKeeps", spec := "completeKeeps", unfollowed := true, recurses := true, apart := false, narrowed := true }
def CompleteKeepsUptoSaid : Prop := completeKeepsUptoRow.holds Try.pinned (OpenSpec.upto completeKeepsSpec)

/-- 'hasselaw.CompleteDense', WHERE WHAT IT READS IS OF BULK AT MOST 1048576: true; the input reads as it did. -/
def completeDenseUptoRow : OpenClaim := { program := "ytkcogfjlpbfckaa", sum := "4cf581ed1f409f8922b4ec526341a3bcdf67dcf11f66527b9536214b9dd53081", func := "hasse/hasselaw.CompleteDense", spec := "completeDense", unfollowed := true, recurses := true, apart := false, narrowed := true }
def CompleteDenseUptoSaid : Prop := completeDenseUptoRow.holds Try.pinned (OpenSpec.upto completeDenseSpec)

end Rows
end Go.Proofs.Ytkcogfjlpbfckaa
