/-
  No cell of these rows narrows 'for every input' (looked for: loops, veiled, ifaces, maps, wideKeys, modest, calm, conditions, laid).
  DERIVED. THE GIVEN ROWS OF THIS SEAT. 5 by the template 'for every input the law returns true; each argument reads behind the call as it read before'; 0 by the template 'total and deterministic' (their statements: YtnjmelbnamgjcabTotals.lean).
  GIVEN WITH THE SEED: the statements are not yours to turn. If you find one false, say at which input.
  Laid BY PROGRAM, IN A SANDBOX (cutbox-rows.mjs): the forced cells as the released guide's own fill.sh prints them over the translation 0d32975124575ac4… (all of the seat's roots in one cut). By AI agents, Wed Nov 11 2026. No macro, syntax, notation, axiom, sorry.
-/
import Derived.Test.YtnjmelbnamgjcabChecked
import GoSem.Claim
import GoSem.ClaimJoined
import GoSem.ClaimMapViews
import Derived.JoinedTies
import Derived.KernelRfl
namespace Go.Proofs.Ytnjmelbnamgjcab
/- THE CELL 'sum', in the pinned program and in every row, IS THE sha256 OF THE DUMP (.gsa) THAT YtnjmelbnamgjcabProg.lean LOADS. Nothing in Lean hashes anything: it is a label: what it is worth is what the hold of that sum in a sandbox is worth. -/
noncomputable def Try.pinned : Pinned := { name := "ytnjmelbnamgjcab", sum := "0d32975124575ac4306a79860f8a3a5aa2fccfdf582c374a17b7fd36a9a5211d", checked := Try.checked }
namespace Rows
def none {H : Type} : Left H := { results := [], args := [] }

/-- 'hasselaw.OrderBesides': WHATEVER THE INPUT: true; the input reads as it did. -/
def orderBesidesSpec : ChangeSpec := { name := "orderBesides", fn := fun _ => fun
  | [d1, d2] => { results := [.lit (.bool true)], args := [d1, d2] }
  | _ => none }
def orderBesidesRow : OpenClaim := { program := "ytnjmelbnamgjcab", sum := "0d32975124575ac4306a79860f8a3a5aa2fccfdf582c374a17b7fd36a9a5211d", func := "hasse/hasselaw.OrderBesides", spec := "orderBesides", unfollowed := true, recurses := true, apart := false }
def OrderBesidesSaid : Prop := orderBesidesRow.holds Try.pinned (OpenSpec.ofChange orderBesidesSpec)

/-- ITS FALSE NEIGHBOUR: 'it returns false'. Refute it at one input. -/
def orderBesidesWrong : ChangeSpec := { name := "orderBesides", fn := fun _ => fun
  | [d1, d2] => { results := [.lit (.bool false)], args := [d1, d2] }
  | _ => none }
def OrderBesidesWrongFalsely : Prop := orderBesidesRow.holds Try.pinned (OpenSpec.ofChange orderBesidesWrong)

/-- 'hasselaw.OrderIdeals': WHATEVER THE INPUT: true; the input reads as it did. -/
def orderIdealsSpec : ChangeSpec := { name := "orderIdeals", fn := fun _ => fun
  | [d] => { results := [.lit (.bool true)], args := [d] }
  | _ => none }
def orderIdealsRow : OpenClaim := { program := "ytnjmelbnamgjcab", sum := "0d32975124575ac4306a79860f8a3a5aa2fccfdf582c374a17b7fd36a9a5211d", func := "hasse/hasselaw.OrderIdeals", spec := "orderIdeals", apart := false }
def OrderIdealsSaid : Prop := orderIdealsRow.holds Try.pinned (OpenSpec.ofChange orderIdealsSpec)

/-- ITS FALSE NEIGHBOUR: 'it returns false'. Refute it at one input. -/
def orderIdealsWrong : ChangeSpec := { name := "orderIdeals", fn := fun _ => fun
  | [d] => { results := [.lit (.bool false)], args := [d] }
  | _ => none }
def OrderIdealsWrongFalsely : Prop := orderIdealsRow.holds Try.pinned (OpenSpec.ofChange orderIdealsWrong)

/-- 'hasselaw.OrderReduces': WHATEVER THE INPUT: true; the input reads as it did. -/
def orderReducesSpec : ChangeSpec := { name := "orderReduces", fn := fun _ => fun
  | [d1, d2] => { results := [.lit (.bool true)], args := [d1, d2] }
  | _ => none }
def orderReducesRow : OpenClaim := { program := "ytnjmelbnamgjcab", sum := "0d32975124575ac4306a79860f8a3a5aa2fccfdf582c374a17b7fd36a9a5211d", func := "hasse/hasselaw.OrderReduces", spec := "orderReduces", apart := false }
def OrderReducesSaid : Prop := orderReducesRow.holds Try.pinned (OpenSpec.ofChange orderReducesSpec)

/-- ITS FALSE NEIGHBOUR: 'it returns false'. Refute it at one input. -/
def orderReducesWrong : ChangeSpec := { name := "orderReduces", fn := fun _ => fun
  | [d1, d2] => { results := [.lit (.bool false)], args := [d1, d2] }
  | _ => none }
def OrderReducesWrongFalsely : Prop := orderReducesRow.holds Try.pinned (OpenSpec.ofChange orderReducesWrong)

/-- 'hasselaw.OrderTwice': WHATEVER THE INPUT: true; the input reads as it did. -/
def orderTwiceSpec : ChangeSpec := { name := "orderTwice", fn := fun _ => fun
  | [d] => { results := [.lit (.bool true)], args := [d] }
  | _ => none }
def orderTwiceRow : OpenClaim := { program := "ytnjmelbnamgjcab", sum := "0d32975124575ac4306a79860f8a3a5aa2fccfdf582c374a17b7fd36a9a5211d", func := "hasse/hasselaw.OrderTwice", spec := "orderTwice", apart := false }
def OrderTwiceSaid : Prop := orderTwiceRow.holds Try.pinned (OpenSpec.ofChange orderTwiceSpec)

/-- ITS FALSE NEIGHBOUR: 'it returns false'. Refute it at one input. -/
def orderTwiceWrong : ChangeSpec := { name := "orderTwice", fn := fun _ => fun
  | [d] => { results := [.lit (.bool false)], args := [d] }
  | _ => none }
def OrderTwiceWrongFalsely : Prop := orderTwiceRow.holds Try.pinned (OpenSpec.ofChange orderTwiceWrong)

/-- 'hasselaw.OrderSides': WHATEVER THE INPUT: true; the input reads as it did. -/
def orderSidesSpec : ChangeSpec := { name := "orderSides", fn := fun _ => fun
  | [d1, d2] => { results := [.lit (.bool true)], args := [d1, d2] }
  | _ => none }
def orderSidesRow : OpenClaim := { program := "ytnjmelbnamgjcab", sum := "0d32975124575ac4306a79860f8a3a5aa2fccfdf582c374a17b7fd36a9a5211d", func := "hasse/hasselaw.OrderSides", spec := "orderSides", apart := false }
def OrderSidesSaid : Prop := orderSidesRow.holds Try.pinned (OpenSpec.ofChange orderSidesSpec)

/-- ITS FALSE NEIGHBOUR: 'it returns false'. Refute it at one input. -/
def orderSidesWrong : ChangeSpec := { name := "orderSides", fn := fun _ => fun
  | [d1, d2] => { results := [.lit (.bool false)], args := [d1, d2] }
  | _ => none }
def OrderSidesWrongFalsely : Prop := orderSidesRow.holds Try.pinned (OpenSpec.ofChange orderSidesWrong)

/- THE SECOND FORM. 'bulk': how many values and letters a reading holds, each counted each time it is reached (what is shared counts as often as it is met; a slice's spare places count too). A statement '..UptoSaid' is the law's where the arguments, and the package variables that the reading takes, are together of bulk at most 1048576: NARROWER than '..Said'. Prove '..Said' where nothing that the law and all that it calls make is longer than what came in: it says more and counts as full. Else prove '..UptoSaid'. A law counts once. -/
mutual
def uptoBulk {H : Type} : DataW H → Nat
  | .lit (.string bytes) => bytes.length + 1
  | .lit _ => 1
  | .nil => 1
  | .ptr d => uptoBulk d + 1
  | .slice elems spare => uptoBulkAll elems + uptoBulkAll spare + 1
  | .agg parts => uptoBulkAll parts + 1
  | .iface _ d => uptoBulk d + 1
  | .map entries => uptoBulkEntries entries + 1
  | .held _ => 1
def uptoBulkAll {H : Type} : List (DataW H) → Nat
  | [] => 0
  | d :: r => uptoBulk d + uptoBulkAll r
def uptoBulkEntries {H : Type} : List (Lit × DataW H) → Nat
  | [] => 0
  | x :: r => uptoBulkEntry x + uptoBulkEntries r
def uptoBulkEntry {H : Type} : Lit × DataW H → Nat
  | (.string bytes, d) => bytes.length + uptoBulk d + 1
  | (_, d) => uptoBulk d + 1
 end
def uptoSmall : (H : Type) → List (DataW H) → Bool := fun _ ds => decide (uptoBulkAll ds ≤ 1048576)
def OpenSpec.upto (s : _root_.Go.ChangeSpec) : _root_.Go.OpenSpec := { _root_.Go.OpenSpec.ofChange s with cond := some uptoSmall }

/-- 'hasselaw.OrderBesides', WHERE WHAT IT READS IS OF BULK AT MOST 1048576: true; the input reads as it did. -/
def orderBesidesUptoRow : OpenClaim := { program := "ytnjmelbnamgjcab", sum := "0d32975124575ac4306a79860f8a3a5aa2fccfdf582c374a17b7fd36a9a5211d", func := "hasse/hasselaw.OrderBesides", spec := "orderBesides", unfollowed := true, recurses := true, apart := false, narrowed := true }
def OrderBesidesUptoSaid : Prop := orderBesidesUptoRow.holds Try.pinned (OpenSpec.upto orderBesidesSpec)

/-- 'hasselaw.OrderIdeals', WHERE WHAT IT READS IS OF BULK AT MOST 1048576: true; the input reads as it did. -/
def orderIdealsUptoRow : OpenClaim := { program := "ytnjmelbnamgjcab", sum := "0d32975124575ac4306a79860f8a3a5aa2fccfdf582c374a17b7fd36a9a5211d", func := "hasse/hasselaw.OrderIdeals", spec := "orderIdeals", apart := false, narrowed := true }
def OrderIdealsUptoSaid : Prop := orderIdealsUptoRow.holds Try.pinned (OpenSpec.upto orderIdealsSpec)

/-- 'hasselaw.OrderReduces', WHERE WHAT IT READS IS OF BULK AT MOST 1048576: true; the input reads as it did. -/
def orderReducesUptoRow : OpenClaim := { program := "ytnjmelbnamgjcab", sum := "0d32975124575ac4306a79860f8a3a5aa2fccfdf582c374a17b7fd36a9a5211d", func := "hasse/hasselaw.OrderReduces", spec := "orderReduces", apart := false, narrowed := true }
def OrderReducesUptoSaid : Prop := orderReducesUptoRow.holds Try.pinned (OpenSpec.upto orderReducesSpec)

/-- 'hasselaw.OrderTwice', WHERE WHAT IT READS IS OF BULK AT MOST 1048576: true; the input reads as it did. -/
def orderTwiceUptoRow : OpenClaim := { program := "ytnjmelbnamgjcab", sum := "0d32975124575ac4306a79860f8a3a5aa2fccfdf582c374a17b7fd36a9a5211d", func := "hasse/hasselaw.OrderTwice", spec := "orderTwice", apart := false, narrowed := true }
def OrderTwiceUptoSaid : Prop := orderTwiceUptoRow.holds Try.pinned (OpenSpec.upto orderTwiceSpec)

/-- 'hasselaw.OrderSides', WHERE WHAT IT READS IS OF BULK AT MOST 1048576: true; the input reads as it did. -/
def orderSidesUptoRow : OpenClaim := { program := "ytnjmelbnamgjcab", sum := "0d32975124575ac4306a79860f8a3a5aa2fccfdf582c374a17b7fd36a9a5211d", func := "hasse/hasselaw.OrderSides", spec := "orderSides", apart := false, narrowed := true }
def OrderSidesUptoSaid : Prop := orderSidesUptoRow.holds Try.pinned (OpenSpec.upto orderSidesSpec)

end Rows
end Go.Proofs.Ytnjmelbnamgjcab
