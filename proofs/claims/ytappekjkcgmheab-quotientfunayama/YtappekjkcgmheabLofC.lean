/-
  The regions of the reference's LatticeOf that ask the closure. Conditions: the closure answers P of two numbers below n, and writes nothing that lay there.
-/
import Derived.Test.YtappekjkcgmheabLofM
import Derived.Test.YtappekjkcgmheabAlways
namespace Go.Proofs.Ytappekjkcgmheab
open Go.RowKit

/-- A closure that answers P of two numbers below n, wherever what lay at first still lies. -/
def Clo2 (n F : Nat) (caps : Array Value) (P : Nat → Nat → Bool) (w : World) : Prop :=
  ∀ x y : Nat, x < n → y < n → ∀ W : World, Below w.heap.size w W → Calls Try.prog F (#[.int .i64 (x : Nat), .int .i64 (y : Nat)] ++ caps) W fun e w' => e = .returned (.bool (P x y)) ∧ Below W.heap.size W w'
def ops13 : Array Oper :=
  #[{ dst := some 34, op := Go.Op.move (Go.Operand.tmp 1), type := 35, pos := "lattice.go:379", after := #[], guard := none },
    { dst := some 35, op := Go.Op.move (Go.Operand.tmp 13), type := 3, pos := "lattice.go:379", after := #[], guard := none },
    { dst := some 36, op := Go.Op.move (Go.Operand.tmp 7), type := 3, pos := "lattice.go:379", after := #[], guard := none },
    { dst := some 37, op := Go.Op.call { callee := Go.Callee.value (Go.Operand.tmp 34), args := #[Go.Operand.tmp 35, Go.Operand.tmp 36], argTypes := #[3, 3] }, type := 4, pos := "lattice.go:379", after := #[{ on := 0, ground := Go.Ground.data }, { on := 1, ground := Go.Ground.data }, { on := 2, ground := Go.Ground.data }], guard := none },
    { dst := some 38, op := Go.Op.move (Go.Operand.tmp 37), type := 4, pos := "lattice.go:379", after := #[{ on := 3, ground := Go.Ground.data }, { on := 3, ground := Go.Ground.chain }], guard := none },
    { dst := some 39, op := Go.Op.move (Go.Operand.tmp 1), type := 35, pos := "lattice.go:379", after := #[{ on := 4, ground := Go.Ground.guard }], guard := some (4, true) },
    { dst := some 40, op := Go.Op.move (Go.Operand.tmp 13), type := 3, pos := "lattice.go:379", after := #[{ on := 4, ground := Go.Ground.guard }], guard := some (4, true) },
    { dst := some 41, op := Go.Op.move (Go.Operand.tmp 10), type := 3, pos := "lattice.go:379", after := #[{ on := 4, ground := Go.Ground.guard }], guard := some (4, true) },
    { dst := some 42, op := Go.Op.call { callee := Go.Callee.value (Go.Operand.tmp 39), args := #[Go.Operand.tmp 40, Go.Operand.tmp 41], argTypes := #[3, 3] }, type := 4, pos := "lattice.go:379", after := #[{ on := 5, ground := Go.Ground.data }, { on := 6, ground := Go.Ground.data }, { on := 7, ground := Go.Ground.data }, { on := 4, ground := Go.Ground.chain }, { on := 4, ground := Go.Ground.guard }], guard := some (4, true) },
    { dst := some 43, op := Go.Op.pick (Go.Operand.tmp 38) (Go.Operand.tmp 42) (Go.Operand.const (Go.Value.bool false)), type := 4, pos := "lattice.go:379", after := #[{ on := 4, ground := Go.Ground.data }, { on := 8, ground := Go.Ground.data }], guard := none },
    { dst := some 44, op := Go.Op.move (Go.Operand.tmp 1), type := 35, pos := "lattice.go:379", after := #[], guard := none },
    { dst := some 45, op := Go.Op.move (Go.Operand.tmp 7), type := 3, pos := "lattice.go:379", after := #[], guard := none },
    { dst := some 46, op := Go.Op.move (Go.Operand.tmp 13), type := 3, pos := "lattice.go:379", after := #[], guard := none },
    { dst := some 47, op := Go.Op.call { callee := Go.Callee.value (Go.Operand.tmp 44), args := #[Go.Operand.tmp 45, Go.Operand.tmp 46], argTypes := #[3, 3] }, type := 4, pos := "lattice.go:379", after := #[{ on := 10, ground := Go.Ground.data }, { on := 11, ground := Go.Ground.data }, { on := 12, ground := Go.Ground.data }, { on := 8, ground := Go.Ground.chain }], guard := none },
    { dst := some 48, op := Go.Op.move (Go.Operand.tmp 47), type := 4, pos := "lattice.go:379", after := #[{ on := 13, ground := Go.Ground.data }, { on := 13, ground := Go.Ground.chain }], guard := none },
    { dst := some 49, op := Go.Op.move (Go.Operand.tmp 1), type := 35, pos := "lattice.go:379", after := #[{ on := 14, ground := Go.Ground.guard }], guard := some (14, true) },
    { dst := some 50, op := Go.Op.move (Go.Operand.tmp 10), type := 3, pos := "lattice.go:379", after := #[{ on := 14, ground := Go.Ground.guard }], guard := some (14, true) },
    { dst := some 51, op := Go.Op.move (Go.Operand.tmp 13), type := 3, pos := "lattice.go:379", after := #[{ on := 14, ground := Go.Ground.guard }], guard := some (14, true) },
    { dst := some 52, op := Go.Op.call { callee := Go.Callee.value (Go.Operand.tmp 49), args := #[Go.Operand.tmp 50, Go.Operand.tmp 51], argTypes := #[3, 3] }, type := 4, pos := "lattice.go:379", after := #[{ on := 15, ground := Go.Ground.data }, { on := 16, ground := Go.Ground.data }, { on := 17, ground := Go.Ground.data }, { on := 14, ground := Go.Ground.chain }, { on := 14, ground := Go.Ground.guard }], guard := some (14, true) },
    { dst := some 53, op := Go.Op.pick (Go.Operand.tmp 48) (Go.Operand.tmp 52) (Go.Operand.const (Go.Value.bool false)), type := 4, pos := "lattice.go:379", after := #[{ on := 14, ground := Go.Ground.data }, { on := 18, ground := Go.Ground.data }, { on := 20, ground := Go.Ground.gcOnly Go.Departure.lateStores }], guard := none },
    { dst := some 14, op := Go.Op.assign (Go.Operand.tmp 43), type := 4, pos := "lattice.go:379", after := #[{ on := 9, ground := Go.Ground.data }, { on := 18, ground := Go.Ground.chain }, { on := 0, ground := Go.Ground.phase }, { on := 1, ground := Go.Ground.phase }, { on := 2, ground := Go.Ground.phase }, { on := 3, ground := Go.Ground.phase }, { on := 4, ground := Go.Ground.phase }, { on := 5, ground := Go.Ground.phase }, { on := 6, ground := Go.Ground.phase }, { on := 7, ground := Go.Ground.phase }, { on := 8, ground := Go.Ground.phase }, { on := 9, ground := Go.Ground.phase }, { on := 10, ground := Go.Ground.textOnly Go.Departure.lateStores }, { on := 11, ground := Go.Ground.textOnly Go.Departure.lateStores }, { on := 12, ground := Go.Ground.textOnly Go.Departure.lateStores }, { on := 13, ground := Go.Ground.textOnly Go.Departure.lateStoresUnsure }, { on := 14, ground := Go.Ground.textOnly Go.Departure.lateStores }, { on := 15, ground := Go.Ground.textOnly Go.Departure.lateStores }, { on := 16, ground := Go.Ground.textOnly Go.Departure.lateStores }, { on := 17, ground := Go.Ground.textOnly Go.Departure.lateStores }, { on := 18, ground := Go.Ground.textOnly Go.Departure.lateStoresUnsure }, { on := 19, ground := Go.Ground.textOnly Go.Departure.lateStores }], guard := none },
    { dst := some 15, op := Go.Op.assign (Go.Operand.tmp 53), type := 4, pos := "lattice.go:379", after := #[{ on := 19, ground := Go.Ground.data }, { on := 20, ground := Go.Ground.chain }, { on := 0, ground := Go.Ground.phase }, { on := 1, ground := Go.Ground.phase }, { on := 2, ground := Go.Ground.phase }, { on := 3, ground := Go.Ground.phase }, { on := 4, ground := Go.Ground.phase }, { on := 5, ground := Go.Ground.phase }, { on := 6, ground := Go.Ground.phase }, { on := 7, ground := Go.Ground.phase }, { on := 8, ground := Go.Ground.phase }, { on := 9, ground := Go.Ground.phase }, { on := 10, ground := Go.Ground.phase }, { on := 11, ground := Go.Ground.phase }, { on := 12, ground := Go.Ground.phase }, { on := 13, ground := Go.Ground.phase }, { on := 14, ground := Go.Ground.phase }, { on := 15, ground := Go.Ground.phase }, { on := 16, ground := Go.Ground.phase }, { on := 17, ground := Go.Ground.phase }, { on := 18, ground := Go.Ground.phase }, { on := 19, ground := Go.Ground.phase }, { on := 20, ground := Go.Ground.phase }], guard := none }]
def ops17 : Array Oper :=
  #[{ dst := some 59, op := Go.Op.move (Go.Operand.tmp 14), type := 4, pos := "lattice.go:381", after := #[], guard := none },
    { dst := some 60, op := Go.Op.move (Go.Operand.tmp 59), type := 4, pos := "lattice.go:381", after := #[{ on := 0, ground := Go.Ground.data }], guard := none },
    { dst := some 61, op := Go.Op.move (Go.Operand.tmp 1), type := 35, pos := "lattice.go:381", after := #[{ on := 1, ground := Go.Ground.guard }], guard := some (1, true) },
    { dst := some 62, op := Go.Op.move (Go.Operand.tmp 16), type := 3, pos := "lattice.go:381", after := #[{ on := 1, ground := Go.Ground.guard }], guard := some (1, true) },
    { dst := some 63, op := Go.Op.move (Go.Operand.tmp 7), type := 3, pos := "lattice.go:381", after := #[{ on := 1, ground := Go.Ground.guard }], guard := some (1, true) },
    { dst := some 64, op := Go.Op.call { callee := Go.Callee.value (Go.Operand.tmp 61), args := #[Go.Operand.tmp 62, Go.Operand.tmp 63], argTypes := #[3, 3] }, type := 4, pos := "lattice.go:381", after := #[{ on := 2, ground := Go.Ground.data }, { on := 3, ground := Go.Ground.data }, { on := 4, ground := Go.Ground.data }, { on := 1, ground := Go.Ground.chain }, { on := 1, ground := Go.Ground.guard }], guard := some (1, true) },
    { dst := some 65, op := Go.Op.unOp Go.UnOp.not 4 (Go.Operand.tmp 64), type := 4, pos := "lattice.go:381", after := #[{ on := 5, ground := Go.Ground.data }, { on := 1, ground := Go.Ground.guard }], guard := some (1, true) },
    { dst := some 66, op := Go.Op.move (Go.Operand.tmp 65), type := 4, pos := "lattice.go:381", after := #[{ on := 6, ground := Go.Ground.data }, { on := 5, ground := Go.Ground.chain }, { on := 1, ground := Go.Ground.guard }], guard := some (1, true) },
    { dst := some 67, op := Go.Op.move (Go.Operand.tmp 1), type := 35, pos := "lattice.go:381", after := #[{ on := 7, ground := Go.Ground.guard }], guard := some (7, false) },
    { dst := some 68, op := Go.Op.move (Go.Operand.tmp 16), type := 3, pos := "lattice.go:381", after := #[{ on := 7, ground := Go.Ground.guard }], guard := some (7, false) },
    { dst := some 69, op := Go.Op.move (Go.Operand.tmp 10), type := 3, pos := "lattice.go:381", after := #[{ on := 7, ground := Go.Ground.guard }], guard := some (7, false) },
    { dst := some 70, op := Go.Op.call { callee := Go.Callee.value (Go.Operand.tmp 67), args := #[Go.Operand.tmp 68, Go.Operand.tmp 69], argTypes := #[3, 3] }, type := 4, pos := "lattice.go:381", after := #[{ on := 8, ground := Go.Ground.data }, { on := 9, ground := Go.Ground.data }, { on := 10, ground := Go.Ground.data }, { on := 7, ground := Go.Ground.chain }, { on := 7, ground := Go.Ground.guard }], guard := some (7, false) },
    { dst := some 71, op := Go.Op.unOp Go.UnOp.not 4 (Go.Operand.tmp 70), type := 4, pos := "lattice.go:381", after := #[{ on := 11, ground := Go.Ground.data }, { on := 7, ground := Go.Ground.guard }], guard := some (7, false) },
    { dst := some 72, op := Go.Op.pick (Go.Operand.tmp 66) (Go.Operand.const (Go.Value.bool true)) (Go.Operand.tmp 71), type := 4, pos := "lattice.go:381", after := #[{ on := 7, ground := Go.Ground.data }, { on := 12, ground := Go.Ground.data }, { on := 1, ground := Go.Ground.guard }], guard := some (1, true) },
    { dst := some 73, op := Go.Op.move (Go.Operand.tmp 72), type := 4, pos := "lattice.go:381", after := #[{ on := 13, ground := Go.Ground.data }, { on := 11, ground := Go.Ground.chain }, { on := 1, ground := Go.Ground.guard }], guard := some (1, true) },
    { dst := some 74, op := Go.Op.move (Go.Operand.tmp 1), type := 35, pos := "lattice.go:381", after := #[{ on := 14, ground := Go.Ground.guard }], guard := some (14, false) },
    { dst := some 75, op := Go.Op.move (Go.Operand.tmp 16), type := 3, pos := "lattice.go:381", after := #[{ on := 14, ground := Go.Ground.guard }], guard := some (14, false) },
    { dst := some 76, op := Go.Op.move (Go.Operand.tmp 13), type := 3, pos := "lattice.go:381", after := #[{ on := 14, ground := Go.Ground.guard }], guard := some (14, false) },
    { dst := some 77, op := Go.Op.call { callee := Go.Callee.value (Go.Operand.tmp 74), args := #[Go.Operand.tmp 75, Go.Operand.tmp 76], argTypes := #[3, 3] }, type := 4, pos := "lattice.go:381", after := #[{ on := 15, ground := Go.Ground.data }, { on := 16, ground := Go.Ground.data }, { on := 17, ground := Go.Ground.data }, { on := 14, ground := Go.Ground.chain }, { on := 14, ground := Go.Ground.guard }], guard := some (14, false) },
    { dst := some 78, op := Go.Op.pick (Go.Operand.tmp 73) (Go.Operand.const (Go.Value.bool true)) (Go.Operand.tmp 77), type := 4, pos := "lattice.go:381", after := #[{ on := 14, ground := Go.Ground.data }, { on := 18, ground := Go.Ground.data }, { on := 1, ground := Go.Ground.guard }], guard := some (1, true) },
    { dst := some 79, op := Go.Op.pick (Go.Operand.tmp 60) (Go.Operand.tmp 78) (Go.Operand.const (Go.Value.bool false)), type := 4, pos := "lattice.go:381", after := #[{ on := 1, ground := Go.Ground.data }, { on := 19, ground := Go.Ground.data }], guard := none },
    { dst := some 14, op := Go.Op.assign (Go.Operand.tmp 79), type := 4, pos := "lattice.go:381", after := #[{ on := 20, ground := Go.Ground.data }, { on := 18, ground := Go.Ground.chain }, { on := 0, ground := Go.Ground.phase }, { on := 1, ground := Go.Ground.phase }, { on := 2, ground := Go.Ground.phase }, { on := 3, ground := Go.Ground.phase }, { on := 4, ground := Go.Ground.phase }, { on := 5, ground := Go.Ground.phase }, { on := 6, ground := Go.Ground.phase }, { on := 7, ground := Go.Ground.phase }, { on := 8, ground := Go.Ground.phase }, { on := 9, ground := Go.Ground.phase }, { on := 10, ground := Go.Ground.phase }, { on := 11, ground := Go.Ground.phase }, { on := 12, ground := Go.Ground.phase }, { on := 13, ground := Go.Ground.phase }, { on := 14, ground := Go.Ground.phase }, { on := 15, ground := Go.Ground.phase }, { on := 16, ground := Go.Ground.phase }, { on := 17, ground := Go.Ground.phase }, { on := 18, ground := Go.Ground.phase }, { on := 19, ground := Go.Ground.phase }, { on := 20, ground := Go.Ground.phase }], guard := none }]
def ops18 : Array Oper :=
  #[{ dst := some 80, op := Go.Op.move (Go.Operand.tmp 15), type := 4, pos := "lattice.go:382", after := #[], guard := none },
    { dst := some 81, op := Go.Op.move (Go.Operand.tmp 80), type := 4, pos := "lattice.go:382", after := #[{ on := 0, ground := Go.Ground.data }], guard := none },
    { dst := some 82, op := Go.Op.move (Go.Operand.tmp 1), type := 35, pos := "lattice.go:382", after := #[{ on := 1, ground := Go.Ground.guard }], guard := some (1, true) },
    { dst := some 83, op := Go.Op.move (Go.Operand.tmp 7), type := 3, pos := "lattice.go:382", after := #[{ on := 1, ground := Go.Ground.guard }], guard := some (1, true) },
    { dst := some 84, op := Go.Op.move (Go.Operand.tmp 16), type := 3, pos := "lattice.go:382", after := #[{ on := 1, ground := Go.Ground.guard }], guard := some (1, true) },
    { dst := some 85, op := Go.Op.call { callee := Go.Callee.value (Go.Operand.tmp 82), args := #[Go.Operand.tmp 83, Go.Operand.tmp 84], argTypes := #[3, 3] }, type := 4, pos := "lattice.go:382", after := #[{ on := 2, ground := Go.Ground.data }, { on := 3, ground := Go.Ground.data }, { on := 4, ground := Go.Ground.data }, { on := 1, ground := Go.Ground.chain }, { on := 1, ground := Go.Ground.guard }], guard := some (1, true) },
    { dst := some 86, op := Go.Op.unOp Go.UnOp.not 4 (Go.Operand.tmp 85), type := 4, pos := "lattice.go:382", after := #[{ on := 5, ground := Go.Ground.data }, { on := 1, ground := Go.Ground.guard }], guard := some (1, true) },
    { dst := some 87, op := Go.Op.move (Go.Operand.tmp 86), type := 4, pos := "lattice.go:382", after := #[{ on := 6, ground := Go.Ground.data }, { on := 5, ground := Go.Ground.chain }, { on := 1, ground := Go.Ground.guard }], guard := some (1, true) },
    { dst := some 88, op := Go.Op.move (Go.Operand.tmp 1), type := 35, pos := "lattice.go:382", after := #[{ on := 7, ground := Go.Ground.guard }], guard := some (7, false) },
    { dst := some 89, op := Go.Op.move (Go.Operand.tmp 10), type := 3, pos := "lattice.go:382", after := #[{ on := 7, ground := Go.Ground.guard }], guard := some (7, false) },
    { dst := some 90, op := Go.Op.move (Go.Operand.tmp 16), type := 3, pos := "lattice.go:382", after := #[{ on := 7, ground := Go.Ground.guard }], guard := some (7, false) },
    { dst := some 91, op := Go.Op.call { callee := Go.Callee.value (Go.Operand.tmp 88), args := #[Go.Operand.tmp 89, Go.Operand.tmp 90], argTypes := #[3, 3] }, type := 4, pos := "lattice.go:382", after := #[{ on := 8, ground := Go.Ground.data }, { on := 9, ground := Go.Ground.data }, { on := 10, ground := Go.Ground.data }, { on := 7, ground := Go.Ground.chain }, { on := 7, ground := Go.Ground.guard }], guard := some (7, false) },
    { dst := some 92, op := Go.Op.unOp Go.UnOp.not 4 (Go.Operand.tmp 91), type := 4, pos := "lattice.go:382", after := #[{ on := 11, ground := Go.Ground.data }, { on := 7, ground := Go.Ground.guard }], guard := some (7, false) },
    { dst := some 93, op := Go.Op.pick (Go.Operand.tmp 87) (Go.Operand.const (Go.Value.bool true)) (Go.Operand.tmp 92), type := 4, pos := "lattice.go:382", after := #[{ on := 7, ground := Go.Ground.data }, { on := 12, ground := Go.Ground.data }, { on := 1, ground := Go.Ground.guard }], guard := some (1, true) },
    { dst := some 94, op := Go.Op.move (Go.Operand.tmp 93), type := 4, pos := "lattice.go:382", after := #[{ on := 13, ground := Go.Ground.data }, { on := 11, ground := Go.Ground.chain }, { on := 1, ground := Go.Ground.guard }], guard := some (1, true) },
    { dst := some 95, op := Go.Op.move (Go.Operand.tmp 1), type := 35, pos := "lattice.go:382", after := #[{ on := 14, ground := Go.Ground.guard }], guard := some (14, false) },
    { dst := some 96, op := Go.Op.move (Go.Operand.tmp 13), type := 3, pos := "lattice.go:382", after := #[{ on := 14, ground := Go.Ground.guard }], guard := some (14, false) },
    { dst := some 97, op := Go.Op.move (Go.Operand.tmp 16), type := 3, pos := "lattice.go:382", after := #[{ on := 14, ground := Go.Ground.guard }], guard := some (14, false) },
    { dst := some 98, op := Go.Op.call { callee := Go.Callee.value (Go.Operand.tmp 95), args := #[Go.Operand.tmp 96, Go.Operand.tmp 97], argTypes := #[3, 3] }, type := 4, pos := "lattice.go:382", after := #[{ on := 15, ground := Go.Ground.data }, { on := 16, ground := Go.Ground.data }, { on := 17, ground := Go.Ground.data }, { on := 14, ground := Go.Ground.chain }, { on := 14, ground := Go.Ground.guard }], guard := some (14, false) },
    { dst := some 99, op := Go.Op.pick (Go.Operand.tmp 94) (Go.Operand.const (Go.Value.bool true)) (Go.Operand.tmp 98), type := 4, pos := "lattice.go:382", after := #[{ on := 14, ground := Go.Ground.data }, { on := 18, ground := Go.Ground.data }, { on := 1, ground := Go.Ground.guard }], guard := some (1, true) },
    { dst := some 100, op := Go.Op.pick (Go.Operand.tmp 81) (Go.Operand.tmp 99) (Go.Operand.const (Go.Value.bool false)), type := 4, pos := "lattice.go:382", after := #[{ on := 1, ground := Go.Ground.data }, { on := 19, ground := Go.Ground.data }], guard := none },
    { dst := some 15, op := Go.Op.assign (Go.Operand.tmp 100), type := 4, pos := "lattice.go:382", after := #[{ on := 20, ground := Go.Ground.data }, { on := 18, ground := Go.Ground.chain }, { on := 0, ground := Go.Ground.phase }, { on := 1, ground := Go.Ground.phase }, { on := 2, ground := Go.Ground.phase }, { on := 3, ground := Go.Ground.phase }, { on := 4, ground := Go.Ground.phase }, { on := 5, ground := Go.Ground.phase }, { on := 6, ground := Go.Ground.phase }, { on := 7, ground := Go.Ground.phase }, { on := 8, ground := Go.Ground.phase }, { on := 9, ground := Go.Ground.phase }, { on := 10, ground := Go.Ground.phase }, { on := 11, ground := Go.Ground.phase }, { on := 12, ground := Go.Ground.phase }, { on := 13, ground := Go.Ground.phase }, { on := 14, ground := Go.Ground.phase }, { on := 15, ground := Go.Ground.phase }, { on := 16, ground := Go.Ground.phase }, { on := 17, ground := Go.Ground.phase }, { on := 18, ground := Go.Ground.phase }, { on := 19, ground := Go.Ground.phase }, { on := 20, ground := Go.Ground.phase }], guard := none }]
set_option maxHeartbeats 8000000 in
set_option maxRecDepth 100000 in
theorem reg13 {W w : World} {n F x y z : Nat} {caps : Array Value} {P : Nat → Nat → Bool} {u0 u2 u3 u4 u5 u6 u8 u9 u11 u12 u14 u15 u16 u17 u18 u19 u20 u21 utt u23 utf u25 u26 u27 u28 u29 u30 u31 u32 u33 u34 u35 u36 u37 u38 u39 u40 u41 u42 u43 u44 u45 u46 u47 u48 u49 u50 u51 u52 u53 u54 u55 u56 u57 u58 u59 u60 u61 u62 u63 u64 u65 u66 u67 u68 u69 u70 u71 u72 u73 u74 u75 u76 u77 u78 u79 u80 u81 u82 u83 u84 u85 u86 u87 u88 u89 u90 u91 u92 u93 u94 u95 u96 u97 u98 u99 u100 u101 u102 u103 u104 u105 u106 u107 u108 u109 u110 u111 u112 u113 u114 u115 u116 u117 u118 u119 u120 u121 u122 u123 u124 u125 u126 u127 u128 u129 u130 u131 u132 u133 u134 : Value} {Q : Exit → Act → World → Prop} (hF : Ent F) (HCL : Hid (Clo2 n F caps P W)) (HW : Hid (Below W.heap.size W w)) (hx : x < n) (hy : y < n) (hz : z < n)
    (HK : Hid (∀ w', Below W.heap.size W w' → ∀ z34 z35 z36 z37 z38 z39 z40 z41 z42 z43 z44 z45 z46 z47 z48 z49 z50 z51 z52 z53 : Value, Q .normal { tmps := (u0 :: (.func (.func F) #[] caps) :: u2 :: u3 :: u4 :: u5 :: u6 :: (.int .i64 (x : Nat)) :: u8 :: u9 :: (.int .i64 (y : Nat)) :: u11 :: u12 :: (.int .i64 (z : Nat)) :: (.bool (P z x && P z y)) :: (.bool (P x z && P y z)) :: u16 :: u17 :: u18 :: u19 :: u20 :: u21 :: utt :: u23 :: utf :: u25 :: u26 :: u27 :: u28 :: u29 :: u30 :: u31 :: u32 :: u33 :: z34 :: z35 :: z36 :: z37 :: z38 :: z39 :: z40 :: z41 :: z42 :: z43 :: z44 :: z45 :: z46 :: z47 :: z48 :: z49 :: z50 :: z51 :: z52 :: z53 :: u54 :: u55 :: u56 :: u57 :: u58 :: u59 :: u60 :: u61 :: u62 :: u63 :: u64 :: u65 :: u66 :: u67 :: u68 :: u69 :: u70 :: u71 :: u72 :: u73 :: u74 :: u75 :: u76 :: u77 :: u78 :: u79 :: u80 :: u81 :: u82 :: u83 :: u84 :: u85 :: u86 :: u87 :: u88 :: u89 :: u90 :: u91 :: u92 :: u93 :: u94 :: u95 :: u96 :: u97 :: u98 :: u99 :: u100 :: u101 :: u102 :: u103 :: u104 :: u105 :: u106 :: u107 :: u108 :: u109 :: u110 :: u111 :: u112 :: u113 :: u114 :: u115 :: u116 :: u117 :: u118 :: u119 :: u120 :: u121 :: u122 :: u123 :: u124 :: u125 :: u126 :: u127 :: u128 :: u129 :: u130 :: u131 :: u132 :: u133 :: u134 :: []).toArray, defers := [] } w')) : (Code.region 13 ops13 false).wp Try.prog Q { tmps := (u0 :: (.func (.func F) #[] caps) :: u2 :: u3 :: u4 :: u5 :: u6 :: (.int .i64 (x : Nat)) :: u8 :: u9 :: (.int .i64 (y : Nat)) :: u11 :: u12 :: (.int .i64 (z : Nat)) :: u14 :: u15 :: u16 :: u17 :: u18 :: u19 :: u20 :: u21 :: utt :: u23 :: utf :: u25 :: u26 :: u27 :: u28 :: u29 :: u30 :: u31 :: u32 :: u33 :: u34 :: u35 :: u36 :: u37 :: u38 :: u39 :: u40 :: u41 :: u42 :: u43 :: u44 :: u45 :: u46 :: u47 :: u48 :: u49 :: u50 :: u51 :: u52 :: u53 :: u54 :: u55 :: u56 :: u57 :: u58 :: u59 :: u60 :: u61 :: u62 :: u63 :: u64 :: u65 :: u66 :: u67 :: u68 :: u69 :: u70 :: u71 :: u72 :: u73 :: u74 :: u75 :: u76 :: u77 :: u78 :: u79 :: u80 :: u81 :: u82 :: u83 :: u84 :: u85 :: u86 :: u87 :: u88 :: u89 :: u90 :: u91 :: u92 :: u93 :: u94 :: u95 :: u96 :: u97 :: u98 :: u99 :: u100 :: u101 :: u102 :: u103 :: u104 :: u105 :: u106 :: u107 :: u108 :: u109 :: u110 :: u111 :: u112 :: u113 :: u114 :: u115 :: u116 :: u117 :: u118 :: u119 :: u120 :: u121 :: u122 :: u123 :: u124 :: u125 :: u126 :: u127 :: u128 :: u129 :: u130 :: u131 :: u132 :: u133 :: u134 :: []).toArray, defers := [] } w := by
  unfold ops13
  rcases h1 : P z x with _ | _
  · rcases h2 : P x z with _ | _
    · have hk := HK.out
      rw [h1, h2] at hk
      simp only [Bool.false_and] at hk
      have HK2 := (show Hid _ from hk)
      clear hk
      go_wp2_with fail
      rw [hF, Oper.upon_enter]
      refine (HCL.out z x (by omega) (by omega) _ HW.out).mono ?_
      rintro e w1 ⟨rfl, hb1⟩
      rw [h1]
      have HW1 : Hid (Below W.heap.size W w1) := Below.then HW.out hb1
      clear hb1
      go_wp2_with fail
      rw [hF, Oper.upon_enter]
      refine (HCL.out x z (by omega) (by omega) _ HW1.out).mono ?_
      rintro e w2 ⟨rfl, hb2⟩
      rw [h2]
      have HW2 : Hid (Below W.heap.size W w2) := Below.then HW1.out hb2
      clear hb2
      go_wp2_with fail
      exact HK2.out _ HW2.out _ _ _ _ _ _ _ _ _ _ _ _ _ _ _ _ _ _ _ _
    · have hk := HK.out
      rw [h1, h2] at hk
      simp only [Bool.true_and, Bool.false_and] at hk
      have HK2 := (show Hid _ from hk)
      clear hk
      go_wp2_with fail
      rw [hF, Oper.upon_enter]
      refine (HCL.out z x (by omega) (by omega) _ HW.out).mono ?_
      rintro e w1 ⟨rfl, hb1⟩
      rw [h1]
      have HW1 : Hid (Below W.heap.size W w1) := Below.then HW.out hb1
      clear hb1
      go_wp2_with fail
      rw [hF, Oper.upon_enter]
      refine (HCL.out x z (by omega) (by omega) _ HW1.out).mono ?_
      rintro e w2 ⟨rfl, hb2⟩
      rw [h2]
      have HW2 : Hid (Below W.heap.size W w2) := Below.then HW1.out hb2
      clear hb2
      go_wp2_with fail
      rw [hF, Oper.upon_enter]
      refine (HCL.out y z (by omega) (by omega) _ HW2.out).mono ?_
      rintro e w3 ⟨rfl, hb3⟩
      have HW3 : Hid (Below W.heap.size W w3) := Below.then HW2.out hb3
      clear hb3
      go_wp2_with fail
      exact HK2.out _ HW3.out _ _ _ _ _ _ _ _ _ _ _ _ _ _ _ _ _ _ _ _
  · rcases h2 : P x z with _ | _
    · have hk := HK.out
      rw [h1, h2] at hk
      simp only [Bool.true_and, Bool.false_and] at hk
      have HK2 := (show Hid _ from hk)
      clear hk
      go_wp2_with fail
      rw [hF, Oper.upon_enter]
      refine (HCL.out z x (by omega) (by omega) _ HW.out).mono ?_
      rintro e w1 ⟨rfl, hb1⟩
      rw [h1]
      have HW1 : Hid (Below W.heap.size W w1) := Below.then HW.out hb1
      clear hb1
      go_wp2_with fail
      rw [hF, Oper.upon_enter]
      refine (HCL.out z y (by omega) (by omega) _ HW1.out).mono ?_
      rintro e w2 ⟨rfl, hb2⟩
      have HW2 : Hid (Below W.heap.size W w2) := Below.then HW1.out hb2
      clear hb2
      go_wp2_with fail
      rw [hF, Oper.upon_enter]
      refine (HCL.out x z (by omega) (by omega) _ HW2.out).mono ?_
      rintro e w3 ⟨rfl, hb3⟩
      rw [h2]
      have HW3 : Hid (Below W.heap.size W w3) := Below.then HW2.out hb3
      clear hb3
      go_wp2_with fail
      exact HK2.out _ HW3.out _ _ _ _ _ _ _ _ _ _ _ _ _ _ _ _ _ _ _ _
    · have hk := HK.out
      rw [h1, h2] at hk
      simp only [Bool.true_and] at hk
      have HK2 := (show Hid _ from hk)
      clear hk
      go_wp2_with fail
      rw [hF, Oper.upon_enter]
      refine (HCL.out z x (by omega) (by omega) _ HW.out).mono ?_
      rintro e w1 ⟨rfl, hb1⟩
      rw [h1]
      have HW1 : Hid (Below W.heap.size W w1) := Below.then HW.out hb1
      clear hb1
      go_wp2_with fail
      rw [hF, Oper.upon_enter]
      refine (HCL.out z y (by omega) (by omega) _ HW1.out).mono ?_
      rintro e w2 ⟨rfl, hb2⟩
      have HW2 : Hid (Below W.heap.size W w2) := Below.then HW1.out hb2
      clear hb2
      go_wp2_with fail
      rw [hF, Oper.upon_enter]
      refine (HCL.out x z (by omega) (by omega) _ HW2.out).mono ?_
      rintro e w3 ⟨rfl, hb3⟩
      rw [h2]
      have HW3 : Hid (Below W.heap.size W w3) := Below.then HW2.out hb3
      clear hb3
      go_wp2_with fail
      rw [hF, Oper.upon_enter]
      refine (HCL.out y z (by omega) (by omega) _ HW3.out).mono ?_
      rintro e w4 ⟨rfl, hb4⟩
      have HW4 : Hid (Below W.heap.size W w4) := Below.then HW3.out hb4
      clear hb4
      go_wp2_with fail
      exact HK2.out _ HW4.out _ _ _ _ _ _ _ _ _ _ _ _ _ _ _ _ _ _ _ _
set_option maxHeartbeats 8000000 in
set_option maxRecDepth 100000 in
theorem reg17 {W w : World} {n F x y z k : Nat} {lo : Bool} {caps : Array Value} {P : Nat → Nat → Bool} {u0 u2 u3 u4 u5 u6 u8 u9 u11 u12 u15 u17 u18 u19 u20 u21 utt u23 utf u25 u26 u27 u28 u29 u30 u31 u32 u33 u34 u35 u36 u37 u38 u39 u40 u41 u42 u43 u44 u45 u46 u47 u48 u49 u50 u51 u52 u53 u54 u55 u56 u57 u58 u59 u60 u61 u62 u63 u64 u65 u66 u67 u68 u69 u70 u71 u72 u73 u74 u75 u76 u77 u78 u79 u80 u81 u82 u83 u84 u85 u86 u87 u88 u89 u90 u91 u92 u93 u94 u95 u96 u97 u98 u99 u100 u101 u102 u103 u104 u105 u106 u107 u108 u109 u110 u111 u112 u113 u114 u115 u116 u117 u118 u119 u120 u121 u122 u123 u124 u125 u126 u127 u128 u129 u130 u131 u132 u133 u134 : Value} {Q : Exit → Act → World → Prop} (hF : Ent F) (HCL : Hid (Clo2 n F caps P W)) (HW : Hid (Below W.heap.size W w)) (hx : x < n) (hy : y < n) (hz : z < n) (hkn : k < n)
    (HK : Hid (∀ w', Below W.heap.size W w' → ∀ z59 z60 z61 z62 z63 z64 z65 z66 z67 z68 z69 z70 z71 z72 z73 z74 z75 z76 z77 z78 z79 : Value, Q .normal { tmps := (u0 :: (.func (.func F) #[] caps) :: u2 :: u3 :: u4 :: u5 :: u6 :: (.int .i64 (x : Nat)) :: u8 :: u9 :: (.int .i64 (y : Nat)) :: u11 :: u12 :: (.int .i64 (z : Nat)) :: (.bool (lo && (!P k x || (!P k y || P k z)))) :: u15 :: (.int .i64 (k : Nat)) :: u17 :: u18 :: u19 :: u20 :: u21 :: utt :: u23 :: utf :: u25 :: u26 :: u27 :: u28 :: u29 :: u30 :: u31 :: u32 :: u33 :: u34 :: u35 :: u36 :: u37 :: u38 :: u39 :: u40 :: u41 :: u42 :: u43 :: u44 :: u45 :: u46 :: u47 :: u48 :: u49 :: u50 :: u51 :: u52 :: u53 :: u54 :: u55 :: u56 :: u57 :: u58 :: z59 :: z60 :: z61 :: z62 :: z63 :: z64 :: z65 :: z66 :: z67 :: z68 :: z69 :: z70 :: z71 :: z72 :: z73 :: z74 :: z75 :: z76 :: z77 :: z78 :: z79 :: u80 :: u81 :: u82 :: u83 :: u84 :: u85 :: u86 :: u87 :: u88 :: u89 :: u90 :: u91 :: u92 :: u93 :: u94 :: u95 :: u96 :: u97 :: u98 :: u99 :: u100 :: u101 :: u102 :: u103 :: u104 :: u105 :: u106 :: u107 :: u108 :: u109 :: u110 :: u111 :: u112 :: u113 :: u114 :: u115 :: u116 :: u117 :: u118 :: u119 :: u120 :: u121 :: u122 :: u123 :: u124 :: u125 :: u126 :: u127 :: u128 :: u129 :: u130 :: u131 :: u132 :: u133 :: u134 :: []).toArray, defers := [] } w')) : (Code.region 17 ops17 false).wp Try.prog Q { tmps := (u0 :: (.func (.func F) #[] caps) :: u2 :: u3 :: u4 :: u5 :: u6 :: (.int .i64 (x : Nat)) :: u8 :: u9 :: (.int .i64 (y : Nat)) :: u11 :: u12 :: (.int .i64 (z : Nat)) :: (.bool lo) :: u15 :: (.int .i64 (k : Nat)) :: u17 :: u18 :: u19 :: u20 :: u21 :: utt :: u23 :: utf :: u25 :: u26 :: u27 :: u28 :: u29 :: u30 :: u31 :: u32 :: u33 :: u34 :: u35 :: u36 :: u37 :: u38 :: u39 :: u40 :: u41 :: u42 :: u43 :: u44 :: u45 :: u46 :: u47 :: u48 :: u49 :: u50 :: u51 :: u52 :: u53 :: u54 :: u55 :: u56 :: u57 :: u58 :: u59 :: u60 :: u61 :: u62 :: u63 :: u64 :: u65 :: u66 :: u67 :: u68 :: u69 :: u70 :: u71 :: u72 :: u73 :: u74 :: u75 :: u76 :: u77 :: u78 :: u79 :: u80 :: u81 :: u82 :: u83 :: u84 :: u85 :: u86 :: u87 :: u88 :: u89 :: u90 :: u91 :: u92 :: u93 :: u94 :: u95 :: u96 :: u97 :: u98 :: u99 :: u100 :: u101 :: u102 :: u103 :: u104 :: u105 :: u106 :: u107 :: u108 :: u109 :: u110 :: u111 :: u112 :: u113 :: u114 :: u115 :: u116 :: u117 :: u118 :: u119 :: u120 :: u121 :: u122 :: u123 :: u124 :: u125 :: u126 :: u127 :: u128 :: u129 :: u130 :: u131 :: u132 :: u133 :: u134 :: []).toArray, defers := [] } w := by
  unfold ops17
  rcases lo with _ | _
  · have hk := HK.out
    simp only [Bool.false_and] at hk
    have HK2 := (show Hid _ from hk)
    clear hk
    go_wp2_with fail
    exact HK2.out _ HW.out _ _ _ _ _ _ _ _ _ _ _ _ _ _ _ _ _ _ _ _ _
  · rcases h1 : P k x with _ | _
    · have hk := HK.out
      rw [h1] at hk
      simp only [Bool.true_and, Bool.not_false, Bool.true_or] at hk
      have HK2 := (show Hid _ from hk)
      clear hk
      go_wp2_with fail
      rw [hF, Oper.upon_enter]
      refine (HCL.out k x (by omega) (by omega) _ HW.out).mono ?_
      rintro e w1 ⟨rfl, hb1⟩
      rw [h1]
      have HW1 : Hid (Below W.heap.size W w1) := Below.then HW.out hb1
      clear hb1
      go_wp2_with fail
      exact HK2.out _ HW1.out _ _ _ _ _ _ _ _ _ _ _ _ _ _ _ _ _ _ _ _ _
    · rcases h2 : P k y with _ | _
      · have hk := HK.out
        rw [h1, h2] at hk
        simp only [Bool.true_and, Bool.not_true, Bool.not_false, Bool.true_or, Bool.false_or] at hk
        have HK2 := (show Hid _ from hk)
        clear hk
        go_wp2_with fail
        rw [hF, Oper.upon_enter]
        refine (HCL.out k x (by omega) (by omega) _ HW.out).mono ?_
        rintro e w1 ⟨rfl, hb1⟩
        rw [h1]
        have HW1 : Hid (Below W.heap.size W w1) := Below.then HW.out hb1
        clear hb1
        go_wp2_with fail
        rw [hF, Oper.upon_enter]
        refine (HCL.out k y (by omega) (by omega) _ HW1.out).mono ?_
        rintro e w2 ⟨rfl, hb2⟩
        rw [h2]
        have HW2 : Hid (Below W.heap.size W w2) := Below.then HW1.out hb2
        clear hb2
        go_wp2_with fail
        exact HK2.out _ HW2.out _ _ _ _ _ _ _ _ _ _ _ _ _ _ _ _ _ _ _ _ _
      · have hk := HK.out
        rw [h1, h2] at hk
        simp only [Bool.true_and, Bool.not_true, Bool.false_or] at hk
        have HK2 := (show Hid _ from hk)
        clear hk
        go_wp2_with fail
        rw [hF, Oper.upon_enter]
        refine (HCL.out k x (by omega) (by omega) _ HW.out).mono ?_
        rintro e w1 ⟨rfl, hb1⟩
        rw [h1]
        have HW1 : Hid (Below W.heap.size W w1) := Below.then HW.out hb1
        clear hb1
        go_wp2_with fail
        rw [hF, Oper.upon_enter]
        refine (HCL.out k y (by omega) (by omega) _ HW1.out).mono ?_
        rintro e w2 ⟨rfl, hb2⟩
        rw [h2]
        have HW2 : Hid (Below W.heap.size W w2) := Below.then HW1.out hb2
        clear hb2
        go_wp2_with fail
        rw [hF, Oper.upon_enter]
        refine (HCL.out k z (by omega) (by omega) _ HW2.out).mono ?_
        rintro e w3 ⟨rfl, hb3⟩
        have HW3 : Hid (Below W.heap.size W w3) := Below.then HW2.out hb3
        clear hb3
        go_wp2_with fail
        exact HK2.out _ HW3.out _ _ _ _ _ _ _ _ _ _ _ _ _ _ _ _ _ _ _ _ _
set_option maxHeartbeats 8000000 in
set_option maxRecDepth 100000 in
theorem reg18 {W w : World} {n F x y z k : Nat} {lo : Bool} {caps : Array Value} {P : Nat → Nat → Bool} {u0 u2 u3 u4 u5 u6 u8 u9 u11 u12 u14 u17 u18 u19 u20 u21 utt u23 utf u25 u26 u27 u28 u29 u30 u31 u32 u33 u34 u35 u36 u37 u38 u39 u40 u41 u42 u43 u44 u45 u46 u47 u48 u49 u50 u51 u52 u53 u54 u55 u56 u57 u58 u59 u60 u61 u62 u63 u64 u65 u66 u67 u68 u69 u70 u71 u72 u73 u74 u75 u76 u77 u78 u79 u80 u81 u82 u83 u84 u85 u86 u87 u88 u89 u90 u91 u92 u93 u94 u95 u96 u97 u98 u99 u100 u101 u102 u103 u104 u105 u106 u107 u108 u109 u110 u111 u112 u113 u114 u115 u116 u117 u118 u119 u120 u121 u122 u123 u124 u125 u126 u127 u128 u129 u130 u131 u132 u133 u134 : Value} {Q : Exit → Act → World → Prop} (hF : Ent F) (HCL : Hid (Clo2 n F caps P W)) (HW : Hid (Below W.heap.size W w)) (hx : x < n) (hy : y < n) (hz : z < n) (hkn : k < n)
    (HK : Hid (∀ w', Below W.heap.size W w' → ∀ z80 z81 z82 z83 z84 z85 z86 z87 z88 z89 z90 z91 z92 z93 z94 z95 z96 z97 z98 z99 z100 : Value, Q .normal { tmps := (u0 :: (.func (.func F) #[] caps) :: u2 :: u3 :: u4 :: u5 :: u6 :: (.int .i64 (x : Nat)) :: u8 :: u9 :: (.int .i64 (y : Nat)) :: u11 :: u12 :: (.int .i64 (z : Nat)) :: u14 :: (.bool (lo && (!P x k || (!P y k || P z k)))) :: (.int .i64 (k : Nat)) :: u17 :: u18 :: u19 :: u20 :: u21 :: utt :: u23 :: utf :: u25 :: u26 :: u27 :: u28 :: u29 :: u30 :: u31 :: u32 :: u33 :: u34 :: u35 :: u36 :: u37 :: u38 :: u39 :: u40 :: u41 :: u42 :: u43 :: u44 :: u45 :: u46 :: u47 :: u48 :: u49 :: u50 :: u51 :: u52 :: u53 :: u54 :: u55 :: u56 :: u57 :: u58 :: u59 :: u60 :: u61 :: u62 :: u63 :: u64 :: u65 :: u66 :: u67 :: u68 :: u69 :: u70 :: u71 :: u72 :: u73 :: u74 :: u75 :: u76 :: u77 :: u78 :: u79 :: z80 :: z81 :: z82 :: z83 :: z84 :: z85 :: z86 :: z87 :: z88 :: z89 :: z90 :: z91 :: z92 :: z93 :: z94 :: z95 :: z96 :: z97 :: z98 :: z99 :: z100 :: u101 :: u102 :: u103 :: u104 :: u105 :: u106 :: u107 :: u108 :: u109 :: u110 :: u111 :: u112 :: u113 :: u114 :: u115 :: u116 :: u117 :: u118 :: u119 :: u120 :: u121 :: u122 :: u123 :: u124 :: u125 :: u126 :: u127 :: u128 :: u129 :: u130 :: u131 :: u132 :: u133 :: u134 :: []).toArray, defers := [] } w')) : (Code.region 18 ops18 false).wp Try.prog Q { tmps := (u0 :: (.func (.func F) #[] caps) :: u2 :: u3 :: u4 :: u5 :: u6 :: (.int .i64 (x : Nat)) :: u8 :: u9 :: (.int .i64 (y : Nat)) :: u11 :: u12 :: (.int .i64 (z : Nat)) :: u14 :: (.bool lo) :: (.int .i64 (k : Nat)) :: u17 :: u18 :: u19 :: u20 :: u21 :: utt :: u23 :: utf :: u25 :: u26 :: u27 :: u28 :: u29 :: u30 :: u31 :: u32 :: u33 :: u34 :: u35 :: u36 :: u37 :: u38 :: u39 :: u40 :: u41 :: u42 :: u43 :: u44 :: u45 :: u46 :: u47 :: u48 :: u49 :: u50 :: u51 :: u52 :: u53 :: u54 :: u55 :: u56 :: u57 :: u58 :: u59 :: u60 :: u61 :: u62 :: u63 :: u64 :: u65 :: u66 :: u67 :: u68 :: u69 :: u70 :: u71 :: u72 :: u73 :: u74 :: u75 :: u76 :: u77 :: u78 :: u79 :: u80 :: u81 :: u82 :: u83 :: u84 :: u85 :: u86 :: u87 :: u88 :: u89 :: u90 :: u91 :: u92 :: u93 :: u94 :: u95 :: u96 :: u97 :: u98 :: u99 :: u100 :: u101 :: u102 :: u103 :: u104 :: u105 :: u106 :: u107 :: u108 :: u109 :: u110 :: u111 :: u112 :: u113 :: u114 :: u115 :: u116 :: u117 :: u118 :: u119 :: u120 :: u121 :: u122 :: u123 :: u124 :: u125 :: u126 :: u127 :: u128 :: u129 :: u130 :: u131 :: u132 :: u133 :: u134 :: []).toArray, defers := [] } w := by
  unfold ops18
  rcases lo with _ | _
  · have hk := HK.out
    simp only [Bool.false_and] at hk
    have HK2 := (show Hid _ from hk)
    clear hk
    go_wp2_with fail
    exact HK2.out _ HW.out _ _ _ _ _ _ _ _ _ _ _ _ _ _ _ _ _ _ _ _ _
  · rcases h1 : P x k with _ | _
    · have hk := HK.out
      rw [h1] at hk
      simp only [Bool.true_and, Bool.not_false, Bool.true_or] at hk
      have HK2 := (show Hid _ from hk)
      clear hk
      go_wp2_with fail
      rw [hF, Oper.upon_enter]
      refine (HCL.out x k (by omega) (by omega) _ HW.out).mono ?_
      rintro e w1 ⟨rfl, hb1⟩
      rw [h1]
      have HW1 : Hid (Below W.heap.size W w1) := Below.then HW.out hb1
      clear hb1
      go_wp2_with fail
      exact HK2.out _ HW1.out _ _ _ _ _ _ _ _ _ _ _ _ _ _ _ _ _ _ _ _ _
    · rcases h2 : P y k with _ | _
      · have hk := HK.out
        rw [h1, h2] at hk
        simp only [Bool.true_and, Bool.not_true, Bool.not_false, Bool.true_or, Bool.false_or] at hk
        have HK2 := (show Hid _ from hk)
        clear hk
        go_wp2_with fail
        rw [hF, Oper.upon_enter]
        refine (HCL.out x k (by omega) (by omega) _ HW.out).mono ?_
        rintro e w1 ⟨rfl, hb1⟩
        rw [h1]
        have HW1 : Hid (Below W.heap.size W w1) := Below.then HW.out hb1
        clear hb1
        go_wp2_with fail
        rw [hF, Oper.upon_enter]
        refine (HCL.out y k (by omega) (by omega) _ HW1.out).mono ?_
        rintro e w2 ⟨rfl, hb2⟩
        rw [h2]
        have HW2 : Hid (Below W.heap.size W w2) := Below.then HW1.out hb2
        clear hb2
        go_wp2_with fail
        exact HK2.out _ HW2.out _ _ _ _ _ _ _ _ _ _ _ _ _ _ _ _ _ _ _ _ _
      · have hk := HK.out
        rw [h1, h2] at hk
        simp only [Bool.true_and, Bool.not_true, Bool.false_or] at hk
        have HK2 := (show Hid _ from hk)
        clear hk
        go_wp2_with fail
        rw [hF, Oper.upon_enter]
        refine (HCL.out x k (by omega) (by omega) _ HW.out).mono ?_
        rintro e w1 ⟨rfl, hb1⟩
        rw [h1]
        have HW1 : Hid (Below W.heap.size W w1) := Below.then HW.out hb1
        clear hb1
        go_wp2_with fail
        rw [hF, Oper.upon_enter]
        refine (HCL.out y k (by omega) (by omega) _ HW1.out).mono ?_
        rintro e w2 ⟨rfl, hb2⟩
        rw [h2]
        have HW2 : Hid (Below W.heap.size W w2) := Below.then HW1.out hb2
        clear hb2
        go_wp2_with fail
        rw [hF, Oper.upon_enter]
        refine (HCL.out z k (by omega) (by omega) _ HW2.out).mono ?_
        rintro e w3 ⟨rfl, hb3⟩
        have HW3 : Hid (Below W.heap.size W w3) := Below.then HW2.out hb3
        clear hb3
        go_wp2_with fail
        exact HK2.out _ HW3.out _ _ _ _ _ _ _ _ _ _ _ _ _ _ _ _ _ _ _ _ _
end Go.Proofs.Ytappekjkcgmheab
