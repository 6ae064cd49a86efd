/-
  The two drawn regions of tables.OfSets: one number more in the row of either table. Conditions: as each theorem says.
-/
import Derived.Test.YthhnngmfbbljaaaGreatLate
import Derived.Test.YthhnngmfbbljaaaGreatTwoM
import Derived.Test.YthhnngmfbbljaaaGreatFilM
import Derived.Test.YthhnngmfbbljaaaGreatTabs
namespace Go.Proofs.YthhnngmfbbljaaaGreat
open Go.RowKit

/-- What the loads of a region read. -/
def OS (w0 : World) (B0 B T1 T2 n x : Nat) (v1 v2 : Value) (w : World) : Prop := Below B0 w0 w ∧ Bx w B n T1 T2 ∧ w.cell? ⟨T1, x, none⟩ = some v1 ∧ w.cell? ⟨T2, x, none⟩ = some v2
section
variable {w0 : World} {B0 B T1 T2 T H n x : Nat} {R1 R2 : Nat → Nat × Nat} {m j : Nat → Nat → Nat} {v1 v2 : Value} {y1 y2 : Nat} {w w' : World}
theorem OS.of (_L : Lay B0 B T1 T2 T) (h : Two w0 B0 B T1 T2 T H n x R1 R2 m j v1 v2 y1 y2 w) (hx : x < n) : OS w0 B0 B T1 T2 n x v1 v2 w := by
  have h1 := (h.o1 x hx).1
  have h2 := (h.o2 x hx).1
  rw [rowF_at] at h1 h2
  exact ⟨h.bel, h.box, h1, h2⟩
theorem OS.keepB (L : Lay B0 B T1 T2 T) (hT : T < H) (h : OS w0 B0 B T1 T2 n x v1 v2 w) (hb : Below H w w') (_hs : B0 ≤ w.heap.size) : OS w0 B0 B T1 T2 n x v1 v2 w' := by
  have h1 := L.t
  have h2 := L.b0
  exact ⟨h.1.trans (hb.mono (by omega)), h.2.1.keep hb (by omega), (hb.cell (p := ⟨T1, x, none⟩) (show T1 < H by omega)).trans h.2.2.1, (hb.cell (p := ⟨T2, x, none⟩) (show T2 < H by omega)).trans h.2.2.2⟩
end
/-- An append of one number to a row of the call's own. -/
theorem wp_grow {o : Oper} {a : Act} {K : Act → World → Prop} {Q : Exit → Act → World → Prop} (w : World) (s x : Operand)
    (ho : o.op = .call { callee := .builtin .append, args := #[s, x], argTypes := #[22, 22] }) (base : Nat) (v : Value) (n : Nat) (xs : List Value) (hs : a.eval s = v) (hown : w.ownsRow base 3 1 v n xs)
    (b : Nat) (u : Int) (hx : a.eval x = .slice (some ⟨b, 0, none⟩) 1 1) (hc : w.cell? ⟨b, 0, none⟩ = some (.int .i64 u)) (hlen : n ≤ 1000) (hbase : base ≤ w.heap.size)
    (h : ∀ v' w', w'.ownsRow base 3 1 v' (n + 1) (xs ++ [.int .i64 u]) → w.grownBy w' v.ownBlock → (v'.ownBlock = v.ownBlock ∨ v'.ownBlock = some w.heap.size) → K (a.put o.dst v') w') : o.wp Tryz.prog a w K Q := by
  obtain ⟨i0, hi, hz0, hz1, hz2⟩ := info_parts Tryz.info3
  obtain ⟨v', w', hr, h2, h3, _, h5⟩ := run_append_own_at (P := Tryz.prog) w base 22 o.type 3 i0 (.int .i64 0) 1 8 Tryz.underlying22 hi hz0 hz1 hz2 rfl (by decide) v n xs hown ⟨b, 0, none⟩ 1 1 [.int .i64 u] rfl (fun j q hj => by
    match j, hj with
    | 0, hj => simp at hj; subst hj; simpa [Addr.add] using hc) (fun q hq => by simp at hq; subst hq; rfl) (by unfold maxLen; omega) (by omega) hbase
  unfold Oper.wp execOp
  simp only [ho, resolve, invoke, builtin, Sem.run_bind, Sem.run_pure, Result.andThen_ok, List.map_toArray, List.map_cons, List.map_nil, hs, hx, hr]
  exact h v' w' h2 h3 h5
def ops11 : Array Oper :=
  #[{ dst := some 29, op := Go.Op.fieldAddr 27 (Go.Operand.tmp 7) 1, type := 0, pos := "tables.go:34", after := #[], guard := none },
    { dst := some 30, op := Go.Op.load 25 (Go.Operand.tmp 29), type := 25, pos := "tables.go:34", after := #[{ on := 0, ground := Go.Ground.data }], guard := none },
    { dst := some 31, op := Go.Op.move (Go.Operand.tmp 8), type := 3, pos := "tables.go:34", after := #[], guard := none },
    { dst := some 32, op := Go.Op.fieldAddr 27 (Go.Operand.tmp 7) 1, type := 0, pos := "tables.go:34", after := #[], guard := none },
    { dst := some 33, op := Go.Op.load 25 (Go.Operand.tmp 32), type := 25, pos := "tables.go:34", after := #[{ on := 3, ground := Go.Ground.data }], guard := none },
    { dst := some 34, op := Go.Op.move (Go.Operand.tmp 8), type := 3, pos := "tables.go:34", after := #[], guard := none },
    { dst := some 35, op := Go.Op.indexAddr 25 (Go.Operand.tmp 33) (Go.Operand.tmp 34), type := 0, pos := "tables.go:34", after := #[{ on := 4, ground := Go.Ground.data }, { on := 5, ground := Go.Ground.data }], guard := none },
    { dst := some 36, op := Go.Op.load 22 (Go.Operand.tmp 35), type := 22, pos := "tables.go:34", after := #[{ on := 6, ground := Go.Ground.data }], guard := none },
    { dst := some 37, op := Go.Op.move (Go.Operand.tmp 0), type := 22, pos := "tables.go:34", after := #[], guard := none },
    { dst := some 38, op := Go.Op.move (Go.Operand.tmp 0), type := 22, pos := "tables.go:34", after := #[], guard := none },
    { dst := some 39, op := Go.Op.move (Go.Operand.tmp 8), type := 3, pos := "tables.go:34", after := #[], guard := none },
    { dst := some 40, op := Go.Op.indexAddr 22 (Go.Operand.tmp 38) (Go.Operand.tmp 39), type := 0, pos := "tables.go:34", after := #[{ on := 9, ground := Go.Ground.data }, { on := 10, ground := Go.Ground.data }], guard := none },
    { dst := some 41, op := Go.Op.load 3 (Go.Operand.tmp 40), type := 3, pos := "tables.go:34", after := #[{ on := 11, ground := Go.Ground.data }], guard := none },
    { dst := some 42, op := Go.Op.move (Go.Operand.tmp 0), type := 22, pos := "tables.go:34", after := #[], guard := none },
    { dst := some 43, op := Go.Op.move (Go.Operand.tmp 9), type := 3, pos := "tables.go:34", after := #[], guard := none },
    { dst := some 44, op := Go.Op.indexAddr 22 (Go.Operand.tmp 42) (Go.Operand.tmp 43), type := 0, pos := "tables.go:34", after := #[{ on := 13, ground := Go.Ground.data }, { on := 14, ground := Go.Ground.data }], guard := none },
    { dst := some 45, op := Go.Op.load 3 (Go.Operand.tmp 44), type := 3, pos := "tables.go:34", after := #[{ on := 15, ground := Go.Ground.data }], guard := none },
    { dst := some 46, op := Go.Op.binOp Go.BinOp.and 3 (Go.Operand.tmp 41) (Go.Operand.tmp 45) 3, type := 3, pos := "tables.go:34", after := #[{ on := 12, ground := Go.Ground.data }, { on := 16, ground := Go.Ground.data }], guard := none },
    { dst := some 47, op := Go.Op.call { callee := Go.Callee.value (Go.Operand.func 38), args := #[Go.Operand.tmp 37, Go.Operand.tmp 46], argTypes := #[22, 3] }, type := 3, pos := "tables.go:34", after := #[{ on := 8, ground := Go.Ground.data }, { on := 17, ground := Go.Ground.data }], guard := none },
    { dst := some 48, op := Go.Op.buildSlice 22 1 #[(0, Go.Operand.tmp 47)], type := 22, pos := "tables.go:34", after := #[{ on := 18, ground := Go.Ground.data }], guard := none },
    { dst := some 49, op := Go.Op.call { callee := Go.Callee.builtin Go.Builtin.append, args := #[Go.Operand.tmp 36, Go.Operand.tmp 48], argTypes := #[22, 22] }, type := 22, pos := "tables.go:34", after := #[{ on := 7, ground := Go.Ground.data }, { on := 19, ground := Go.Ground.data }, { on := 18, ground := Go.Ground.chain }], guard := none },
    { dst := some 50, op := Go.Op.indexAddr 25 (Go.Operand.tmp 30) (Go.Operand.tmp 31), type := 0, pos := "tables.go:34", after := #[{ on := 1, ground := Go.Ground.data }, { on := 2, ground := Go.Ground.data }, { on := 0, ground := Go.Ground.phase }, { on := 1, ground := Go.Ground.phase }, { on := 2, ground := Go.Ground.phase }, { on := 3, ground := Go.Ground.phase }, { on := 4, ground := Go.Ground.phase }, { on := 5, ground := Go.Ground.phase }, { on := 6, ground := Go.Ground.phase }, { on := 7, ground := Go.Ground.phase }, { on := 8, ground := Go.Ground.phase }, { on := 9, ground := Go.Ground.phase }, { on := 10, ground := Go.Ground.phase }, { on := 11, ground := Go.Ground.phase }, { on := 12, ground := Go.Ground.phase }, { on := 13, ground := Go.Ground.phase }, { on := 14, ground := Go.Ground.phase }, { on := 15, ground := Go.Ground.phase }, { on := 16, ground := Go.Ground.phase }, { on := 17, ground := Go.Ground.phase }, { on := 18, ground := Go.Ground.phase }, { on := 19, ground := Go.Ground.phase }, { on := 20, ground := Go.Ground.phase }], guard := none },
    { dst := none, op := Go.Op.store 22 (Go.Operand.tmp 50) (Go.Operand.tmp 49), type := 0, pos := "tables.go:34", after := #[{ on := 21, ground := Go.Ground.data }, { on := 20, ground := Go.Ground.data }, { on := 20, ground := Go.Ground.chain }, { on := 0, ground := Go.Ground.phase }, { on := 1, ground := Go.Ground.phase }, { on := 2, ground := Go.Ground.phase }, { on := 3, ground := Go.Ground.phase }, { on := 4, ground := Go.Ground.phase }, { on := 5, ground := Go.Ground.phase }, { on := 6, ground := Go.Ground.phase }, { on := 7, ground := Go.Ground.phase }, { on := 8, ground := Go.Ground.phase }, { on := 9, ground := Go.Ground.phase }, { on := 10, ground := Go.Ground.phase }, { on := 11, ground := Go.Ground.phase }, { on := 12, ground := Go.Ground.phase }, { on := 13, ground := Go.Ground.phase }, { on := 14, ground := Go.Ground.phase }, { on := 15, ground := Go.Ground.phase }, { on := 16, ground := Go.Ground.phase }, { on := 17, ground := Go.Ground.phase }, { on := 18, ground := Go.Ground.phase }, { on := 19, ground := Go.Ground.phase }, { on := 20, ground := Go.Ground.phase }], guard := none }]
def ops12 : Array Oper :=
  #[{ dst := some 51, op := Go.Op.fieldAddr 27 (Go.Operand.tmp 7) 2, type := 0, pos := "tables.go:35", after := #[], guard := none },
    { dst := some 52, op := Go.Op.load 25 (Go.Operand.tmp 51), type := 25, pos := "tables.go:35", after := #[{ on := 0, ground := Go.Ground.data }], guard := none },
    { dst := some 53, op := Go.Op.move (Go.Operand.tmp 8), type := 3, pos := "tables.go:35", after := #[], guard := none },
    { dst := some 54, op := Go.Op.fieldAddr 27 (Go.Operand.tmp 7) 2, type := 0, pos := "tables.go:35", after := #[], guard := none },
    { dst := some 55, op := Go.Op.load 25 (Go.Operand.tmp 54), type := 25, pos := "tables.go:35", after := #[{ on := 3, ground := Go.Ground.data }], guard := none },
    { dst := some 56, op := Go.Op.move (Go.Operand.tmp 8), type := 3, pos := "tables.go:35", after := #[], guard := none },
    { dst := some 57, op := Go.Op.indexAddr 25 (Go.Operand.tmp 55) (Go.Operand.tmp 56), type := 0, pos := "tables.go:35", after := #[{ on := 4, ground := Go.Ground.data }, { on := 5, ground := Go.Ground.data }], guard := none },
    { dst := some 58, op := Go.Op.load 22 (Go.Operand.tmp 57), type := 22, pos := "tables.go:35", after := #[{ on := 6, ground := Go.Ground.data }], guard := none },
    { dst := some 59, op := Go.Op.move (Go.Operand.tmp 0), type := 22, pos := "tables.go:35", after := #[], guard := none },
    { dst := some 60, op := Go.Op.move (Go.Operand.tmp 1), type := 65, pos := "tables.go:35", after := #[], guard := none },
    { dst := some 61, op := Go.Op.move (Go.Operand.tmp 0), type := 22, pos := "tables.go:35", after := #[], guard := none },
    { dst := some 62, op := Go.Op.move (Go.Operand.tmp 8), type := 3, pos := "tables.go:35", after := #[], guard := none },
    { dst := some 63, op := Go.Op.indexAddr 22 (Go.Operand.tmp 61) (Go.Operand.tmp 62), type := 0, pos := "tables.go:35", after := #[{ on := 10, ground := Go.Ground.data }, { on := 11, ground := Go.Ground.data }], guard := none },
    { dst := some 64, op := Go.Op.load 3 (Go.Operand.tmp 63), type := 3, pos := "tables.go:35", after := #[{ on := 12, ground := Go.Ground.data }], guard := none },
    { dst := some 65, op := Go.Op.move (Go.Operand.tmp 0), type := 22, pos := "tables.go:35", after := #[], guard := none },
    { dst := some 66, op := Go.Op.move (Go.Operand.tmp 9), type := 3, pos := "tables.go:35", after := #[], guard := none },
    { dst := some 67, op := Go.Op.indexAddr 22 (Go.Operand.tmp 65) (Go.Operand.tmp 66), type := 0, pos := "tables.go:35", after := #[{ on := 14, ground := Go.Ground.data }, { on := 15, ground := Go.Ground.data }], guard := none },
    { dst := some 68, op := Go.Op.load 3 (Go.Operand.tmp 67), type := 3, pos := "tables.go:35", after := #[{ on := 16, ground := Go.Ground.data }], guard := none },
    { dst := some 69, op := Go.Op.binOp Go.BinOp.or 3 (Go.Operand.tmp 64) (Go.Operand.tmp 68) 3, type := 3, pos := "tables.go:35", after := #[{ on := 13, ground := Go.Ground.data }, { on := 17, ground := Go.Ground.data }], guard := none },
    { dst := some 70, op := Go.Op.call { callee := Go.Callee.value (Go.Operand.tmp 60), args := #[Go.Operand.tmp 69], argTypes := #[3] }, type := 3, pos := "tables.go:35", after := #[{ on := 9, ground := Go.Ground.data }, { on := 18, ground := Go.Ground.data }], guard := none },
    { dst := some 71, op := Go.Op.call { callee := Go.Callee.value (Go.Operand.func 38), args := #[Go.Operand.tmp 59, Go.Operand.tmp 70], argTypes := #[22, 3] }, type := 3, pos := "tables.go:35", after := #[{ on := 8, ground := Go.Ground.data }, { on := 19, ground := Go.Ground.data }, { on := 19, ground := Go.Ground.chain }], guard := none },
    { dst := some 72, op := Go.Op.buildSlice 22 1 #[(0, Go.Operand.tmp 71)], type := 22, pos := "tables.go:35", after := #[{ on := 20, ground := Go.Ground.data }], guard := none },
    { dst := some 73, op := Go.Op.call { callee := Go.Callee.builtin Go.Builtin.append, args := #[Go.Operand.tmp 58, Go.Operand.tmp 72], argTypes := #[22, 22] }, type := 22, pos := "tables.go:35", after := #[{ on := 7, ground := Go.Ground.data }, { on := 21, ground := Go.Ground.data }, { on := 20, ground := Go.Ground.chain }], guard := none },
    { dst := some 74, op := Go.Op.indexAddr 25 (Go.Operand.tmp 52) (Go.Operand.tmp 53), type := 0, pos := "tables.go:35", after := #[{ on := 1, ground := Go.Ground.data }, { on := 2, ground := Go.Ground.data }, { on := 0, ground := Go.Ground.phase }, { on := 1, ground := Go.Ground.phase }, { on := 2, ground := Go.Ground.phase }, { on := 3, ground := Go.Ground.phase }, { on := 4, ground := Go.Ground.phase }, { on := 5, ground := Go.Ground.phase }, { on := 6, ground := Go.Ground.phase }, { on := 7, ground := Go.Ground.phase }, { on := 8, ground := Go.Ground.phase }, { on := 9, ground := Go.Ground.phase }, { on := 10, ground := Go.Ground.phase }, { on := 11, ground := Go.Ground.phase }, { on := 12, ground := Go.Ground.phase }, { on := 13, ground := Go.Ground.phase }, { on := 14, ground := Go.Ground.phase }, { on := 15, ground := Go.Ground.phase }, { on := 16, ground := Go.Ground.phase }, { on := 17, ground := Go.Ground.phase }, { on := 18, ground := Go.Ground.phase }, { on := 19, ground := Go.Ground.phase }, { on := 20, ground := Go.Ground.phase }, { on := 21, ground := Go.Ground.phase }, { on := 22, ground := Go.Ground.phase }], guard := none },
    { dst := none, op := Go.Op.store 22 (Go.Operand.tmp 74) (Go.Operand.tmp 73), type := 0, pos := "tables.go:35", after := #[{ on := 23, ground := Go.Ground.data }, { on := 22, ground := Go.Ground.data }, { on := 22, ground := Go.Ground.chain }, { on := 0, ground := Go.Ground.phase }, { on := 1, ground := Go.Ground.phase }, { on := 2, ground := Go.Ground.phase }, { on := 3, ground := Go.Ground.phase }, { on := 4, ground := Go.Ground.phase }, { on := 5, ground := Go.Ground.phase }, { on := 6, ground := Go.Ground.phase }, { on := 7, ground := Go.Ground.phase }, { on := 8, ground := Go.Ground.phase }, { on := 9, ground := Go.Ground.phase }, { on := 10, ground := Go.Ground.phase }, { on := 11, ground := Go.Ground.phase }, { on := 12, ground := Go.Ground.phase }, { on := 13, ground := Go.Ground.phase }, { on := 14, ground := Go.Ground.phase }, { on := 15, ground := Go.Ground.phase }, { on := 16, ground := Go.Ground.phase }, { on := 17, ground := Go.Ground.phase }, { on := 18, ground := Go.Ground.phase }, { on := 19, ground := Go.Ground.phase }, { on := 20, ground := Go.Ground.phase }, { on := 21, ground := Go.Ground.phase }, { on := 22, ground := Go.Ground.phase }], guard := none }]
set_option maxHeartbeats 8000000 in
set_option maxRecDepth 100000 in
theorem reg11 {w0 w : World} {B0 B T1 T2 T H n x y y2 lb lo lc F : Nat} {caps : Array Value} {R1 R2 : Nat → Nat × Nat} {m j : Nat → Nat → Nat} {v1 v2 : Value} {u2 u3 u4 u5 u10 u11 u12 u13 u14 u15 u16 u17 u18 u19 u20 u21 u22 u23 u24 u25 u26 u27 u28 u29 u30 u31 u32 u33 u34 u35 u36 u37 u38 u39 u40 u41 u42 u43 u44 u45 u46 u47 u48 u49 u50 u51 u52 u53 u54 u55 u56 u57 u58 u59 u60 u61 u62 u63 u64 u65 u66 u67 u68 u69 u70 u71 u72 u73 u74 u75 u76 u77 : Value} {Q : Exit → Act → World → Prop} {l : List Nat}
    (L : Lay B0 B T1 T2 T) (HTW : Hid (Two w0 B0 B T1 T2 T H n x R1 R2 m j v1 v2 y y2 w)) (hx : x < n) (hy : y < n) (h40 : n ≤ 40) (hn : n = l.length) (hl : l.length ≤ 1024) (hrs : Rises l)
    (HLR : Hid (∀ w', Below B0 w0 w' → Row w' (some ⟨lb, lo, none⟩) l.length (fun k => (nth l k : Nat)))) (hs : ∀ k, k < n → nth l k < 1024) (HM : Hid (m x y < l.length ∧ nth l (m x y) = nth l x &&& nth l y))
    (hQ : ∀ c a w (d : Nat) v, Q (.panic c) (a.put (some d) v) w → Q (.panic c) a w)
    (hk : ∀ v' w', Two w0 B0 B T1 T2 T H n x R1 R2 m j v' v2 (y + 1) y2 w' → ∀ z29 z30 z31 z32 z33 z34 z35 z36 z37 z38 z39 z40 z41 z42 z43 z44 z45 z46 z47 z48 z49 z50 : Value, Q .normal { tmps := ((.slice (some ⟨lb, lo, none⟩) n lc) :: (.func (.func F) #[] caps) :: u2 :: u3 :: u4 :: u5 :: (.int .i64 (n : Int)) :: (.pointer (some ⟨B, 0, none⟩)) :: (.int .i64 (x : Nat)) :: (.int .i64 (y : Nat)) :: u10 :: u11 :: u12 :: u13 :: u14 :: u15 :: u16 :: u17 :: u18 :: u19 :: u20 :: u21 :: u22 :: u23 :: u24 :: u25 :: u26 :: u27 :: u28 :: z29 :: z30 :: z31 :: z32 :: z33 :: z34 :: z35 :: z36 :: z37 :: z38 :: z39 :: z40 :: z41 :: z42 :: z43 :: z44 :: z45 :: z46 :: z47 :: z48 :: z49 :: z50 :: u51 :: u52 :: u53 :: u54 :: u55 :: u56 :: u57 :: u58 :: u59 :: u60 :: u61 :: u62 :: u63 :: u64 :: u65 :: u66 :: u67 :: u68 :: u69 :: u70 :: u71 :: u72 :: u73 :: u74 :: u75 :: u76 :: u77 :: []).toArray, defers := [] } w') :
    (Code.region 11 ops11 true).wp Tryz.prog Q { tmps := ((.slice (some ⟨lb, lo, none⟩) n lc) :: (.func (.func F) #[] caps) :: u2 :: u3 :: u4 :: u5 :: (.int .i64 (n : Int)) :: (.pointer (some ⟨B, 0, none⟩)) :: (.int .i64 (x : Nat)) :: (.int .i64 (y : Nat)) :: u10 :: u11 :: u12 :: u13 :: u14 :: u15 :: u16 :: u17 :: u18 :: u19 :: u20 :: u21 :: u22 :: u23 :: u24 :: u25 :: u26 :: u27 :: u28 :: u29 :: u30 :: u31 :: u32 :: u33 :: u34 :: u35 :: u36 :: u37 :: u38 :: u39 :: u40 :: u41 :: u42 :: u43 :: u44 :: u45 :: u46 :: u47 :: u48 :: u49 :: u50 :: u51 :: u52 :: u53 :: u54 :: u55 :: u56 :: u57 :: u58 :: u59 :: u60 :: u61 :: u62 :: u63 :: u64 :: u65 :: u66 :: u67 :: u68 :: u69 :: u70 :: u71 :: u72 :: u73 :: u74 :: u75 :: u76 :: u77 :: []).toArray, defers := [] } w := by
  have lx : ∀ w', Below B0 w0 w' → w'.cell? ⟨lb, lo + x, none⟩ = some (.int .i64 (nth l x : Nat)) := fun w' h => by
    obtain ⟨b, off, e, hc⟩ := HLR.out w' h x (by omega)
    cases e; exact hc
  have ly : ∀ w', Below B0 w0 w' → w'.cell? ⟨lb, lo + y, none⟩ = some (.int .i64 (nth l y : Nat)) := fun w' h => by
    obtain ⟨b, off, e, hc⟩ := HLR.out w' h y (by omega)
    cases e; exact hc
  have hx' : (x : Int) < (n : Int) := by omega
  have hy' : (y : Int) < (n : Int) := by omega
  have hsx := hs x hx
  have hsy := hs y hy
  have hand := i64_and (nth l x) (nth l y) (by omega) (by omega)
  have HN : Hid (n = l.length) := hn
  clear hn
  unfold ops11
  refine wp_lates (S := (OS w0 B0 B T1 T2 n x v1 v2)) (late := (fun i => i == 22)) (by kernel_rfl) ?_
  have HTW : Hid (Two w0 B0 B T1 T2 T H n x R1 R2 m j v1 v2 y y2 w.drew) := HTW.out.step L (Below.refl _ _).drew
  have HS : Hid (OS w0 B0 B T1 T2 n x v1 v2 w.drew) := OS.of L HTW.out hx
  refine lates_take (i := 0) (oi := { dst := some 29, op := Go.Op.fieldAddr 27 (Go.Operand.tmp 7) 1, type := 0, pos := "tables.go:34", after := #[], guard := none }) (v := ?_) rfl (by kernel_rfl) (by kernel_rfl) (by kernel_rfl) ⟨rfl, by kernel_rfl⟩ (fun _ _ _ h => hQ _ _ _ _ _ h) (Or.inl ⟨by rfl, ?hy⟩) HS.out ?_
  case hy => (intro w9 hSw; obtain ⟨qb, ⟨q0, q1, q2⟩, q3, q4⟩ := hSw; go_simp; try with_reducible rfl)
  try simp only [Act.put, List.setIfInBounds_toArray, List.set_cons_zero, List.set_cons_succ]
  refine lates_take (i := 1) (oi := { dst := some 30, op := Go.Op.load 25 (Go.Operand.tmp 29), type := 25, pos := "tables.go:34", after := #[{ on := 0, ground := Go.Ground.data }], guard := none }) (v := ?_) rfl (by kernel_rfl) (by kernel_rfl) (by kernel_rfl) ⟨rfl, by kernel_rfl⟩ (fun _ _ _ h => hQ _ _ _ _ _ h) (Or.inl ⟨by rfl, ?hy⟩) HS.out ?_
  case hy => (intro w9 hSw; obtain ⟨qb, ⟨q0, q1, q2⟩, q3, q4⟩ := hSw; go_simp; try with_reducible rfl)
  try simp only [Act.put, List.setIfInBounds_toArray, List.set_cons_zero, List.set_cons_succ]
  refine lates_take (i := 2) (oi := { dst := some 31, op := Go.Op.move (Go.Operand.tmp 8), type := 3, pos := "tables.go:34", after := #[], guard := none }) (v := ?_) rfl (by kernel_rfl) (by kernel_rfl) (by kernel_rfl) ⟨rfl, by kernel_rfl⟩ (fun _ _ _ h => hQ _ _ _ _ _ h) (Or.inl ⟨by rfl, ?hy⟩) HS.out ?_
  case hy => (intro w9 hSw; obtain ⟨qb, ⟨q0, q1, q2⟩, q3, q4⟩ := hSw; go_simp; try with_reducible rfl)
  try simp only [Act.put, List.setIfInBounds_toArray, List.set_cons_zero, List.set_cons_succ]
  refine lates_take (i := 3) (oi := { dst := some 32, op := Go.Op.fieldAddr 27 (Go.Operand.tmp 7) 1, type := 0, pos := "tables.go:34", after := #[], guard := none }) (v := ?_) rfl (by kernel_rfl) (by kernel_rfl) (by kernel_rfl) ⟨rfl, by kernel_rfl⟩ (fun _ _ _ h => hQ _ _ _ _ _ h) (Or.inl ⟨by rfl, ?hy⟩) HS.out ?_
  case hy => (intro w9 hSw; obtain ⟨qb, ⟨q0, q1, q2⟩, q3, q4⟩ := hSw; go_simp; try with_reducible rfl)
  try simp only [Act.put, List.setIfInBounds_toArray, List.set_cons_zero, List.set_cons_succ]
  refine lates_take (i := 4) (oi := { dst := some 33, op := Go.Op.load 25 (Go.Operand.tmp 32), type := 25, pos := "tables.go:34", after := #[{ on := 3, ground := Go.Ground.data }], guard := none }) (v := ?_) rfl (by kernel_rfl) (by kernel_rfl) (by kernel_rfl) ⟨rfl, by kernel_rfl⟩ (fun _ _ _ h => hQ _ _ _ _ _ h) (Or.inl ⟨by rfl, ?hy⟩) HS.out ?_
  case hy => (intro w9 hSw; obtain ⟨qb, ⟨q0, q1, q2⟩, q3, q4⟩ := hSw; go_simp; try with_reducible rfl)
  try simp only [Act.put, List.setIfInBounds_toArray, List.set_cons_zero, List.set_cons_succ]
  refine lates_take (i := 5) (oi := { dst := some 34, op := Go.Op.move (Go.Operand.tmp 8), type := 3, pos := "tables.go:34", after := #[], guard := none }) (v := ?_) rfl (by kernel_rfl) (by kernel_rfl) (by kernel_rfl) ⟨rfl, by kernel_rfl⟩ (fun _ _ _ h => hQ _ _ _ _ _ h) (Or.inl ⟨by rfl, ?hy⟩) HS.out ?_
  case hy => (intro w9 hSw; obtain ⟨qb, ⟨q0, q1, q2⟩, q3, q4⟩ := hSw; go_simp; try with_reducible rfl)
  try simp only [Act.put, List.setIfInBounds_toArray, List.set_cons_zero, List.set_cons_succ]
  refine lates_take (i := 6) (oi := { dst := some 35, op := Go.Op.indexAddr 25 (Go.Operand.tmp 33) (Go.Operand.tmp 34), type := 0, pos := "tables.go:34", after := #[{ on := 4, ground := Go.Ground.data }, { on := 5, ground := Go.Ground.data }], guard := none }) (v := ?_) rfl (by kernel_rfl) (by kernel_rfl) (by kernel_rfl) ⟨rfl, by kernel_rfl⟩ (fun _ _ _ h => hQ _ _ _ _ _ h) (Or.inl ⟨by rfl, ?hy⟩) HS.out ?_
  case hy => (intro w9 hSw; obtain ⟨qb, ⟨q0, q1, q2⟩, q3, q4⟩ := hSw; go_simp; try with_reducible rfl)
  try simp only [Act.put, List.setIfInBounds_toArray, List.set_cons_zero, List.set_cons_succ]
  refine lates_take (i := 7) (oi := { dst := some 36, op := Go.Op.load 22 (Go.Operand.tmp 35), type := 22, pos := "tables.go:34", after := #[{ on := 6, ground := Go.Ground.data }], guard := none }) (v := ?_) rfl (by kernel_rfl) (by kernel_rfl) (by kernel_rfl) ⟨rfl, by kernel_rfl⟩ (fun _ _ _ h => hQ _ _ _ _ _ h) (Or.inl ⟨by rfl, ?hy⟩) HS.out ?_
  case hy => (intro w9 hSw; obtain ⟨qb, ⟨q0, q1, q2⟩, q3, q4⟩ := hSw; go_simp; try with_reducible rfl)
  try simp only [Act.put, List.setIfInBounds_toArray, List.set_cons_zero, List.set_cons_succ]
  refine lates_take (i := 8) (oi := { dst := some 37, op := Go.Op.move (Go.Operand.tmp 0), type := 22, pos := "tables.go:34", after := #[], guard := none }) (v := ?_) rfl (by kernel_rfl) (by kernel_rfl) (by kernel_rfl) ⟨rfl, by kernel_rfl⟩ (fun _ _ _ h => hQ _ _ _ _ _ h) (Or.inl ⟨by rfl, ?hy⟩) HS.out ?_
  case hy => (intro w9 hSw; obtain ⟨qb, ⟨q0, q1, q2⟩, q3, q4⟩ := hSw; go_simp; try with_reducible rfl)
  try simp only [Act.put, List.setIfInBounds_toArray, List.set_cons_zero, List.set_cons_succ]
  refine lates_take (i := 9) (oi := { dst := some 38, op := Go.Op.move (Go.Operand.tmp 0), type := 22, pos := "tables.go:34", after := #[], guard := none }) (v := ?_) rfl (by kernel_rfl) (by kernel_rfl) (by kernel_rfl) ⟨rfl, by kernel_rfl⟩ (fun _ _ _ h => hQ _ _ _ _ _ h) (Or.inl ⟨by rfl, ?hy⟩) HS.out ?_
  case hy => (intro w9 hSw; obtain ⟨qb, ⟨q0, q1, q2⟩, q3, q4⟩ := hSw; go_simp; try with_reducible rfl)
  try simp only [Act.put, List.setIfInBounds_toArray, List.set_cons_zero, List.set_cons_succ]
  refine lates_take (i := 10) (oi := { dst := some 39, op := Go.Op.move (Go.Operand.tmp 8), type := 3, pos := "tables.go:34", after := #[], guard := none }) (v := ?_) rfl (by kernel_rfl) (by kernel_rfl) (by kernel_rfl) ⟨rfl, by kernel_rfl⟩ (fun _ _ _ h => hQ _ _ _ _ _ h) (Or.inl ⟨by rfl, ?hy⟩) HS.out ?_
  case hy => (intro w9 hSw; obtain ⟨qb, ⟨q0, q1, q2⟩, q3, q4⟩ := hSw; go_simp; try with_reducible rfl)
  try simp only [Act.put, List.setIfInBounds_toArray, List.set_cons_zero, List.set_cons_succ]
  refine lates_take (i := 11) (oi := { dst := some 40, op := Go.Op.indexAddr 22 (Go.Operand.tmp 38) (Go.Operand.tmp 39), type := 0, pos := "tables.go:34", after := #[{ on := 9, ground := Go.Ground.data }, { on := 10, ground := Go.Ground.data }], guard := none }) (v := ?_) rfl (by kernel_rfl) (by kernel_rfl) (by kernel_rfl) ⟨rfl, by kernel_rfl⟩ (fun _ _ _ h => hQ _ _ _ _ _ h) (Or.inl ⟨by rfl, ?hy⟩) HS.out ?_
  case hy => (intro w9 hSw; obtain ⟨qb, ⟨q0, q1, q2⟩, q3, q4⟩ := hSw; go_simp; try with_reducible rfl)
  try simp only [Act.put, List.setIfInBounds_toArray, List.set_cons_zero, List.set_cons_succ]
  refine lates_take (i := 12) (oi := { dst := some 41, op := Go.Op.load 3 (Go.Operand.tmp 40), type := 3, pos := "tables.go:34", after := #[{ on := 11, ground := Go.Ground.data }], guard := none }) (v := ?_) rfl (by kernel_rfl) (by kernel_rfl) (by kernel_rfl) ⟨rfl, by kernel_rfl⟩ (fun _ _ _ h => hQ _ _ _ _ _ h) (Or.inl ⟨by rfl, ?hy⟩) HS.out ?_
  case hy => (intro w9 hSw; obtain ⟨qb, ⟨q0, q1, q2⟩, q3, q4⟩ := hSw; go_simp; try with_reducible rfl)
  try simp only [Act.put, List.setIfInBounds_toArray, List.set_cons_zero, List.set_cons_succ]
  refine lates_take (i := 13) (oi := { dst := some 42, op := Go.Op.move (Go.Operand.tmp 0), type := 22, pos := "tables.go:34", after := #[], guard := none }) (v := ?_) rfl (by kernel_rfl) (by kernel_rfl) (by kernel_rfl) ⟨rfl, by kernel_rfl⟩ (fun _ _ _ h => hQ _ _ _ _ _ h) (Or.inl ⟨by rfl, ?hy⟩) HS.out ?_
  case hy => (intro w9 hSw; obtain ⟨qb, ⟨q0, q1, q2⟩, q3, q4⟩ := hSw; go_simp; try with_reducible rfl)
  try simp only [Act.put, List.setIfInBounds_toArray, List.set_cons_zero, List.set_cons_succ]
  refine lates_take (i := 14) (oi := { dst := some 43, op := Go.Op.move (Go.Operand.tmp 9), type := 3, pos := "tables.go:34", after := #[], guard := none }) (v := ?_) rfl (by kernel_rfl) (by kernel_rfl) (by kernel_rfl) ⟨rfl, by kernel_rfl⟩ (fun _ _ _ h => hQ _ _ _ _ _ h) (Or.inl ⟨by rfl, ?hy⟩) HS.out ?_
  case hy => (intro w9 hSw; obtain ⟨qb, ⟨q0, q1, q2⟩, q3, q4⟩ := hSw; go_simp; try with_reducible rfl)
  try simp only [Act.put, List.setIfInBounds_toArray, List.set_cons_zero, List.set_cons_succ]
  refine lates_take (i := 15) (oi := { dst := some 44, op := Go.Op.indexAddr 22 (Go.Operand.tmp 42) (Go.Operand.tmp 43), type := 0, pos := "tables.go:34", after := #[{ on := 13, ground := Go.Ground.data }, { on := 14, ground := Go.Ground.data }], guard := none }) (v := ?_) rfl (by kernel_rfl) (by kernel_rfl) (by kernel_rfl) ⟨rfl, by kernel_rfl⟩ (fun _ _ _ h => hQ _ _ _ _ _ h) (Or.inl ⟨by rfl, ?hy⟩) HS.out ?_
  case hy => (intro w9 hSw; obtain ⟨qb, ⟨q0, q1, q2⟩, q3, q4⟩ := hSw; go_simp; try with_reducible rfl)
  try simp only [Act.put, List.setIfInBounds_toArray, List.set_cons_zero, List.set_cons_succ]
  refine lates_take (i := 16) (oi := { dst := some 45, op := Go.Op.load 3 (Go.Operand.tmp 44), type := 3, pos := "tables.go:34", after := #[{ on := 15, ground := Go.Ground.data }], guard := none }) (v := ?_) rfl (by kernel_rfl) (by kernel_rfl) (by kernel_rfl) ⟨rfl, by kernel_rfl⟩ (fun _ _ _ h => hQ _ _ _ _ _ h) (Or.inl ⟨by rfl, ?hy⟩) HS.out ?_
  case hy => (intro w9 hSw; obtain ⟨qb, ⟨q0, q1, q2⟩, q3, q4⟩ := hSw; go_simp; try with_reducible rfl)
  try simp only [Act.put, List.setIfInBounds_toArray, List.set_cons_zero, List.set_cons_succ]
  refine lates_take (i := 17) (oi := { dst := some 46, op := Go.Op.binOp Go.BinOp.and 3 (Go.Operand.tmp 41) (Go.Operand.tmp 45) 3, type := 3, pos := "tables.go:34", after := #[{ on := 12, ground := Go.Ground.data }, { on := 16, ground := Go.Ground.data }], guard := none }) (v := .int .i64 ((nth l x &&& nth l y : Nat) : Int)) rfl (by kernel_rfl) (by kernel_rfl) (by kernel_rfl) ⟨rfl, by kernel_rfl⟩ (fun _ _ _ h => hQ _ _ _ _ _ h) (Or.inl ⟨by rfl, ?hy⟩) HS.out ?_
  case hy => (intro w9 hSw; obtain ⟨qb, ⟨q0, q1, q2⟩, q3, q4⟩ := hSw; go_simp <;> (first | with_reducible rfl | (simp; omega) | omega))
  try simp only [Act.put, List.setIfInBounds_toArray, List.set_cons_zero, List.set_cons_succ]
  refine lates_ready (rs := [18]) (by kernel_rfl) (by simp) ?_
  refine AllLate.cons (o := { dst := some 47, op := Go.Op.call { callee := Go.Callee.value (Go.Operand.func 38), args := #[Go.Operand.tmp 37, Go.Operand.tmp 46], argTypes := #[22, 3] }, type := 3, pos := "tables.go:34", after := #[{ on := 8, ground := Go.Ground.data }, { on := 17, ground := Go.Ground.data }], guard := none }) rfl (fun K hK => ?_) ?_
  · go_simp
    refine (place_n l (some ⟨lb, lo, none⟩) n lc (m x y) (nth l x &&& nth l y) _ HN.out hl (HLR.out _ HTW.out.bel) hrs HM.out.1 HM.out.2).mono ?_
    rintro e w2 ⟨rfl, hb2⟩
    have HT2 : Hid (Two w0 B0 B T1 T2 T H n x R1 R2 m j v1 v2 y y2 w2) := HTW.out.step L hb2
    refine hK.out _ _ (fun _ => ?_) ?_
    · exact OS.of L HT2.out hx
    have HS : Hid (OS w0 B0 B T1 T2 n x v1 v2 w2) := OS.of L HT2.out hx
    clear hK K
    try simp only [Act.put, List.setIfInBounds_toArray, List.set_cons_zero, List.set_cons_succ]
    refine lates_ready (rs := [19]) (by kernel_rfl) (by simp) ?_
    refine AllLate.cons (o := { dst := some 48, op := Go.Op.buildSlice 22 1 #[(0, Go.Operand.tmp 47)], type := 22, pos := "tables.go:34", after := #[{ on := 18, ground := Go.Ground.data }], guard := none }) rfl (fun K hK => ?_) ?_
    · go_simp
      have HT3 : Hid (Two w0 B0 B T1 T2 T H n x R1 R2 m j v1 v2 y y2 (w2.alloc (.cells #[.int .i64 (m x y : Nat)] 3))) := HT2.out.step L ((Below.refl _ _).alloc (Nat.le_refl _) _)
      have hcell : (w2.alloc (.cells #[.int .i64 (m x y : Nat)] 3)).cell? ⟨w2.heap.size, 0, none⟩ = some (.int .i64 (m x y : Nat)) := by simp
      refine hK.out _ _ (fun _ => ?_) ?_
      · exact OS.of L HT3.out hx
      have HS : Hid (OS w0 B0 B T1 T2 n x v1 v2 (w2.alloc (.cells #[.int .i64 (m x y : Nat)] 3))) := OS.of L HT3.out hx
      clear hK K
      try simp only [Act.put, List.setIfInBounds_toArray, List.set_cons_zero, List.set_cons_succ]
      refine lates_ready (rs := [20]) (by kernel_rfl) (by simp) ?_
      refine AllLate.cons (o := { dst := some 49, op := Go.Op.call { callee := Go.Callee.builtin Go.Builtin.append, args := #[Go.Operand.tmp 36, Go.Operand.tmp 48], argTypes := #[22, 22] }, type := 22, pos := "tables.go:34", after := #[{ on := 7, ground := Go.Ground.data }, { on := 19, ground := Go.Ground.data }, { on := 18, ground := Go.Ground.chain }], guard := none }) rfl (fun K hK => ?_) ?_
      · rw [if_pos (by rfl)]
        refine wp_grow _ _ _ rfl H v1 y _ rfl HT3.out.r1 w2.heap.size _ rfl hcell (by omega) HT3.out.hs ?_
        intro v' w4 hown' hgrow' hblk'
        obtain ⟨b4, cp4, rfl⟩ := owns_form hown' (Nat.succ_pos _)
        have hB4 := HT3.out.below1 hgrow'
        refine hK.out _ _ (fun _ => ?_) ?_
        · exact OS.keepB L HT3.out.th (OS.of L HT3.out hx) hB4 HT3.out.bs
        have HS : Hid (OS w0 B0 B T1 T2 n x v1 v2 w4) := OS.keepB L HT3.out.th (OS.of L HT3.out hx) hB4 HT3.out.bs
        have c4 := HS.out.2.2.1
        have f4 := (HT3.out.o1.keep hB4 (by have := L.t; have := HT3.out.th; omega) x hx).2
        clear hK K
        try simp only [Act.put, List.setIfInBounds_toArray, List.set_cons_zero, List.set_cons_succ]
        refine lates_take (i := 21) (oi := { dst := some 50, op := Go.Op.indexAddr 25 (Go.Operand.tmp 30) (Go.Operand.tmp 31), type := 0, pos := "tables.go:34", after := #[{ on := 1, ground := Go.Ground.data }, { on := 2, ground := Go.Ground.data }, { on := 0, ground := Go.Ground.phase }, { on := 1, ground := Go.Ground.phase }, { on := 2, ground := Go.Ground.phase }, { on := 3, ground := Go.Ground.phase }, { on := 4, ground := Go.Ground.phase }, { on := 5, ground := Go.Ground.phase }, { on := 6, ground := Go.Ground.phase }, { on := 7, ground := Go.Ground.phase }, { on := 8, ground := Go.Ground.phase }, { on := 9, ground := Go.Ground.phase }, { on := 10, ground := Go.Ground.phase }, { on := 11, ground := Go.Ground.phase }, { on := 12, ground := Go.Ground.phase }, { on := 13, ground := Go.Ground.phase }, { on := 14, ground := Go.Ground.phase }, { on := 15, ground := Go.Ground.phase }, { on := 16, ground := Go.Ground.phase }, { on := 17, ground := Go.Ground.phase }, { on := 18, ground := Go.Ground.phase }, { on := 19, ground := Go.Ground.phase }, { on := 20, ground := Go.Ground.phase }], guard := none }) (v := ?_) rfl (by kernel_rfl) (by kernel_rfl) (by kernel_rfl) ⟨rfl, by kernel_rfl⟩ (fun _ _ _ h => hQ _ _ _ _ _ h) (Or.inl ⟨by rfl, ?hy⟩) HS.out ?_
        case hy => (intro w9 hSw; obtain ⟨qb, ⟨q0, q1, q2⟩, q3, q4⟩ := hSw; go_simp; try with_reducible rfl)
        try simp only [Act.put, List.setIfInBounds_toArray, List.set_cons_zero, List.set_cons_succ]
        refine lates_ready (rs := [22]) (by kernel_rfl) (by simp) ?_
        refine AllLate.cons (o := { dst := none, op := Go.Op.store 22 (Go.Operand.tmp 50) (Go.Operand.tmp 49), type := 0, pos := "tables.go:34", after := #[{ on := 21, ground := Go.Ground.data }, { on := 20, ground := Go.Ground.data }, { on := 20, ground := Go.Ground.chain }, { on := 0, ground := Go.Ground.phase }, { on := 1, ground := Go.Ground.phase }, { on := 2, ground := Go.Ground.phase }, { on := 3, ground := Go.Ground.phase }, { on := 4, ground := Go.Ground.phase }, { on := 5, ground := Go.Ground.phase }, { on := 6, ground := Go.Ground.phase }, { on := 7, ground := Go.Ground.phase }, { on := 8, ground := Go.Ground.phase }, { on := 9, ground := Go.Ground.phase }, { on := 10, ground := Go.Ground.phase }, { on := 11, ground := Go.Ground.phase }, { on := 12, ground := Go.Ground.phase }, { on := 13, ground := Go.Ground.phase }, { on := 14, ground := Go.Ground.phase }, { on := 15, ground := Go.Ground.phase }, { on := 16, ground := Go.Ground.phase }, { on := 17, ground := Go.Ground.phase }, { on := 18, ground := Go.Ground.phase }, { on := 19, ground := Go.Ground.phase }, { on := 20, ground := Go.Ground.phase }], guard := none }) rfl (fun K hK => ?_) ?_
        · go_simp
          have HF : Hid (Two w0 B0 B T1 T2 T H n x R1 R2 m j (.slice (some ⟨b4, 0, none⟩) (y + 1) cp4) v2 (y + 1) y2 (w4.setCell ⟨T1, x, none⟩ (.slice (some ⟨b4, 0, none⟩) (y + 1) cp4))) := HT3.out.grow1 L (.slice (some ⟨b4, 0, none⟩) (y + 1) cp4) hown' hgrow' hblk'
          refine hK.out _ _ (fun h => by cases h) ?_
          clear hK K
          try simp only [Act.put, List.setIfInBounds_toArray, List.set_cons_zero, List.set_cons_succ]
          refine lates_done (by kernel_rfl) ?_ _
          try simp only [Act.put, List.setIfInBounds_toArray, List.set_cons_zero, List.set_cons_succ]
          exact hk _ _ HF.out _ _ _ _ _ _ _ _ _ _ _ _ _ _ _ _ _ _ _ _ _ _
        exact AllLate.nil
      exact AllLate.nil
    exact AllLate.nil
  exact AllLate.nil
set_option maxHeartbeats 8000000 in
set_option maxRecDepth 100000 in
theorem reg12 {w0 w : World} {B0 B T1 T2 T H n x y y1 lb lo lc F : Nat} {caps : Array Value} {R1 R2 : Nat → Nat × Nat} {m j : Nat → Nat → Nat} {J : Nat → Nat} {v1 v2 : Value} {u2 u3 u4 u5 u10 u11 u12 u13 u14 u15 u16 u17 u18 u19 u20 u21 u22 u23 u24 u25 u26 u27 u28 u29 u30 u31 u32 u33 u34 u35 u36 u37 u38 u39 u40 u41 u42 u43 u44 u45 u46 u47 u48 u49 u50 u51 u52 u53 u54 u55 u56 u57 u58 u59 u60 u61 u62 u63 u64 u65 u66 u67 u68 u69 u70 u71 u72 u73 u74 u75 u76 u77 : Value} {Q : Exit → Act → World → Prop} {l : List Nat}
    (L : Lay B0 B T1 T2 T) (HTW : Hid (Two w0 B0 B T1 T2 T H n x R1 R2 m j v1 v2 y1 y w)) (hx : x < n) (hy : y < n) (h40 : n ≤ 40) (hn : n = l.length) (hl : l.length ≤ 1024) (hrs : Rises l)
    (HLR : Hid (∀ w', Below B0 w0 w' → Row w' (some ⟨lb, lo, none⟩) l.length (fun k => (nth l k : Nat)))) (hs : ∀ k, k < n → nth l k < 1024) (hF : Ent F)
    (HC : Hid (∀ w', Below B0 w0 w' → Calls Tryz.prog F (#[.int .i64 ((nth l x ||| nth l y : Nat) : Int)] ++ caps) w' fun e w'' => e = .returned (.int .i64 (J (nth l x ||| nth l y) : Nat)) ∧ Below w'.heap.size w' w''))
    (HJ : Hid (j x y < l.length ∧ nth l (j x y) = J (nth l x ||| nth l y)))
    (hQ : ∀ c a w (d : Nat) v, Q (.panic c) (a.put (some d) v) w → Q (.panic c) a w)
    (hk : ∀ v' w', Two w0 B0 B T1 T2 T H n x R1 R2 m j v1 v' y1 (y + 1) w' → ∀ z51 z52 z53 z54 z55 z56 z57 z58 z59 z60 z61 z62 z63 z64 z65 z66 z67 z68 z69 z70 z71 z72 z73 z74 : Value, Q .normal { tmps := ((.slice (some ⟨lb, lo, none⟩) n lc) :: (.func (.func F) #[] caps) :: u2 :: u3 :: u4 :: u5 :: (.int .i64 (n : Int)) :: (.pointer (some ⟨B, 0, none⟩)) :: (.int .i64 (x : Nat)) :: (.int .i64 (y : Nat)) :: u10 :: u11 :: u12 :: u13 :: u14 :: u15 :: u16 :: u17 :: u18 :: u19 :: u20 :: u21 :: u22 :: u23 :: u24 :: u25 :: u26 :: u27 :: u28 :: u29 :: u30 :: u31 :: u32 :: u33 :: u34 :: u35 :: u36 :: u37 :: u38 :: u39 :: u40 :: u41 :: u42 :: u43 :: u44 :: u45 :: u46 :: u47 :: u48 :: u49 :: u50 :: z51 :: z52 :: z53 :: z54 :: z55 :: z56 :: z57 :: z58 :: z59 :: z60 :: z61 :: z62 :: z63 :: z64 :: z65 :: z66 :: z67 :: z68 :: z69 :: z70 :: z71 :: z72 :: z73 :: z74 :: u75 :: u76 :: u77 :: []).toArray, defers := [] } w') :
    (Code.region 12 ops12 true).wp Tryz.prog Q { tmps := ((.slice (some ⟨lb, lo, none⟩) n lc) :: (.func (.func F) #[] caps) :: u2 :: u3 :: u4 :: u5 :: (.int .i64 (n : Int)) :: (.pointer (some ⟨B, 0, none⟩)) :: (.int .i64 (x : Nat)) :: (.int .i64 (y : Nat)) :: u10 :: u11 :: u12 :: u13 :: u14 :: u15 :: u16 :: u17 :: u18 :: u19 :: u20 :: u21 :: u22 :: u23 :: u24 :: u25 :: u26 :: u27 :: u28 :: u29 :: u30 :: u31 :: u32 :: u33 :: u34 :: u35 :: u36 :: u37 :: u38 :: u39 :: u40 :: u41 :: u42 :: u43 :: u44 :: u45 :: u46 :: u47 :: u48 :: u49 :: u50 :: u51 :: u52 :: u53 :: u54 :: u55 :: u56 :: u57 :: u58 :: u59 :: u60 :: u61 :: u62 :: u63 :: u64 :: u65 :: u66 :: u67 :: u68 :: u69 :: u70 :: u71 :: u72 :: u73 :: u74 :: u75 :: u76 :: u77 :: []).toArray, defers := [] } w := by
  have lx : ∀ w', Below B0 w0 w' → w'.cell? ⟨lb, lo + x, none⟩ = some (.int .i64 (nth l x : Nat)) := fun w' h => by
    obtain ⟨b, off, e, hc⟩ := HLR.out w' h x (by omega)
    cases e; exact hc
  have ly : ∀ w', Below B0 w0 w' → w'.cell? ⟨lb, lo + y, none⟩ = some (.int .i64 (nth l y : Nat)) := fun w' h => by
    obtain ⟨b, off, e, hc⟩ := HLR.out w' h y (by omega)
    cases e; exact hc
  have hx' : (x : Int) < (n : Int) := by omega
  have hy' : (y : Int) < (n : Int) := by omega
  have hsx := hs x hx
  have hsy := hs y hy
  have hor := i64_or (nth l x) (nth l y) (by omega) (by omega)
  have HN : Hid (n = l.length) := hn
  clear hn
  unfold ops12
  refine wp_lates (S := (OS w0 B0 B T1 T2 n x v1 v2)) (late := (fun i => i == 24)) (by kernel_rfl) ?_
  have HTW : Hid (Two w0 B0 B T1 T2 T H n x R1 R2 m j v1 v2 y1 y w.drew) := HTW.out.step L (Below.refl _ _).drew
  have HS : Hid (OS w0 B0 B T1 T2 n x v1 v2 w.drew) := OS.of L HTW.out hx
  refine lates_take (i := 0) (oi := { dst := some 51, op := Go.Op.fieldAddr 27 (Go.Operand.tmp 7) 2, type := 0, pos := "tables.go:35", after := #[], guard := none }) (v := ?_) rfl (by kernel_rfl) (by kernel_rfl) (by kernel_rfl) ⟨rfl, by kernel_rfl⟩ (fun _ _ _ h => hQ _ _ _ _ _ h) (Or.inl ⟨by rfl, ?hy⟩) HS.out ?_
  case hy => (intro w9 hSw; obtain ⟨qb, ⟨q0, q1, q2⟩, q3, q4⟩ := hSw; go_simp; try with_reducible rfl)
  try simp only [Act.put, List.setIfInBounds_toArray, List.set_cons_zero, List.set_cons_succ]
  refine lates_take (i := 1) (oi := { dst := some 52, op := Go.Op.load 25 (Go.Operand.tmp 51), type := 25, pos := "tables.go:35", after := #[{ on := 0, ground := Go.Ground.data }], guard := none }) (v := ?_) rfl (by kernel_rfl) (by kernel_rfl) (by kernel_rfl) ⟨rfl, by kernel_rfl⟩ (fun _ _ _ h => hQ _ _ _ _ _ h) (Or.inl ⟨by rfl, ?hy⟩) HS.out ?_
  case hy => (intro w9 hSw; obtain ⟨qb, ⟨q0, q1, q2⟩, q3, q4⟩ := hSw; go_simp; try with_reducible rfl)
  try simp only [Act.put, List.setIfInBounds_toArray, List.set_cons_zero, List.set_cons_succ]
  refine lates_take (i := 2) (oi := { dst := some 53, op := Go.Op.move (Go.Operand.tmp 8), type := 3, pos := "tables.go:35", after := #[], guard := none }) (v := ?_) rfl (by kernel_rfl) (by kernel_rfl) (by kernel_rfl) ⟨rfl, by kernel_rfl⟩ (fun _ _ _ h => hQ _ _ _ _ _ h) (Or.inl ⟨by rfl, ?hy⟩) HS.out ?_
  case hy => (intro w9 hSw; obtain ⟨qb, ⟨q0, q1, q2⟩, q3, q4⟩ := hSw; go_simp; try with_reducible rfl)
  try simp only [Act.put, List.setIfInBounds_toArray, List.set_cons_zero, List.set_cons_succ]
  refine lates_take (i := 3) (oi := { dst := some 54, op := Go.Op.fieldAddr 27 (Go.Operand.tmp 7) 2, type := 0, pos := "tables.go:35", after := #[], guard := none }) (v := ?_) rfl (by kernel_rfl) (by kernel_rfl) (by kernel_rfl) ⟨rfl, by kernel_rfl⟩ (fun _ _ _ h => hQ _ _ _ _ _ h) (Or.inl ⟨by rfl, ?hy⟩) HS.out ?_
  case hy => (intro w9 hSw; obtain ⟨qb, ⟨q0, q1, q2⟩, q3, q4⟩ := hSw; go_simp; try with_reducible rfl)
  try simp only [Act.put, List.setIfInBounds_toArray, List.set_cons_zero, List.set_cons_succ]
  refine lates_take (i := 4) (oi := { dst := some 55, op := Go.Op.load 25 (Go.Operand.tmp 54), type := 25, pos := "tables.go:35", after := #[{ on := 3, ground := Go.Ground.data }], guard := none }) (v := ?_) rfl (by kernel_rfl) (by kernel_rfl) (by kernel_rfl) ⟨rfl, by kernel_rfl⟩ (fun _ _ _ h => hQ _ _ _ _ _ h) (Or.inl ⟨by rfl, ?hy⟩) HS.out ?_
  case hy => (intro w9 hSw; obtain ⟨qb, ⟨q0, q1, q2⟩, q3, q4⟩ := hSw; go_simp; try with_reducible rfl)
  try simp only [Act.put, List.setIfInBounds_toArray, List.set_cons_zero, List.set_cons_succ]
  refine lates_take (i := 5) (oi := { dst := some 56, op := Go.Op.move (Go.Operand.tmp 8), type := 3, pos := "tables.go:35", after := #[], guard := none }) (v := ?_) rfl (by kernel_rfl) (by kernel_rfl) (by kernel_rfl) ⟨rfl, by kernel_rfl⟩ (fun _ _ _ h => hQ _ _ _ _ _ h) (Or.inl ⟨by rfl, ?hy⟩) HS.out ?_
  case hy => (intro w9 hSw; obtain ⟨qb, ⟨q0, q1, q2⟩, q3, q4⟩ := hSw; go_simp; try with_reducible rfl)
  try simp only [Act.put, List.setIfInBounds_toArray, List.set_cons_zero, List.set_cons_succ]
  refine lates_take (i := 6) (oi := { dst := some 57, op := Go.Op.indexAddr 25 (Go.Operand.tmp 55) (Go.Operand.tmp 56), type := 0, pos := "tables.go:35", after := #[{ on := 4, ground := Go.Ground.data }, { on := 5, ground := Go.Ground.data }], guard := none }) (v := ?_) rfl (by kernel_rfl) (by kernel_rfl) (by kernel_rfl) ⟨rfl, by kernel_rfl⟩ (fun _ _ _ h => hQ _ _ _ _ _ h) (Or.inl ⟨by rfl, ?hy⟩) HS.out ?_
  case hy => (intro w9 hSw; obtain ⟨qb, ⟨q0, q1, q2⟩, q3, q4⟩ := hSw; go_simp; try with_reducible rfl)
  try simp only [Act.put, List.setIfInBounds_toArray, List.set_cons_zero, List.set_cons_succ]
  refine lates_take (i := 7) (oi := { dst := some 58, op := Go.Op.load 22 (Go.Operand.tmp 57), type := 22, pos := "tables.go:35", after := #[{ on := 6, ground := Go.Ground.data }], guard := none }) (v := ?_) rfl (by kernel_rfl) (by kernel_rfl) (by kernel_rfl) ⟨rfl, by kernel_rfl⟩ (fun _ _ _ h => hQ _ _ _ _ _ h) (Or.inl ⟨by rfl, ?hy⟩) HS.out ?_
  case hy => (intro w9 hSw; obtain ⟨qb, ⟨q0, q1, q2⟩, q3, q4⟩ := hSw; go_simp; try with_reducible rfl)
  try simp only [Act.put, List.setIfInBounds_toArray, List.set_cons_zero, List.set_cons_succ]
  refine lates_take (i := 8) (oi := { dst := some 59, op := Go.Op.move (Go.Operand.tmp 0), type := 22, pos := "tables.go:35", after := #[], guard := none }) (v := ?_) rfl (by kernel_rfl) (by kernel_rfl) (by kernel_rfl) ⟨rfl, by kernel_rfl⟩ (fun _ _ _ h => hQ _ _ _ _ _ h) (Or.inl ⟨by rfl, ?hy⟩) HS.out ?_
  case hy => (intro w9 hSw; obtain ⟨qb, ⟨q0, q1, q2⟩, q3, q4⟩ := hSw; go_simp; try with_reducible rfl)
  try simp only [Act.put, List.setIfInBounds_toArray, List.set_cons_zero, List.set_cons_succ]
  refine lates_take (i := 9) (oi := { dst := some 60, op := Go.Op.move (Go.Operand.tmp 1), type := 65, pos := "tables.go:35", after := #[], guard := none }) (v := ?_) rfl (by kernel_rfl) (by kernel_rfl) (by kernel_rfl) ⟨rfl, by kernel_rfl⟩ (fun _ _ _ h => hQ _ _ _ _ _ h) (Or.inl ⟨by rfl, ?hy⟩) HS.out ?_
  case hy => (intro w9 hSw; obtain ⟨qb, ⟨q0, q1, q2⟩, q3, q4⟩ := hSw; go_simp; try with_reducible rfl)
  try simp only [Act.put, List.setIfInBounds_toArray, List.set_cons_zero, List.set_cons_succ]
  refine lates_take (i := 10) (oi := { dst := some 61, op := Go.Op.move (Go.Operand.tmp 0), type := 22, pos := "tables.go:35", after := #[], guard := none }) (v := ?_) rfl (by kernel_rfl) (by kernel_rfl) (by kernel_rfl) ⟨rfl, by kernel_rfl⟩ (fun _ _ _ h => hQ _ _ _ _ _ h) (Or.inl ⟨by rfl, ?hy⟩) HS.out ?_
  case hy => (intro w9 hSw; obtain ⟨qb, ⟨q0, q1, q2⟩, q3, q4⟩ := hSw; go_simp; try with_reducible rfl)
  try simp only [Act.put, List.setIfInBounds_toArray, List.set_cons_zero, List.set_cons_succ]
  refine lates_take (i := 11) (oi := { dst := some 62, op := Go.Op.move (Go.Operand.tmp 8), type := 3, pos := "tables.go:35", after := #[], guard := none }) (v := ?_) rfl (by kernel_rfl) (by kernel_rfl) (by kernel_rfl) ⟨rfl, by kernel_rfl⟩ (fun _ _ _ h => hQ _ _ _ _ _ h) (Or.inl ⟨by rfl, ?hy⟩) HS.out ?_
  case hy => (intro w9 hSw; obtain ⟨qb, ⟨q0, q1, q2⟩, q3, q4⟩ := hSw; go_simp; try with_reducible rfl)
  try simp only [Act.put, List.setIfInBounds_toArray, List.set_cons_zero, List.set_cons_succ]
  refine lates_take (i := 12) (oi := { dst := some 63, op := Go.Op.indexAddr 22 (Go.Operand.tmp 61) (Go.Operand.tmp 62), type := 0, pos := "tables.go:35", after := #[{ on := 10, ground := Go.Ground.data }, { on := 11, ground := Go.Ground.data }], guard := none }) (v := ?_) rfl (by kernel_rfl) (by kernel_rfl) (by kernel_rfl) ⟨rfl, by kernel_rfl⟩ (fun _ _ _ h => hQ _ _ _ _ _ h) (Or.inl ⟨by rfl, ?hy⟩) HS.out ?_
  case hy => (intro w9 hSw; obtain ⟨qb, ⟨q0, q1, q2⟩, q3, q4⟩ := hSw; go_simp; try with_reducible rfl)
  try simp only [Act.put, List.setIfInBounds_toArray, List.set_cons_zero, List.set_cons_succ]
  refine lates_take (i := 13) (oi := { dst := some 64, op := Go.Op.load 3 (Go.Operand.tmp 63), type := 3, pos := "tables.go:35", after := #[{ on := 12, ground := Go.Ground.data }], guard := none }) (v := ?_) rfl (by kernel_rfl) (by kernel_rfl) (by kernel_rfl) ⟨rfl, by kernel_rfl⟩ (fun _ _ _ h => hQ _ _ _ _ _ h) (Or.inl ⟨by rfl, ?hy⟩) HS.out ?_
  case hy => (intro w9 hSw; obtain ⟨qb, ⟨q0, q1, q2⟩, q3, q4⟩ := hSw; go_simp; try with_reducible rfl)
  try simp only [Act.put, List.setIfInBounds_toArray, List.set_cons_zero, List.set_cons_succ]
  refine lates_take (i := 14) (oi := { dst := some 65, op := Go.Op.move (Go.Operand.tmp 0), type := 22, pos := "tables.go:35", after := #[], guard := none }) (v := ?_) rfl (by kernel_rfl) (by kernel_rfl) (by kernel_rfl) ⟨rfl, by kernel_rfl⟩ (fun _ _ _ h => hQ _ _ _ _ _ h) (Or.inl ⟨by rfl, ?hy⟩) HS.out ?_
  case hy => (intro w9 hSw; obtain ⟨qb, ⟨q0, q1, q2⟩, q3, q4⟩ := hSw; go_simp; try with_reducible rfl)
  try simp only [Act.put, List.setIfInBounds_toArray, List.set_cons_zero, List.set_cons_succ]
  refine lates_take (i := 15) (oi := { dst := some 66, op := Go.Op.move (Go.Operand.tmp 9), type := 3, pos := "tables.go:35", after := #[], guard := none }) (v := ?_) rfl (by kernel_rfl) (by kernel_rfl) (by kernel_rfl) ⟨rfl, by kernel_rfl⟩ (fun _ _ _ h => hQ _ _ _ _ _ h) (Or.inl ⟨by rfl, ?hy⟩) HS.out ?_
  case hy => (intro w9 hSw; obtain ⟨qb, ⟨q0, q1, q2⟩, q3, q4⟩ := hSw; go_simp; try with_reducible rfl)
  try simp only [Act.put, List.setIfInBounds_toArray, List.set_cons_zero, List.set_cons_succ]
  refine lates_take (i := 16) (oi := { dst := some 67, op := Go.Op.indexAddr 22 (Go.Operand.tmp 65) (Go.Operand.tmp 66), type := 0, pos := "tables.go:35", after := #[{ on := 14, ground := Go.Ground.data }, { on := 15, ground := Go.Ground.data }], guard := none }) (v := ?_) rfl (by kernel_rfl) (by kernel_rfl) (by kernel_rfl) ⟨rfl, by kernel_rfl⟩ (fun _ _ _ h => hQ _ _ _ _ _ h) (Or.inl ⟨by rfl, ?hy⟩) HS.out ?_
  case hy => (intro w9 hSw; obtain ⟨qb, ⟨q0, q1, q2⟩, q3, q4⟩ := hSw; go_simp; try with_reducible rfl)
  try simp only [Act.put, List.setIfInBounds_toArray, List.set_cons_zero, List.set_cons_succ]
  refine lates_take (i := 17) (oi := { dst := some 68, op := Go.Op.load 3 (Go.Operand.tmp 67), type := 3, pos := "tables.go:35", after := #[{ on := 16, ground := Go.Ground.data }], guard := none }) (v := ?_) rfl (by kernel_rfl) (by kernel_rfl) (by kernel_rfl) ⟨rfl, by kernel_rfl⟩ (fun _ _ _ h => hQ _ _ _ _ _ h) (Or.inl ⟨by rfl, ?hy⟩) HS.out ?_
  case hy => (intro w9 hSw; obtain ⟨qb, ⟨q0, q1, q2⟩, q3, q4⟩ := hSw; go_simp; try with_reducible rfl)
  try simp only [Act.put, List.setIfInBounds_toArray, List.set_cons_zero, List.set_cons_succ]
  refine lates_take (i := 18) (oi := { dst := some 69, op := Go.Op.binOp Go.BinOp.or 3 (Go.Operand.tmp 64) (Go.Operand.tmp 68) 3, type := 3, pos := "tables.go:35", after := #[{ on := 13, ground := Go.Ground.data }, { on := 17, ground := Go.Ground.data }], guard := none }) (v := .int .i64 ((nth l x ||| nth l y : Nat) : Int)) rfl (by kernel_rfl) (by kernel_rfl) (by kernel_rfl) ⟨rfl, by kernel_rfl⟩ (fun _ _ _ h => hQ _ _ _ _ _ h) (Or.inl ⟨by rfl, ?hy⟩) HS.out ?_
  case hy => (intro w9 hSw; obtain ⟨qb, ⟨q0, q1, q2⟩, q3, q4⟩ := hSw; go_simp <;> (first | with_reducible rfl | (simp; omega) | omega))
  try simp only [Act.put, List.setIfInBounds_toArray, List.set_cons_zero, List.set_cons_succ]
  refine lates_ready (rs := [19]) (by kernel_rfl) (by simp) ?_
  refine AllLate.cons (o := { dst := some 70, op := Go.Op.call { callee := Go.Callee.value (Go.Operand.tmp 60), args := #[Go.Operand.tmp 69], argTypes := #[3] }, type := 3, pos := "tables.go:35", after := #[{ on := 9, ground := Go.Ground.data }, { on := 18, ground := Go.Ground.data }], guard := none }) rfl (fun K hK => ?_) ?_
  · go_simp
    rw [hF, Oper.upon_enter]
    refine (HC.out _ HTW.out.bel).mono ?_
    rintro e w1 ⟨rfl, hb1⟩
    have HT1 : Hid (Two w0 B0 B T1 T2 T H n x R1 R2 m j v1 v2 y1 y w1) := HTW.out.step L hb1
    refine hK.out _ _ (fun _ => ?_) ?_
    · exact OS.of L HT1.out hx
    have HS : Hid (OS w0 B0 B T1 T2 n x v1 v2 w1) := OS.of L HT1.out hx
    have HTW := HT1
    clear hK K
    try simp only [Act.put, List.setIfInBounds_toArray, List.set_cons_zero, List.set_cons_succ]
    refine lates_ready (rs := [20]) (by kernel_rfl) (by simp) ?_
    refine AllLate.cons (o := { dst := some 71, op := Go.Op.call { callee := Go.Callee.value (Go.Operand.func 38), args := #[Go.Operand.tmp 59, Go.Operand.tmp 70], argTypes := #[22, 3] }, type := 3, pos := "tables.go:35", after := #[{ on := 8, ground := Go.Ground.data }, { on := 19, ground := Go.Ground.data }, { on := 19, ground := Go.Ground.chain }], guard := none }) rfl (fun K hK => ?_) ?_
    · go_simp
      refine (place_n l (some ⟨lb, lo, none⟩) n lc (j x y) (J (nth l x ||| nth l y)) _ HN.out hl (HLR.out _ HTW.out.bel) hrs HJ.out.1 HJ.out.2).mono ?_
      rintro e w2 ⟨rfl, hb2⟩
      have HT2 : Hid (Two w0 B0 B T1 T2 T H n x R1 R2 m j v1 v2 y1 y w2) := HTW.out.step L hb2
      refine hK.out _ _ (fun _ => ?_) ?_
      · exact OS.of L HT2.out hx
      have HS : Hid (OS w0 B0 B T1 T2 n x v1 v2 w2) := OS.of L HT2.out hx
      clear hK K
      try simp only [Act.put, List.setIfInBounds_toArray, List.set_cons_zero, List.set_cons_succ]
      refine lates_ready (rs := [21]) (by kernel_rfl) (by simp) ?_
      refine AllLate.cons (o := { dst := some 72, op := Go.Op.buildSlice 22 1 #[(0, Go.Operand.tmp 71)], type := 22, pos := "tables.go:35", after := #[{ on := 20, ground := Go.Ground.data }], guard := none }) rfl (fun K hK => ?_) ?_
      · go_simp
        have HT3 : Hid (Two w0 B0 B T1 T2 T H n x R1 R2 m j v1 v2 y1 y (w2.alloc (.cells #[.int .i64 (j x y : Nat)] 3))) := HT2.out.step L ((Below.refl _ _).alloc (Nat.le_refl _) _)
        have hcell : (w2.alloc (.cells #[.int .i64 (j x y : Nat)] 3)).cell? ⟨w2.heap.size, 0, none⟩ = some (.int .i64 (j x y : Nat)) := by simp
        refine hK.out _ _ (fun _ => ?_) ?_
        · exact OS.of L HT3.out hx
        have HS : Hid (OS w0 B0 B T1 T2 n x v1 v2 (w2.alloc (.cells #[.int .i64 (j x y : Nat)] 3))) := OS.of L HT3.out hx
        clear hK K
        try simp only [Act.put, List.setIfInBounds_toArray, List.set_cons_zero, List.set_cons_succ]
        refine lates_ready (rs := [22]) (by kernel_rfl) (by simp) ?_
        refine AllLate.cons (o := { dst := some 73, op := Go.Op.call { callee := Go.Callee.builtin Go.Builtin.append, args := #[Go.Operand.tmp 58, Go.Operand.tmp 72], argTypes := #[22, 22] }, type := 22, pos := "tables.go:35", after := #[{ on := 7, ground := Go.Ground.data }, { on := 21, ground := Go.Ground.data }, { on := 20, ground := Go.Ground.chain }], guard := none }) rfl (fun K hK => ?_) ?_
        · rw [if_pos (by rfl)]
          refine wp_grow _ _ _ rfl H v2 y _ rfl HT3.out.r2 w2.heap.size _ rfl hcell (by omega) HT3.out.hs ?_
          intro v' w4 hown' hgrow' hblk'
          obtain ⟨b4, cp4, rfl⟩ := owns_form hown' (Nat.succ_pos _)
          have hB4 := HT3.out.below2 hgrow'
          refine hK.out _ _ (fun _ => ?_) ?_
          · exact OS.keepB L HT3.out.th (OS.of L HT3.out hx) hB4 HT3.out.bs
          have HS : Hid (OS w0 B0 B T1 T2 n x v1 v2 w4) := OS.keepB L HT3.out.th (OS.of L HT3.out hx) hB4 HT3.out.bs
          have c4 := HS.out.2.2.2
          have f4 := (HT3.out.o2.keep hB4 (by have := L.t; have := HT3.out.th; omega) x hx).2
          clear hK K
          try simp only [Act.put, List.setIfInBounds_toArray, List.set_cons_zero, List.set_cons_succ]
          refine lates_take (i := 23) (oi := { dst := some 74, op := Go.Op.indexAddr 25 (Go.Operand.tmp 52) (Go.Operand.tmp 53), type := 0, pos := "tables.go:35", after := #[{ on := 1, ground := Go.Ground.data }, { on := 2, ground := Go.Ground.data }, { on := 0, ground := Go.Ground.phase }, { on := 1, ground := Go.Ground.phase }, { on := 2, ground := Go.Ground.phase }, { on := 3, ground := Go.Ground.phase }, { on := 4, ground := Go.Ground.phase }, { on := 5, ground := Go.Ground.phase }, { on := 6, ground := Go.Ground.phase }, { on := 7, ground := Go.Ground.phase }, { on := 8, ground := Go.Ground.phase }, { on := 9, ground := Go.Ground.phase }, { on := 10, ground := Go.Ground.phase }, { on := 11, ground := Go.Ground.phase }, { on := 12, ground := Go.Ground.phase }, { on := 13, ground := Go.Ground.phase }, { on := 14, ground := Go.Ground.phase }, { on := 15, ground := Go.Ground.phase }, { on := 16, ground := Go.Ground.phase }, { on := 17, ground := Go.Ground.phase }, { on := 18, ground := Go.Ground.phase }, { on := 19, ground := Go.Ground.phase }, { on := 20, ground := Go.Ground.phase }, { on := 21, ground := Go.Ground.phase }, { on := 22, ground := Go.Ground.phase }], guard := none }) (v := ?_) rfl (by kernel_rfl) (by kernel_rfl) (by kernel_rfl) ⟨rfl, by kernel_rfl⟩ (fun _ _ _ h => hQ _ _ _ _ _ h) (Or.inl ⟨by rfl, ?hy⟩) HS.out ?_
          case hy => (intro w9 hSw; obtain ⟨qb, ⟨q0, q1, q2⟩, q3, q4⟩ := hSw; go_simp; try with_reducible rfl)
          try simp only [Act.put, List.setIfInBounds_toArray, List.set_cons_zero, List.set_cons_succ]
          refine lates_ready (rs := [24]) (by kernel_rfl) (by simp) ?_
          refine AllLate.cons (o := { dst := none, op := Go.Op.store 22 (Go.Operand.tmp 74) (Go.Operand.tmp 73), type := 0, pos := "tables.go:35", after := #[{ on := 23, ground := Go.Ground.data }, { on := 22, ground := Go.Ground.data }, { on := 22, ground := Go.Ground.chain }, { on := 0, ground := Go.Ground.phase }, { on := 1, ground := Go.Ground.phase }, { on := 2, ground := Go.Ground.phase }, { on := 3, ground := Go.Ground.phase }, { on := 4, ground := Go.Ground.phase }, { on := 5, ground := Go.Ground.phase }, { on := 6, ground := Go.Ground.phase }, { on := 7, ground := Go.Ground.phase }, { on := 8, ground := Go.Ground.phase }, { on := 9, ground := Go.Ground.phase }, { on := 10, ground := Go.Ground.phase }, { on := 11, ground := Go.Ground.phase }, { on := 12, ground := Go.Ground.phase }, { on := 13, ground := Go.Ground.phase }, { on := 14, ground := Go.Ground.phase }, { on := 15, ground := Go.Ground.phase }, { on := 16, ground := Go.Ground.phase }, { on := 17, ground := Go.Ground.phase }, { on := 18, ground := Go.Ground.phase }, { on := 19, ground := Go.Ground.phase }, { on := 20, ground := Go.Ground.phase }, { on := 21, ground := Go.Ground.phase }, { on := 22, ground := Go.Ground.phase }], guard := none }) rfl (fun K hK => ?_) ?_
          · go_simp
            have HF : Hid (Two w0 B0 B T1 T2 T H n x R1 R2 m j v1 (.slice (some ⟨b4, 0, none⟩) (y + 1) cp4) y1 (y + 1) (w4.setCell ⟨T2, x, none⟩ (.slice (some ⟨b4, 0, none⟩) (y + 1) cp4))) := HT3.out.grow2 L (.slice (some ⟨b4, 0, none⟩) (y + 1) cp4) hown' hgrow' hblk'
            refine hK.out _ _ (fun h => by cases h) ?_
            clear hK K
            try simp only [Act.put, List.setIfInBounds_toArray, List.set_cons_zero, List.set_cons_succ]
            refine lates_done (by kernel_rfl) ?_ _
            try simp only [Act.put, List.setIfInBounds_toArray, List.set_cons_zero, List.set_cons_succ]
            exact hk _ _ HF.out _ _ _ _ _ _ _ _ _ _ _ _ _ _ _ _ _ _ _ _ _ _ _ _
          exact AllLate.nil
        exact AllLate.nil
      exact AllLate.nil
    exact AllLate.nil
  exact AllLate.nil
end Go.Proofs.YthhnngmfbbljaaaGreat
