/-
  A table that an algebra is handed row by row: what stays, and what an append and a store change. No condition but those that each theorem names.
  The drawn region of the algebra's layOut: one number more in a row of the table. Conditions: as each theorem says.
  What the algebra's layOut leaves: a table of what each two elements imply. Conditions: a lattice of one to forty elements, and a place for the table.
-/
import Derived.Maps.AppendAt
import Derived.Test.YtibnadbobijjpaaBuild
import Derived.Test.YtibnadbobijjpaaLaws
import Derived.Test.YtibnadbobijjpaaLate
import Derived.Deep.OwnRows
import Derived.Test.YtibnadbobijjpaaAlgP
namespace Go.Proofs.Ytibnadbobijjpaa
set_option maxRecDepth 100000
open Go.RowKit

/-- A slice of slices of the call's own. -/
def OwnS (w : World) (b n : Nat) (f : Nat → Value) : Prop := ∀ k, k < n → w.cell? ⟨b, k, none⟩ = some (f k) ∧ w.frozen? ⟨b, k, none⟩ = false
theorem OwnS.set {w : World} {b n : Nat} {f : Nat → Value} (h : OwnS w b n f) (u : Nat) (v : Value) : OwnS (w.setCell ⟨b, u, none⟩ v) b n (fun k => if k = u then v else f k) := by
  intro k hk
  refine ⟨?_, by rw [World.frozen?_setCell]; exact (h k hk).2⟩
  show _ = some (if k = u then v else f k)
  by_cases e : k = u
  · subst e; rw [if_pos rfl]; exact World.cell?_setCell_same _ _ _ (h k hk).1
  · rw [if_neg e, World.cell?_setCell_other _ _ _ _ (fun e2 => e (by injection e2 with _ h2; exact h2.symm))]; exact (h k hk).1
theorem OwnS.other {w : World} {b n U u : Nat} {f : Nat → Value} (h : OwnS w b n f) (hne : U ≠ b) (v : Value) : OwnS (w.setCell ⟨U, u, none⟩ v) b n f := by
  intro k hk
  refine ⟨?_, by rw [World.frozen?_setCell]; exact (h k hk).2⟩
  rw [World.cell?_setCell_other _ _ _ _ (fun e2 => hne (by injection e2 with h1 _))]; exact (h k hk).1
theorem OwnS.keep {w w' : World} {b n B : Nat} {f : Nat → Value} (h : OwnS w b n f) (hB : Below B w w') (hb : b < B) : OwnS w' b n f :=
  fun k hk => ⟨(hB.cell (p := ⟨b, k, none⟩) hb).trans (h k hk).1, (hB.frozen (p := ⟨b, k, none⟩) hb).trans (h k hk).2⟩
theorem OwnS.congr {w : World} {b n : Nat} {f h : Nat → Value} (ho : OwnS w b n f) (e : ∀ k, k < n → f k = h k) : OwnS w b n h :=
  fun k hk => ⟨by rw [← e k hk]; exact (ho k hk).1, (ho k hk).2⟩
/-- The rows ahead of x are laid, the x-th is v. -/
def rowF (n x : Nat) (R : Nat → Nat × Nat) (v : Value) (k : Nat) : Value := if k < x then .slice (some ⟨(R k).1, 0, none⟩) n (R k).2 else if k = x then v else .slice none 0 0
theorem rowF_at (n x : Nat) (R : Nat → Nat × Nat) (v : Value) : rowF n x R v x = v := by unfold rowF; rw [if_neg (Nat.lt_irrefl _), if_pos rfl]
theorem rowF_set (n x : Nat) (R : Nat → Nat × Nat) (v v' : Value) (k : Nat) : (if k = x then v' else rowF n x R v k) = rowF n x R v' k := by
  unfold rowF
  by_cases e : k = x
  · subst e; rw [if_pos rfl, if_neg (Nat.lt_irrefl _), if_pos rfl]
  · rw [if_neg e]; split <;> simp
theorem rowF_next (n x b cp : Nat) (R : Nat → Nat × Nat) (k : Nat) : rowF n x R (.slice (some ⟨b, 0, none⟩) n cp) k = rowF n (x + 1) (fun k => if k = x then (b, cp) else R k) (.slice none 0 0) k := by
  unfold rowF
  by_cases e : k = x
  · subst e; rw [if_neg (Nat.lt_irrefl _), if_pos rfl, if_pos (Nat.lt_succ_self _)]; simp
  · by_cases q : k < x
    · rw [if_pos q, if_pos (by omega)]; simp [e]
    · rw [if_neg q, if_neg e, if_neg (by omega)]; split <;> rfl
/-- The rows ahead of x hold what they should, in blocks between T and H. -/
def Done (T H n x : Nat) (R : Nat → Nat × Nat) (m : Nat → Nat → Nat) (w : World) : Prop := ∀ k, k < x → (T < (R k).1 ∧ (R k).1 < H) ∧ ∀ j, j < n → w.cell? ⟨(R k).1, j, none⟩ = some (.int .i64 (m k j : Nat))
theorem Done.keep {T H n x B : Nat} {R : Nat → Nat × Nat} {m : Nat → Nat → Nat} {w w' : World} (h : Done T H n x R m w) (hb : Below B w w') (hB : H ≤ B) : Done T H n x R m w' := fun k hk =>
  ⟨(h k hk).1, fun j hj => (hb.cell (p := ⟨(R k).1, j, none⟩) (Nat.lt_of_lt_of_le (h k hk).1.2 hB)).trans ((h k hk).2 j hj)⟩
theorem Done.set {T H n x U : Nat} {R : Nat → Nat × Nat} {m : Nat → Nat → Nat} {w : World} (h : Done T H n x R m w) (hU : U ≤ T) (u : Nat) (v : Value) : Done T H n x R m (w.setCell ⟨U, u, none⟩ v) := fun k hk =>
  ⟨(h k hk).1, fun j hj => by
    rw [World.cell?_setCell_other _ _ _ _ (fun e2 => by injection e2 with h1 _; have := (h k hk).1.1; omega)]
    exact (h k hk).2 j hj⟩
theorem Done.next {T H H' n x b cp : Nat} {R : Nat → Nat × Nat} {m : Nat → Nat → Nat} {w : World} (h : Done T H n x R m w) (hH : H ≤ H') (hb : T < b ∧ b < H') (hc : ∀ j, j < n → w.cell? ⟨b, j, none⟩ = some (.int .i64 (m x j : Nat))) :
    Done T H' n (x + 1) (fun k => if k = x then (b, cp) else R k) m w := fun k hk => by
  by_cases e : k = x
  · subst e; simp only [if_true]; exact ⟨hb, hc⟩
  · have := h k (by omega)
    simp only [e, if_false]
    exact ⟨⟨this.1.1, Nat.lt_of_lt_of_le this.1.2 hH⟩, this.2⟩
theorem ownsRow_under {w : World} {H size n : Nat} {e : TypeId} {v : Value} {xs : List Value} (h : w.ownsRow H e size v n xs) {U : Nat} (hU : U < H) (u : Nat) (x : Value) : (w.setCell ⟨U, u, none⟩ x).ownsRow H e size v n xs :=
  ownsRow_setCell_below h (a := ⟨U, u, none⟩) hU _

theorem own_ge {w : World} {e : TypeId} {size n : Nat} {v : Value} {xs : List Value} {H : Nat} (h : w.ownsRow H e size v n xs) {k : Nat} (hk : v.ownBlock = some k) : H ≤ k := owns_block h k hk
theorem own_lt {w : World} {e : TypeId} {size n : Nat} {v : Value} {xs : List Value} {H : Nat} (h : w.ownsRow H e size v n xs) {k : Nat} (hk : v.ownBlock = some k) : k < w.heap.size := by
  rcases h.2 with ⟨hv, _⟩ | ⟨g, cap, cur, hv, _, hg, _⟩
  · rw [hv] at hk; cases hk
  · rw [hv] at hk
    have : g = k := by injection hk
    subst this
    rcases Nat.lt_or_ge g w.heap.size with h | h
    · exact h
    · rw [Array.getElem?_eq_none h] at hg; cases hg
/-- Of the algebra at A, as it was in wa, x rows of the table at T are laid, and y numbers of the next one. -/
structure One (wa : World) (A T H n x : Nat) (R : Nat → Nat × Nat) (f : Nat → Nat → Nat) (v : Value) (y : Nat) (w : World) : Prop where
  bel : Below A wa w
  cs : ∀ k, k ≠ 6 → w.cell? ⟨A, k, none⟩ = wa.cell? ⟨A, k, none⟩
  fz : ∀ k, w.frozen? ⟨A, k, none⟩ = wa.frozen? ⟨A, k, none⟩
  tb : w.cell? ⟨A, 6, none⟩ = some (.slice (some ⟨T, 0, none⟩) n n)
  o : OwnS w T n (rowF n x R v)
  d : Done T H n x R f w
  r : w.ownsRow H 3 1 v y (rowVals (f x) y)
  aa : A < T
  th : T < H
  hs : H ≤ w.heap.size
  b2 : Below T (wa.setCell ⟨A, 6, none⟩ (.slice (some ⟨T, 0, none⟩) n n)) w
section
variable {wa : World} {A T H n x : Nat} {R : Nat → Nat × Nat} {f : Nat → Nat → Nat} {v : Value} {y : Nat} {w w' : World}
theorem One.step (h : One wa A T H n x R f v y w) (hb : Below w.heap.size w w') : One wa A T H n x R f v y w' where
  bel := h.bel.trans (hb.mono (by have := h.aa; have := h.th; have := h.hs; omega))
  cs := fun k hk => (hb.cell (p := ⟨A, k, none⟩) (show A < w.heap.size by have := h.aa; have := h.th; have := h.hs; omega)).trans (h.cs k hk)
  fz := fun k => (hb.frozen (p := ⟨A, k, none⟩) (show A < w.heap.size by have := h.aa; have := h.th; have := h.hs; omega)).trans (h.fz k)
  tb := (hb.cell (p := ⟨A, 6, none⟩) (show A < w.heap.size by have := h.aa; have := h.th; have := h.hs; omega)).trans h.tb
  o := h.o.keep hb (by have := h.th; have := h.hs; omega)
  d := h.d.keep hb h.hs
  r := owns_below h.r hb
  aa := h.aa
  th := h.th
  hs := Nat.le_trans h.hs hb.size
  b2 := h.b2.trans (hb.mono (by have := h.th; have := h.hs; omega))
theorem One.below (h : One wa A T H n x R f v y w) (hg : w.grownBy w' v.ownBlock) : Below H w w' :=
  (Below.refl H w).grown hg h.hs (fun _ hk => own_ge h.r hk)
theorem One.grow (h : One wa A T H n x R f v y w) (v' : Value) (ho : w'.ownsRow H 3 1 v' (y + 1) (rowVals (f x) y ++ [.int .i64 (f x y : Nat)])) (hg : w.grownBy w' v.ownBlock) :
    One wa A T H n x R f v' (y + 1) (w'.setCell ⟨T, x, none⟩ v') := by
  have hb := h.below hg
  have h1 := h.aa
  have h4 := h.th
  have h9 := h.hs
  have ne : ∀ k, (⟨T, x, none⟩ : Addr) ≠ ⟨A, k, none⟩ := fun k e => by injection e with e1 _; omega
  refine ⟨?_, ?_, ?_, ?_, ?_, ?_, ?_, h.aa, h.th, ?_, (h.b2.trans (hb.mono (by omega))).setCell (p := ⟨T, x, none⟩) (Nat.le_refl _) _⟩
  · exact (h.bel.trans (hb.mono (by omega))).setCell (p := ⟨T, x, none⟩) (by show A ≤ T; omega) _
  · intro k hk
    rw [World.cell?_setCell_other _ _ _ _ (ne k)]
    exact (hb.cell (p := ⟨A, k, none⟩) (show A < H by omega)).trans (h.cs k hk)
  · intro k
    rw [World.frozen?_setCell]
    exact (hb.frozen (p := ⟨A, k, none⟩) (show A < H by omega)).trans (h.fz k)
  · rw [World.cell?_setCell_other _ _ _ _ (ne 6)]
    exact (hb.cell (p := ⟨A, 6, none⟩) (show A < H by omega)).trans h.tb
  · exact ((h.o.keep hb (by omega)).set x v').congr (fun k _ => rowF_set n x R v v' k)
  · exact (h.d.keep hb (Nat.le_refl _)).set (Nat.le_refl _) _ _
  · rw [rowVals_succ]; exact ownsRow_under ho (by omega) _ _
  · have := hb.size; simp; omega
theorem One.next (h : One wa A T H n x R f v n w) (hn : 0 < n) : ∃ R', One wa A T w.heap.size n (x + 1) R' f (.slice none 0 0) 0 w := by
  have h4 := h.th
  have h9 := h.hs
  obtain ⟨b, cp, rfl⟩ := owns_form h.r hn
  have g1 := own_ge h.r (k := b) rfl
  have l1 := own_lt h.r (k := b) rfl
  refine ⟨fun k => if k = x then (b, cp) else R k, h.bel, h.cs, h.fz, h.tb, h.o.congr (fun k _ => rowF_next n x b cp R k), h.d.next h.hs ⟨by omega, l1⟩ (fun k hk => ?_), World.ownsRow_nil _ _ _ _, h.aa, by omega, Nat.le_refl _, h.b2⟩
  rw [h.r.cellAt k (by omega), rowVals_at _ _ _ hk]
/-- All rows are laid: a table. -/
theorem One.full (h : One wa A T H n n R f v 0 w) : Tb w T 0 n (fun k => ((R k).1, 0, (R k).2)) f := by
  intro k hk
  have h1 := (h.o k hk).1
  unfold rowF at h1
  rw [if_pos hk] at h1
  refine ⟨by rw [Nat.zero_add]; exact h1, fun y hy => ?_⟩
  show w.cell? ⟨(R k).1, 0 + y, none⟩ = _
  rw [Nat.zero_add]
  exact (h.d k hk).2 y hy
end
end Go.Proofs.Ytibnadbobijjpaa
namespace Go.Proofs.Ytibnadbobijjpaa
set_option maxRecDepth 100000
open Go.RowKit

/-- What the loads of the region read. -/
def LS (A T n x : Nat) (v : Value) (w : World) : Prop := w.cell? ⟨A, 6, none⟩ = some (.slice (some ⟨T, 0, none⟩) n n) ∧ w.cell? ⟨T, x, none⟩ = some v
section
variable {wa : World} {A T H n x : Nat} {Rr : Nat → Nat × Nat} {f : Nat → Nat → Nat} {v : Value} {y : Nat} {w w' : World}
theorem LS.of (h : One wa A T H n x Rr f v y w) (hx : x < n) : LS A T n x v w := by
  have h1 := (h.o x hx).1
  rw [rowF_at] at h1
  exact ⟨h.tb, h1⟩
theorem LS.keepB (h : One wa A T H n x Rr f v y w) (hb : Below H w w') (hl : LS A T n x v w) : LS A T n x v w' := by
  have h1 := h.aa
  have h2 := h.th
  exact ⟨(hb.cell (p := ⟨A, 6, none⟩) (show A < H by omega)).trans hl.1, (hb.cell (p := ⟨T, x, none⟩) (show T < H by omega)).trans hl.2⟩
end
/-- An append of one number to a row of the call's own. -/
theorem wp_grow {o : Oper} {a : Act} {K : Act → World → Prop} {Q : Exit → Act → World → Prop} (w : World) (s x : Operand)
    (ho : o.op = .call { callee := .builtin .append, args := #[s, x], argTypes := #[28, 28] }) (base : Nat) (v : Value) (n : Nat) (xs : List Value) (hs : a.eval s = v) (hown : w.ownsRow base 3 1 v n xs)
    (b : Nat) (u : Int) (hx : a.eval x = .slice (some ⟨b, 0, none⟩) 1 1) (hc : w.cell? ⟨b, 0, none⟩ = some (.int .i64 u)) (hlen : n ≤ 1000) (hbase : base ≤ w.heap.size)
    (h : ∀ v' w', w'.ownsRow base 3 1 v' (n + 1) (xs ++ [.int .i64 u]) → w.grownBy w' v.ownBlock → (v'.ownBlock = v.ownBlock ∨ v'.ownBlock = some w.heap.size) → K (a.put o.dst v') w') : o.wp Try.prog a w K Q := by
  obtain ⟨i0, hi, hz0, hz1, hz2⟩ := info_parts Try.info3
  obtain ⟨v', w', hr, h2, h3, _, h5⟩ := run_append_own_at (P := Try.prog) w base 28 o.type 3 i0 (.int .i64 0) 1 8 Try.underlying28 hi hz0 hz1 hz2 rfl (by decide) v n xs hown ⟨b, 0, none⟩ 1 1 [.int .i64 u] rfl (fun j q hj => by
    match j, hj with
    | 0, hj => simp at hj; subst hj; simpa [Addr.add] using hc) (fun q hq => by simp at hq; subst hq; rfl) (by unfold maxLen; omega) (by omega) hbase
  unfold Oper.wp execOp
  simp only [ho, resolve, invoke, builtin, Sem.run_bind, Sem.run_pure, Result.andThen_ok, List.map_toArray, List.map_cons, List.map_nil, hs, hx, hr]
  exact h v' w' h2 h3 h5
def ops7 : Array Oper :=
  #[{ dst := some 29, op := Go.Op.move (Go.Operand.tmp 0), type := 39, pos := "algebra.go:48", after := #[], guard := none },
    { dst := some 30, op := Go.Op.nilCheck (Go.Operand.tmp 29), type := 0, pos := "algebra.go:48", after := #[{ on := 0, ground := Go.Ground.data }], guard := none },
    { dst := some 31, op := Go.Op.fieldAddr 71 (Go.Operand.tmp 30) 2, type := 0, pos := "algebra.go:48", after := #[{ on := 1, ground := Go.Ground.data }], guard := none },
    { dst := some 32, op := Go.Op.load 22 (Go.Operand.tmp 31), type := 22, pos := "algebra.go:48", after := #[{ on := 2, ground := Go.Ground.data }], guard := none },
    { dst := some 33, op := Go.Op.move (Go.Operand.tmp 2), type := 3, pos := "algebra.go:48", after := #[], guard := none },
    { dst := some 34, op := Go.Op.move (Go.Operand.tmp 0), type := 39, pos := "algebra.go:48", after := #[], guard := none },
    { dst := some 35, op := Go.Op.nilCheck (Go.Operand.tmp 34), type := 0, pos := "algebra.go:48", after := #[{ on := 5, ground := Go.Ground.data }], guard := none },
    { dst := some 36, op := Go.Op.fieldAddr 71 (Go.Operand.tmp 35) 2, type := 0, pos := "algebra.go:48", after := #[{ on := 6, ground := Go.Ground.data }], guard := none },
    { dst := some 37, op := Go.Op.load 22 (Go.Operand.tmp 36), type := 22, pos := "algebra.go:48", after := #[{ on := 7, ground := Go.Ground.data }], guard := none },
    { dst := some 38, op := Go.Op.move (Go.Operand.tmp 2), type := 3, pos := "algebra.go:48", after := #[], guard := none },
    { dst := some 39, op := Go.Op.indexAddr 22 (Go.Operand.tmp 37) (Go.Operand.tmp 38), type := 0, pos := "algebra.go:48", after := #[{ on := 8, ground := Go.Ground.data }, { on := 9, ground := Go.Ground.data }], guard := none },
    { dst := some 40, op := Go.Op.load 28 (Go.Operand.tmp 39), type := 28, pos := "algebra.go:48", after := #[{ on := 10, ground := Go.Ground.data }], guard := none },
    { dst := some 41, op := Go.Op.move (Go.Operand.tmp 0), type := 39, pos := "algebra.go:48", after := #[], guard := none },
    { dst := some 42, op := Go.Op.move (Go.Operand.tmp 2), type := 3, pos := "algebra.go:48", after := #[], guard := none },
    { dst := some 43, op := Go.Op.move (Go.Operand.tmp 3), type := 3, pos := "algebra.go:48", after := #[], guard := none },
    { dst := some 44, op := Go.Op.call { callee := Go.Callee.value (Go.Operand.func 55), args := #[Go.Operand.tmp 41, Go.Operand.tmp 42, Go.Operand.tmp 43], argTypes := #[39, 3, 3] }, type := 3, pos := "algebra.go:48", after := #[{ on := 12, ground := Go.Ground.data }, { on := 13, ground := Go.Ground.data }, { on := 14, ground := Go.Ground.data }], guard := none },
    { dst := some 45, op := Go.Op.buildSlice 28 1 #[(0, Go.Operand.tmp 44)], type := 28, pos := "algebra.go:48", after := #[{ on := 15, ground := Go.Ground.data }], guard := none },
    { dst := some 46, op := Go.Op.call { callee := Go.Callee.builtin Go.Builtin.append, args := #[Go.Operand.tmp 40, Go.Operand.tmp 45], argTypes := #[28, 28] }, type := 28, pos := "algebra.go:48", after := #[{ on := 11, ground := Go.Ground.data }, { on := 16, ground := Go.Ground.data }, { on := 15, ground := Go.Ground.chain }], guard := none },
    { dst := some 47, op := Go.Op.indexAddr 22 (Go.Operand.tmp 32) (Go.Operand.tmp 33), type := 0, pos := "algebra.go:48", after := #[{ on := 3, ground := Go.Ground.data }, { on := 4, ground := Go.Ground.data }, { on := 0, ground := Go.Ground.phase }, { on := 1, ground := Go.Ground.phase }, { on := 2, ground := Go.Ground.phase }, { on := 3, ground := Go.Ground.phase }, { on := 4, ground := Go.Ground.phase }, { on := 5, ground := Go.Ground.phase }, { on := 6, ground := Go.Ground.phase }, { on := 7, ground := Go.Ground.phase }, { on := 8, ground := Go.Ground.phase }, { on := 9, ground := Go.Ground.phase }, { on := 10, ground := Go.Ground.phase }, { on := 11, ground := Go.Ground.phase }, { on := 12, ground := Go.Ground.phase }, { on := 13, ground := Go.Ground.phase }, { on := 14, ground := Go.Ground.phase }, { on := 15, ground := Go.Ground.phase }, { on := 16, ground := Go.Ground.phase }, { on := 17, ground := Go.Ground.phase }], guard := none },
    { dst := none, op := Go.Op.store 28 (Go.Operand.tmp 47) (Go.Operand.tmp 46), type := 0, pos := "algebra.go:48", after := #[{ on := 18, ground := Go.Ground.data }, { on := 17, ground := Go.Ground.data }, { on := 17, ground := Go.Ground.chain }, { on := 0, ground := Go.Ground.phase }, { on := 1, ground := Go.Ground.phase }, { on := 2, ground := Go.Ground.phase }, { on := 3, ground := Go.Ground.phase }, { on := 4, ground := Go.Ground.phase }, { on := 5, ground := Go.Ground.phase }, { on := 6, ground := Go.Ground.phase }, { on := 7, ground := Go.Ground.phase }, { on := 8, ground := Go.Ground.phase }, { on := 9, ground := Go.Ground.phase }, { on := 10, ground := Go.Ground.phase }, { on := 11, ground := Go.Ground.phase }, { on := 12, ground := Go.Ground.phase }, { on := 13, ground := Go.Ground.phase }, { on := 14, ground := Go.Ground.phase }, { on := 15, ground := Go.Ground.phase }, { on := 16, ground := Go.Ground.phase }, { on := 17, ground := Go.Ground.phase }], guard := none }]
set_option maxHeartbeats 8000000 in
theorem reg7 {wa w : World} {A T H n x y : Nat} {Rr : Nat → Nat × Nat} {f : Nat → Nat → Nat} {v : Value} {uab uae uaf uag uah uai uaj uba ubb ubc ubd ube ubf ubg ubh ubi ubj uca ucb ucc ucd uce ucf ucg uch uci ucj uda udb udc udd ude udf udg udh udi udj uea ueb uec ued uee uef ueg ueh uei uej : Value} {Q : Exit → Act → World → Prop}
    (HTW : Hid (One wa A T H n x Rr f v y w)) (hx : x < n) (hy : y < n) (h40 : n ≤ 40)
    (HC : Hid (∀ w', One wa A T H n x Rr f v y w' → Calls Try.prog 55 #[.pointer (some ⟨A, 0, none⟩), .int .i64 (x : Nat), .int .i64 (y : Nat)] w' fun e w'' => e = .returned (.int .i64 (f x y : Nat)) ∧ Below w'.heap.size w' w''))
    (hQ : ∀ c a w (d : Nat) v, Q (.panic c) (a.put (some d) v) w → Q (.panic c) a w)
    (hk : ∀ v' w', One wa A T H n x Rr f v' (y + 1) w' → ∀ zcj zda zdb zdc zdd zde zdf zdg zdh zdi zdj zea zeb zec zed zee zef zeg zeh : Value, Q .normal { tmps := ((.pointer (some ⟨A, 0, none⟩)) :: uab :: (.int .i64 (x : Nat)) :: (.int .i64 (y : Nat)) :: uae :: uaf :: uag :: uah :: uai :: uaj :: uba :: ubb :: ubc :: ubd :: ube :: ubf :: ubg :: ubh :: ubi :: ubj :: uca :: ucb :: ucc :: ucd :: uce :: ucf :: ucg :: uch :: uci :: zcj :: zda :: zdb :: zdc :: zdd :: zde :: zdf :: zdg :: zdh :: zdi :: zdj :: zea :: zeb :: zec :: zed :: zee :: zef :: zeg :: zeh :: uei :: uej :: []).toArray, defers := [] } w') :
    (Code.region 7 ops7 true).wp Try.prog Q { tmps := ((.pointer (some ⟨A, 0, none⟩)) :: uab :: (.int .i64 (x : Nat)) :: (.int .i64 (y : Nat)) :: uae :: uaf :: uag :: uah :: uai :: uaj :: uba :: ubb :: ubc :: ubd :: ube :: ubf :: ubg :: ubh :: ubi :: ubj :: uca :: ucb :: ucc :: ucd :: uce :: ucf :: ucg :: uch :: uci :: ucj :: uda :: udb :: udc :: udd :: ude :: udf :: udg :: udh :: udi :: udj :: uea :: ueb :: uec :: ued :: uee :: uef :: ueg :: ueh :: uei :: uej :: []).toArray, defers := [] } w := by
  have hx' : (x : Int) < (n : Int) := by omega
  have hy' : (y : Int) < (n : Int) := by omega
  unfold ops7
  refine wp_lates (S := (LS A T n x v)) (late := (fun i => i == 19)) (by kernel_rfl) ?_
  have HTW : Hid (One wa A T H n x Rr f v y w.drew) := HTW.out.step (Below.refl _ _).drew
  have HS : Hid (LS A T n x v w.drew) := LS.of HTW.out hx
  refine lates_take (i := 0) (oi := { dst := some 29, op := Go.Op.move (Go.Operand.tmp 0), type := 39, pos := "algebra.go:48", after := #[], guard := none }) (v := ?_) rfl (by kernel_rfl) (by kernel_rfl) (by kernel_rfl) ⟨rfl, by kernel_rfl⟩ (fun _ _ _ h => hQ _ _ _ _ _ h) (Or.inl ⟨by rfl, ?hy⟩) HS.out ?_
  case hy => (intro w9 hSw; obtain ⟨q1, q2⟩ := hSw; go_simp; try with_reducible rfl)
  try simp only [Act.put, List.setIfInBounds_toArray, List.set_cons_zero, List.set_cons_succ]
  refine lates_take (i := 1) (oi := { dst := some 30, op := Go.Op.nilCheck (Go.Operand.tmp 29), type := 0, pos := "algebra.go:48", after := #[{ on := 0, ground := Go.Ground.data }], guard := none }) (v := ?_) rfl (by kernel_rfl) (by kernel_rfl) (by kernel_rfl) ⟨rfl, by kernel_rfl⟩ (fun _ _ _ h => hQ _ _ _ _ _ h) (Or.inl ⟨by rfl, ?hy⟩) HS.out ?_
  case hy => (intro w9 hSw; obtain ⟨q1, q2⟩ := hSw; go_simp; try with_reducible rfl)
  try simp only [Act.put, List.setIfInBounds_toArray, List.set_cons_zero, List.set_cons_succ]
  refine lates_take (i := 2) (oi := { dst := some 31, op := Go.Op.fieldAddr 71 (Go.Operand.tmp 30) 2, type := 0, pos := "algebra.go:48", after := #[{ on := 1, ground := Go.Ground.data }], guard := none }) (v := ?_) rfl (by kernel_rfl) (by kernel_rfl) (by kernel_rfl) ⟨rfl, by kernel_rfl⟩ (fun _ _ _ h => hQ _ _ _ _ _ h) (Or.inl ⟨by rfl, ?hy⟩) HS.out ?_
  case hy => (intro w9 hSw; obtain ⟨q1, q2⟩ := hSw; go_simp; try with_reducible rfl)
  try simp only [Act.put, List.setIfInBounds_toArray, List.set_cons_zero, List.set_cons_succ]
  refine lates_take (i := 3) (oi := { dst := some 32, op := Go.Op.load 22 (Go.Operand.tmp 31), type := 22, pos := "algebra.go:48", after := #[{ on := 2, ground := Go.Ground.data }], guard := none }) (v := ?_) rfl (by kernel_rfl) (by kernel_rfl) (by kernel_rfl) ⟨rfl, by kernel_rfl⟩ (fun _ _ _ h => hQ _ _ _ _ _ h) (Or.inl ⟨by rfl, ?hy⟩) HS.out ?_
  case hy => (intro w9 hSw; obtain ⟨q1, q2⟩ := hSw; go_simp; try with_reducible rfl)
  try simp only [Act.put, List.setIfInBounds_toArray, List.set_cons_zero, List.set_cons_succ]
  refine lates_take (i := 4) (oi := { dst := some 33, op := Go.Op.move (Go.Operand.tmp 2), type := 3, pos := "algebra.go:48", after := #[], guard := none }) (v := ?_) rfl (by kernel_rfl) (by kernel_rfl) (by kernel_rfl) ⟨rfl, by kernel_rfl⟩ (fun _ _ _ h => hQ _ _ _ _ _ h) (Or.inl ⟨by rfl, ?hy⟩) HS.out ?_
  case hy => (intro w9 hSw; obtain ⟨q1, q2⟩ := hSw; go_simp; try with_reducible rfl)
  try simp only [Act.put, List.setIfInBounds_toArray, List.set_cons_zero, List.set_cons_succ]
  refine lates_take (i := 5) (oi := { dst := some 34, op := Go.Op.move (Go.Operand.tmp 0), type := 39, pos := "algebra.go:48", after := #[], guard := none }) (v := ?_) rfl (by kernel_rfl) (by kernel_rfl) (by kernel_rfl) ⟨rfl, by kernel_rfl⟩ (fun _ _ _ h => hQ _ _ _ _ _ h) (Or.inl ⟨by rfl, ?hy⟩) HS.out ?_
  case hy => (intro w9 hSw; obtain ⟨q1, q2⟩ := hSw; go_simp; try with_reducible rfl)
  try simp only [Act.put, List.setIfInBounds_toArray, List.set_cons_zero, List.set_cons_succ]
  refine lates_take (i := 6) (oi := { dst := some 35, op := Go.Op.nilCheck (Go.Operand.tmp 34), type := 0, pos := "algebra.go:48", after := #[{ on := 5, ground := Go.Ground.data }], guard := none }) (v := ?_) rfl (by kernel_rfl) (by kernel_rfl) (by kernel_rfl) ⟨rfl, by kernel_rfl⟩ (fun _ _ _ h => hQ _ _ _ _ _ h) (Or.inl ⟨by rfl, ?hy⟩) HS.out ?_
  case hy => (intro w9 hSw; obtain ⟨q1, q2⟩ := hSw; go_simp; try with_reducible rfl)
  try simp only [Act.put, List.setIfInBounds_toArray, List.set_cons_zero, List.set_cons_succ]
  refine lates_take (i := 7) (oi := { dst := some 36, op := Go.Op.fieldAddr 71 (Go.Operand.tmp 35) 2, type := 0, pos := "algebra.go:48", after := #[{ on := 6, ground := Go.Ground.data }], guard := none }) (v := ?_) rfl (by kernel_rfl) (by kernel_rfl) (by kernel_rfl) ⟨rfl, by kernel_rfl⟩ (fun _ _ _ h => hQ _ _ _ _ _ h) (Or.inl ⟨by rfl, ?hy⟩) HS.out ?_
  case hy => (intro w9 hSw; obtain ⟨q1, q2⟩ := hSw; go_simp; try with_reducible rfl)
  try simp only [Act.put, List.setIfInBounds_toArray, List.set_cons_zero, List.set_cons_succ]
  refine lates_take (i := 8) (oi := { dst := some 37, op := Go.Op.load 22 (Go.Operand.tmp 36), type := 22, pos := "algebra.go:48", after := #[{ on := 7, ground := Go.Ground.data }], guard := none }) (v := ?_) rfl (by kernel_rfl) (by kernel_rfl) (by kernel_rfl) ⟨rfl, by kernel_rfl⟩ (fun _ _ _ h => hQ _ _ _ _ _ h) (Or.inl ⟨by rfl, ?hy⟩) HS.out ?_
  case hy => (intro w9 hSw; obtain ⟨q1, q2⟩ := hSw; go_simp; try with_reducible rfl)
  try simp only [Act.put, List.setIfInBounds_toArray, List.set_cons_zero, List.set_cons_succ]
  refine lates_take (i := 9) (oi := { dst := some 38, op := Go.Op.move (Go.Operand.tmp 2), type := 3, pos := "algebra.go:48", after := #[], guard := none }) (v := ?_) rfl (by kernel_rfl) (by kernel_rfl) (by kernel_rfl) ⟨rfl, by kernel_rfl⟩ (fun _ _ _ h => hQ _ _ _ _ _ h) (Or.inl ⟨by rfl, ?hy⟩) HS.out ?_
  case hy => (intro w9 hSw; obtain ⟨q1, q2⟩ := hSw; go_simp; try with_reducible rfl)
  try simp only [Act.put, List.setIfInBounds_toArray, List.set_cons_zero, List.set_cons_succ]
  refine lates_take (i := 10) (oi := { dst := some 39, op := Go.Op.indexAddr 22 (Go.Operand.tmp 37) (Go.Operand.tmp 38), type := 0, pos := "algebra.go:48", after := #[{ on := 8, ground := Go.Ground.data }, { on := 9, ground := Go.Ground.data }], guard := none }) (v := ?_) rfl (by kernel_rfl) (by kernel_rfl) (by kernel_rfl) ⟨rfl, by kernel_rfl⟩ (fun _ _ _ h => hQ _ _ _ _ _ h) (Or.inl ⟨by rfl, ?hy⟩) HS.out ?_
  case hy => (intro w9 hSw; obtain ⟨q1, q2⟩ := hSw; go_simp; try with_reducible rfl)
  try simp only [Act.put, List.setIfInBounds_toArray, List.set_cons_zero, List.set_cons_succ]
  refine lates_take (i := 11) (oi := { dst := some 40, op := Go.Op.load 28 (Go.Operand.tmp 39), type := 28, pos := "algebra.go:48", after := #[{ on := 10, ground := Go.Ground.data }], guard := none }) (v := ?_) rfl (by kernel_rfl) (by kernel_rfl) (by kernel_rfl) ⟨rfl, by kernel_rfl⟩ (fun _ _ _ h => hQ _ _ _ _ _ h) (Or.inl ⟨by rfl, ?hy⟩) HS.out ?_
  case hy => (intro w9 hSw; obtain ⟨q1, q2⟩ := hSw; go_simp; try with_reducible rfl)
  try simp only [Act.put, List.setIfInBounds_toArray, List.set_cons_zero, List.set_cons_succ]
  refine lates_take (i := 12) (oi := { dst := some 41, op := Go.Op.move (Go.Operand.tmp 0), type := 39, pos := "algebra.go:48", after := #[], guard := none }) (v := ?_) rfl (by kernel_rfl) (by kernel_rfl) (by kernel_rfl) ⟨rfl, by kernel_rfl⟩ (fun _ _ _ h => hQ _ _ _ _ _ h) (Or.inl ⟨by rfl, ?hy⟩) HS.out ?_
  case hy => (intro w9 hSw; obtain ⟨q1, q2⟩ := hSw; go_simp; try with_reducible rfl)
  try simp only [Act.put, List.setIfInBounds_toArray, List.set_cons_zero, List.set_cons_succ]
  refine lates_take (i := 13) (oi := { dst := some 42, op := Go.Op.move (Go.Operand.tmp 2), type := 3, pos := "algebra.go:48", after := #[], guard := none }) (v := ?_) rfl (by kernel_rfl) (by kernel_rfl) (by kernel_rfl) ⟨rfl, by kernel_rfl⟩ (fun _ _ _ h => hQ _ _ _ _ _ h) (Or.inl ⟨by rfl, ?hy⟩) HS.out ?_
  case hy => (intro w9 hSw; obtain ⟨q1, q2⟩ := hSw; go_simp; try with_reducible rfl)
  try simp only [Act.put, List.setIfInBounds_toArray, List.set_cons_zero, List.set_cons_succ]
  refine lates_take (i := 14) (oi := { dst := some 43, op := Go.Op.move (Go.Operand.tmp 3), type := 3, pos := "algebra.go:48", after := #[], guard := none }) (v := ?_) rfl (by kernel_rfl) (by kernel_rfl) (by kernel_rfl) ⟨rfl, by kernel_rfl⟩ (fun _ _ _ h => hQ _ _ _ _ _ h) (Or.inl ⟨by rfl, ?hy⟩) HS.out ?_
  case hy => (intro w9 hSw; obtain ⟨q1, q2⟩ := hSw; go_simp; try with_reducible rfl)
  try simp only [Act.put, List.setIfInBounds_toArray, List.set_cons_zero, List.set_cons_succ]
  refine lates_ready (rs := [15]) (by kernel_rfl) (by simp) ?_
  refine AllLate.cons (o := { dst := some 44, op := Go.Op.call { callee := Go.Callee.value (Go.Operand.func 55), args := #[Go.Operand.tmp 41, Go.Operand.tmp 42, Go.Operand.tmp 43], argTypes := #[39, 3, 3] }, type := 3, pos := "algebra.go:48", after := #[{ on := 12, ground := Go.Ground.data }, { on := 13, ground := Go.Ground.data }, { on := 14, ground := Go.Ground.data }], guard := none }) rfl (fun K hK => ?_) ?_
  · go_simp
    refine (HC.out _ HTW.out).mono ?_
    rintro e w2 ⟨rfl, hb2⟩
    have HT2 : Hid (One wa A T H n x Rr f v y w2) := HTW.out.step hb2
    refine hK.out _ _ (fun _ => ?_) ?_
    · exact LS.of HT2.out hx
    have HS : Hid (LS A T n x v w2) := LS.of HT2.out hx
    clear hK K
    try simp only [Act.put, List.setIfInBounds_toArray, List.set_cons_zero, List.set_cons_succ]
    refine lates_ready (rs := [16]) (by kernel_rfl) (by simp) ?_
    refine AllLate.cons (o := { dst := some 45, op := Go.Op.buildSlice 28 1 #[(0, Go.Operand.tmp 44)], type := 28, pos := "algebra.go:48", after := #[{ on := 15, ground := Go.Ground.data }], guard := none }) rfl (fun K hK => ?_) ?_
    · go_simp
      have HT3 : Hid (One wa A T H n x Rr f v y (w2.alloc (.cells #[.int .i64 (f x y : Nat)] 3))) := HT2.out.step ((Below.refl _ _).alloc (Nat.le_refl _) _)
      have hcell : (w2.alloc (.cells #[.int .i64 (f x y : Nat)] 3)).cell? ⟨w2.heap.size, 0, none⟩ = some (.int .i64 (f x y : Nat)) := by simp
      refine hK.out _ _ (fun _ => ?_) ?_
      · exact LS.of HT3.out hx
      have HS : Hid (LS A T n x v (w2.alloc (.cells #[.int .i64 (f x y : Nat)] 3))) := LS.of HT3.out hx
      clear hK K
      try simp only [Act.put, List.setIfInBounds_toArray, List.set_cons_zero, List.set_cons_succ]
      refine lates_ready (rs := [17]) (by kernel_rfl) (by simp) ?_
      refine AllLate.cons (o := { dst := some 46, op := Go.Op.call { callee := Go.Callee.builtin Go.Builtin.append, args := #[Go.Operand.tmp 40, Go.Operand.tmp 45], argTypes := #[28, 28] }, type := 28, pos := "algebra.go:48", after := #[{ on := 11, ground := Go.Ground.data }, { on := 16, ground := Go.Ground.data }, { on := 15, ground := Go.Ground.chain }], guard := none }) rfl (fun K hK => ?_) ?_
      · rw [if_pos (by rfl)]
        refine wp_grow _ _ _ rfl H v y _ rfl HT3.out.r w2.heap.size _ rfl hcell (by omega) HT3.out.hs ?_
        intro v' w4 hown' hgrow' hblk'
        obtain ⟨b4, cp4, rfl⟩ := owns_form hown' (Nat.succ_pos _)
        have hB4 := HT3.out.below hgrow'
        refine hK.out _ _ (fun _ => ?_) ?_
        · exact LS.keepB HT3.out hB4 (LS.of HT3.out hx)
        have HS : Hid (LS A T n x v w4) := LS.keepB HT3.out hB4 (LS.of HT3.out hx)
        have c4 := HS.out.2
        have f4 := (HT3.out.o.keep hB4 HT3.out.th x hx).2
        clear hK K
        try simp only [Act.put, List.setIfInBounds_toArray, List.set_cons_zero, List.set_cons_succ]
        refine lates_take (i := 18) (oi := { dst := some 47, op := Go.Op.indexAddr 22 (Go.Operand.tmp 32) (Go.Operand.tmp 33), type := 0, pos := "algebra.go:48", after := #[{ on := 3, ground := Go.Ground.data }, { on := 4, ground := Go.Ground.data }, { on := 0, ground := Go.Ground.phase }, { on := 1, ground := Go.Ground.phase }, { on := 2, ground := Go.Ground.phase }, { on := 3, ground := Go.Ground.phase }, { on := 4, ground := Go.Ground.phase }, { on := 5, ground := Go.Ground.phase }, { on := 6, ground := Go.Ground.phase }, { on := 7, ground := Go.Ground.phase }, { on := 8, ground := Go.Ground.phase }, { on := 9, ground := Go.Ground.phase }, { on := 10, ground := Go.Ground.phase }, { on := 11, ground := Go.Ground.phase }, { on := 12, ground := Go.Ground.phase }, { on := 13, ground := Go.Ground.phase }, { on := 14, ground := Go.Ground.phase }, { on := 15, ground := Go.Ground.phase }, { on := 16, ground := Go.Ground.phase }, { on := 17, ground := Go.Ground.phase }], guard := none }) (v := ?_) rfl (by kernel_rfl) (by kernel_rfl) (by kernel_rfl) ⟨rfl, by kernel_rfl⟩ (fun _ _ _ h => hQ _ _ _ _ _ h) (Or.inl ⟨by rfl, ?hy⟩) HS.out ?_
        case hy => (intro w9 hSw; obtain ⟨q1, q2⟩ := hSw; go_simp; try with_reducible rfl)
        try simp only [Act.put, List.setIfInBounds_toArray, List.set_cons_zero, List.set_cons_succ]
        refine lates_ready (rs := [19]) (by kernel_rfl) (by simp) ?_
        refine AllLate.cons (o := { dst := none, op := Go.Op.store 28 (Go.Operand.tmp 47) (Go.Operand.tmp 46), type := 0, pos := "algebra.go:48", after := #[{ on := 18, ground := Go.Ground.data }, { on := 17, ground := Go.Ground.data }, { on := 17, ground := Go.Ground.chain }, { on := 0, ground := Go.Ground.phase }, { on := 1, ground := Go.Ground.phase }, { on := 2, ground := Go.Ground.phase }, { on := 3, ground := Go.Ground.phase }, { on := 4, ground := Go.Ground.phase }, { on := 5, ground := Go.Ground.phase }, { on := 6, ground := Go.Ground.phase }, { on := 7, ground := Go.Ground.phase }, { on := 8, ground := Go.Ground.phase }, { on := 9, ground := Go.Ground.phase }, { on := 10, ground := Go.Ground.phase }, { on := 11, ground := Go.Ground.phase }, { on := 12, ground := Go.Ground.phase }, { on := 13, ground := Go.Ground.phase }, { on := 14, ground := Go.Ground.phase }, { on := 15, ground := Go.Ground.phase }, { on := 16, ground := Go.Ground.phase }, { on := 17, ground := Go.Ground.phase }], guard := none }) rfl (fun K hK => ?_) ?_
        · go_simp
          have HF : Hid (One wa A T H n x Rr f (.slice (some ⟨b4, 0, none⟩) (y + 1) cp4) (y + 1) (w4.setCell ⟨T, x, none⟩ (.slice (some ⟨b4, 0, none⟩) (y + 1) cp4))) := HT3.out.grow (.slice (some ⟨b4, 0, none⟩) (y + 1) cp4) hown' hgrow'
          refine hK.out _ _ (fun h => by cases h) ?_
          clear hK K
          try simp only [Act.put, List.setIfInBounds_toArray, List.set_cons_zero, List.set_cons_succ]
          refine lates_done (by kernel_rfl) ?_ _
          try simp only [Act.put, List.setIfInBounds_toArray, List.set_cons_zero, List.set_cons_succ]
          exact hk _ _ HF.out _ _ _ _ _ _ _ _ _ _ _ _ _ _ _ _ _ _ _
        exact AllLate.nil
      exact AllLate.nil
    exact AllLate.nil
  exact AllLate.nil
end Go.Proofs.Ytibnadbobijjpaa
namespace Go.Proofs.Ytibnadbobijjpaa
set_option maxRecDepth 100000
open Go.RowKit

theorem Try.infoLI : (Try.prog.info? 28).map (fun i => (i.zero, i.size, i.bytes)) = some (some (.slice none 0 0), 1, 12 + 12) := by kernel_rfl
/-- What layOut leaves in w', the algebra at A being as in wa. -/
structure Laid (wa : World) (A n : Nat) (f : Nat → Nat → Nat) (w : World) : Prop where
  bel : Below A wa w
  cs : ∀ k, k ≠ 6 → w.cell? ⟨A, k, none⟩ = wa.cell? ⟨A, k, none⟩
  fz : ∀ k, w.frozen? ⟨A, k, none⟩ = wa.frozen? ⟨A, k, none⟩
  tb : ∃ T R, (w.cell? ⟨A, 6, none⟩ = some (.slice (some ⟨T, 0, none⟩) n n) ∧ Tb w T 0 n R f) ∧ A < T ∧ ∀ k, k < n → A < (R k).1
  b2 : ∃ V, Below wa.heap.size (wa.setCell ⟨A, 6, none⟩ V) w
theorem one_start {wa : World} {A n : Nat} {f : Nat → Nat → Nat} {x6 : Value} (hA : wa.cell? ⟨A, 6, none⟩ = some x6) :
    One wa A wa.heap.size (wa.heap.size + 1) n 0 (fun _ => (0, 0)) f (.slice none 0 0) 0 ((wa.alloc (.cells (madeCells #[.slice none 0 0] n) 28)).setCell ⟨A, 6, none⟩ (.slice (some ⟨wa.heap.size, 0, none⟩) n n)) := by
  have hlt : A < wa.heap.size := World.block_lt_of_cell? _ _ hA
  have B0 : Below wa.heap.size wa (wa.alloc (.cells (madeCells #[.slice none 0 0] n) 28)) := (Below.refl _ _).alloc (Nat.le_refl _) _
  have HO : OwnS (wa.alloc (.cells (madeCells #[.slice none 0 0] n) 28)) wa.heap.size n (fun _ => .slice none 0 0) := fun k hk => by
    refine ⟨?_, World.frozen?_alloc_at _ _ _ _ rfl⟩
    simp
    rw [← Array.getElem?_toList, toList_madeCells_one]
    simp [hk]
  refine ⟨?_, ?_, ?_, ?_, ?_, fun k hk => absurd hk (Nat.not_lt_zero _), World.ownsRow_nil _ _ _ _, hlt, by omega, by simp, ?_⟩
  · exact (B0.mono (show A ≤ wa.heap.size by omega)).setCell (p := ⟨A, 6, none⟩) (Nat.le_refl _) _
  · intro k hk
    rw [World.cell?_setCell_other _ _ _ _ (fun e => hk (by injection e with _ e2; exact e2.symm))]
    exact B0.cell (p := ⟨A, k, none⟩) hlt
  · intro k
    rw [World.frozen?_setCell]
    exact B0.frozen (p := ⟨A, k, none⟩) hlt
  · exact World.cell?_setCell_same _ _ _ ((B0.cell (p := ⟨A, 6, none⟩) hlt).trans hA)
  · refine (HO.other (show A ≠ wa.heap.size by omega) _).congr (fun k _ => ?_)
    unfold rowF
    rw [if_neg (Nat.not_lt_zero _)]
    split <;> rfl
  · rw [World.setCell_alloc_past _ _ _ _ hlt]
    exact (Below.refl _ _).alloc (by simp) _
set_option maxHeartbeats 2000000 in
theorem layOut_any {A n b off ca b' off' cb : Nat} {R R' : Nat → Nat × Nat × Nat} {m j : Nat → Nat → Nat} {wa : World} {x6 : Value} (h1 : 1 ≤ n) (h40 : n ≤ 40) (hl : Lat n m j) (hL : LB wa A (n : Nat) (some ⟨b, off, none⟩) n ca (some ⟨b', off', none⟩) n cb)
    (ht : ∀ w', Below A wa w' → Tb w' b off n R m) (ho : ∀ w', Below A wa w' → Tb w' b' off' n R' j) (h6 : wa.cell? ⟨A, 6, none⟩ = some x6) (f6 : wa.frozen? ⟨A, 6, none⟩ = false) :
    Calls Try.prog 41 #[.pointer (some ⟨A, 0, none⟩)] wa fun e w' => e = .returned (.tuple #[]) ∧ Laid wa A n (imp n m j) w' := by
  have HT0 : Hid (One wa A wa.heap.size (wa.heap.size + 1) n 0 (fun _ => (0, 0)) (imp n m j) (.slice none 0 0) 0 ((wa.setCell ⟨A, 6, none⟩ (.slice (some ⟨wa.heap.size, 0, none⟩) n n)).alloc (.cells (madeCells #[.slice none 0 0] n) 28))) := by
    rw [← World.setCell_alloc_past _ _ _ _ (World.block_lt_of_cell? _ _ h6)]; exact one_start h6
  have hmk := run_make_row' (P := Try.prog) 22 28 (.slice none 0 0) (12 + 12) Try.underlying22 Try.infoLI rfl .i64 .i64 n (by omega) (by omega) wa
  have hlt : A < wa.heap.size := World.block_lt_of_cell? _ _ h6
  have B0 : Below wa.heap.size wa (wa.alloc (.cells (madeCells #[.slice none 0 0] n) 28)) := (Below.refl _ _).alloc (Nat.le_refl _) _
  have g6 : (wa.alloc (.cells (madeCells #[.slice none 0 0] n) 28)).cell? ⟨A, 6, none⟩ = some x6 := (B0.cell (p := ⟨A, 6, none⟩) hlt).trans h6
  have k6 : (wa.alloc (.cells (madeCells #[.slice none 0 0] n) 28)).frozen? ⟨A, 6, none⟩ = false := (B0.frozen (p := ⟨A, 6, none⟩) hlt).trans f6
  have HLB : Hid (∀ {T H x Rr v y} w', One wa A T H n x Rr (imp n m j) v y w' → LB w' A (n : Nat) (some ⟨b, off, none⟩) n ca (some ⟨b', off', none⟩) n cb) := fun w' h => ⟨(h.cs 0 (by omega)).trans hL.1, (h.cs 1 (by omega)).trans hL.2.1, (h.cs 2 (by omega)).trans hL.2.2⟩
  have HC : Hid (∀ {T H x Rr v y} , x < n → y < n → ∀ w', One wa A T H n x Rr (imp n m j) v y w' → Calls Try.prog 55 #[.pointer (some ⟨A, 0, none⟩), .int .i64 (x : Nat), .int .i64 (y : Nat)] w' fun e w'' => e = .returned (.int .i64 (imp n m j x y : Nat)) ∧ Below w'.heap.size w' w'') :=
    fun hx hy w' h => greatest_any h1 h40 hl (HLB.out w' h) (ht w' h.bel) (ho w' h.bel) hx hy
  have c0 := hL.1
  have HN1 : Hid (1 ≤ n) := h1
  clear hl hL ht ho B0
  go_enter Try.func41, Try.ntmps41
  go_wp2_with fail
  generalize (wa.setCell ⟨A, 6, none⟩ (.slice (some ⟨wa.heap.size, 0, none⟩) n n)).alloc (.cells (madeCells #[.slice none 0 0] n) 28) = w1 at *
  generalize hTE : wa.heap.size = T at *
  have HTE : Hid (wa.heap.size = T) := hTE
  clear hTE
  clear hmk g6 k6 c0 hlt h6 f6
  go_loopw [18] (fun i wx => ∃ x : Nat, x ≤ n ∧ i = .int .i64 x ∧ ∃ Rr H, Hid (One wa A T H n x Rr (imp n m j) (.slice none 0 0) 0 wx)) (fun i _ => n - (intOf i).toNat)
  case atStart => exact ⟨0, Nat.zero_le _, rfl, _, _, HT0⟩
  case round =>
    clear HT0
    obtain ⟨x, hx, rfl, Rr, H, HT⟩ := hrel
    by_cases hxn : x < n
    · have d0 := (HLB.out wr HT.out).1
      go_wp2_with fail
      go_loopw [26] (fun i wx => ∃ y : Nat, y ≤ n ∧ i = .int .i64 y ∧ ∃ v, Hid (One wa A T H n x Rr (imp n m j) v y wx)) (fun i _ => n - (intOf i).toNat)
      case atStart => exact ⟨0, Nat.zero_le _, rfl, _, HT⟩
      case round =>
        clear HT d0
        obtain ⟨y, hy, rfl, v, HT⟩ := hrel
        by_cases hyn : y < n
        · go_wp2_with fail
          have HCC : Hid (∀ w', One wa A T H n x Rr (imp n m j) v y w' → Calls Try.prog 55 #[.pointer (some ⟨A, 0, none⟩), .int .i64 (x : Nat), .int .i64 (y : Nat)] w' fun e w'' => e = .returned (.int .i64 (imp n m j x y : Nat)) ∧ Below w'.heap.size w' w'') := HC.out hxn hyn
          refine reg7 HT hxn hyn h40 HCC ?_ ?_
          · exact fun _ _ _ _ _ h => h
          intro v3 w3 h3 zcj zda zdb zdc zdd zde zdf zdg zdh zdi zdj zea zeb zec zed zee zef zeg zeh
          have HT3 : Hid (One wa A T H n x Rr (imp n m j) v3 (y + 1) w3) := h3
          clear h3 HT HCC
          go_wp2_with fail
          go_roundw
          case rel => exact ⟨y + 1, by omega, by go_num, _, HT3⟩
          case measure => simp [intOf]; omega
        · obtain rfl : y = n := by omega
          obtain ⟨R5, h5⟩ := HT.out.next HN1.out
          have HT5 : Hid (One wa A T wr.heap.size y (x + 1) R5 (imp y m j) (.slice none 0 0) 0 wr) := h5
          clear h5 HT
          go_wp2_with fail
          go_roundw
          case rel => exact ⟨x + 1, by omega, by go_num, _, _, HT5⟩
          case measure => simp [intOf]; omega
    · obtain rfl : x = n := by omega
      have HD : Hid (Laid wa A x (imp x m j) wr) := ⟨HT.out.bel, HT.out.cs, HT.out.fz, ⟨T, _, ⟨HT.out.tb, HT.out.full⟩, HT.out.aa, fun k hk => by
        have q1 := (HT.out.d k hk).1.1
        have q2 := HT.out.aa
        show A < (Rr k).1
        omega⟩, ⟨_, by rw [HTE.out]; exact HT.out.b2⟩⟩
      clear HT
      go_wp2_with fail
      go_end0
      exact ⟨rfl, HD.out⟩
end Go.Proofs.Ytibnadbobijjpaa
