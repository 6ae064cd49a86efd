/-
  A table that an algebra is handed row by row: what stays, and what an append and a store change. No condition but those that each theorem names.
-/
import Derived.Maps.AppendAt
import Derived.Test.YtfkkjebgccnlnaaNats
import Derived.Test.YtfkkjebgccnlnaaLaws
namespace Go.Proofs.Ytfkkjebgccnlnaa
set_option maxRecDepth 100000
open Go.RowKit

/-- A slice of slices of the call's own. -/
def OwnS (w : World) (b n : Nat) (f : Nat → Value) : Prop := ∀ k, k < n → w.cell? ⟨b, k, none⟩ = some (f k) ∧ w.frozen? ⟨b, k, none⟩ = false
theorem OwnS.set {w : World} {b n : Nat} {f : Nat → Value} (h : OwnS w b n f) (u : Nat) (v : Value) : OwnS (w.setCell ⟨b, u, none⟩ v) b n (fun k => if k = u then v else f k) := by
  intro k hk
  refine ⟨?_, by rw [World.frozen?_setCell]; exact (h k hk).2⟩
  show _ = some (if k = u then v else f k)
  by_cases e : k = u
  · subst e; rw [if_pos rfl]; exact World.cell?_setCell_same _ _ _ (h k hk).1
  · rw [if_neg e, World.cell?_setCell_other _ _ _ _ (fun e2 => e (by injection e2 with _ h2; exact h2.symm))]; exact (h k hk).1
theorem OwnS.other {w : World} {b n U u : Nat} {f : Nat → Value} (h : OwnS w b n f) (hne : U ≠ b) (v : Value) : OwnS (w.setCell ⟨U, u, none⟩ v) b n f := by
  intro k hk
  refine ⟨?_, by rw [World.frozen?_setCell]; exact (h k hk).2⟩
  rw [World.cell?_setCell_other _ _ _ _ (fun e2 => hne (by injection e2 with h1 _))]; exact (h k hk).1
theorem OwnS.keep {w w' : World} {b n B : Nat} {f : Nat → Value} (h : OwnS w b n f) (hB : Below B w w') (hb : b < B) : OwnS w' b n f :=
  fun k hk => ⟨(hB.cell (p := ⟨b, k, none⟩) hb).trans (h k hk).1, (hB.frozen (p := ⟨b, k, none⟩) hb).trans (h k hk).2⟩
theorem OwnS.congr {w : World} {b n : Nat} {f h : Nat → Value} (ho : OwnS w b n f) (e : ∀ k, k < n → f k = h k) : OwnS w b n h :=
  fun k hk => ⟨by rw [← e k hk]; exact (ho k hk).1, (ho k hk).2⟩
/-- The rows ahead of x are laid, the x-th is v. -/
def rowF (n x : Nat) (R : Nat → Nat × Nat) (v : Value) (k : Nat) : Value := if k < x then .slice (some ⟨(R k).1, 0, none⟩) n (R k).2 else if k = x then v else .slice none 0 0
theorem rowF_at (n x : Nat) (R : Nat → Nat × Nat) (v : Value) : rowF n x R v x = v := by unfold rowF; rw [if_neg (Nat.lt_irrefl _), if_pos rfl]
theorem rowF_set (n x : Nat) (R : Nat → Nat × Nat) (v v' : Value) (k : Nat) : (if k = x then v' else rowF n x R v k) = rowF n x R v' k := by
  unfold rowF
  by_cases e : k = x
  · subst e; rw [if_pos rfl, if_neg (Nat.lt_irrefl _), if_pos rfl]
  · rw [if_neg e]; split <;> simp
theorem rowF_next (n x b cp : Nat) (R : Nat → Nat × Nat) (k : Nat) : rowF n x R (.slice (some ⟨b, 0, none⟩) n cp) k = rowF n (x + 1) (fun k => if k = x then (b, cp) else R k) (.slice none 0 0) k := by
  unfold rowF
  by_cases e : k = x
  · subst e; rw [if_neg (Nat.lt_irrefl _), if_pos rfl, if_pos (Nat.lt_succ_self _)]; simp
  · by_cases q : k < x
    · rw [if_pos q, if_pos (by omega)]; simp [e]
    · rw [if_neg q, if_neg e, if_neg (by omega)]; split <;> rfl
/-- The rows ahead of x hold what they should, in blocks between T and H. -/
def Done (T H n x : Nat) (R : Nat → Nat × Nat) (m : Nat → Nat → Nat) (w : World) : Prop := ∀ k, k < x → (T < (R k).1 ∧ (R k).1 < H) ∧ ∀ j, j < n → w.cell? ⟨(R k).1, j, none⟩ = some (.int .i64 (m k j : Nat))
theorem Done.keep {T H n x B : Nat} {R : Nat → Nat × Nat} {m : Nat → Nat → Nat} {w w' : World} (h : Done T H n x R m w) (hb : Below B w w') (hB : H ≤ B) : Done T H n x R m w' := fun k hk =>
  ⟨(h k hk).1, fun j hj => (hb.cell (p := ⟨(R k).1, j, none⟩) (Nat.lt_of_lt_of_le (h k hk).1.2 hB)).trans ((h k hk).2 j hj)⟩
theorem Done.set {T H n x U : Nat} {R : Nat → Nat × Nat} {m : Nat → Nat → Nat} {w : World} (h : Done T H n x R m w) (hU : U ≤ T) (u : Nat) (v : Value) : Done T H n x R m (w.setCell ⟨U, u, none⟩ v) := fun k hk =>
  ⟨(h k hk).1, fun j hj => by
    rw [World.cell?_setCell_other _ _ _ _ (fun e2 => by injection e2 with h1 _; have := (h k hk).1.1; omega)]
    exact (h k hk).2 j hj⟩
theorem Done.next {T H H' n x b cp : Nat} {R : Nat → Nat × Nat} {m : Nat → Nat → Nat} {w : World} (h : Done T H n x R m w) (hH : H ≤ H') (hb : T < b ∧ b < H') (hc : ∀ j, j < n → w.cell? ⟨b, j, none⟩ = some (.int .i64 (m x j : Nat))) :
    Done T H' n (x + 1) (fun k => if k = x then (b, cp) else R k) m w := fun k hk => by
  by_cases e : k = x
  · subst e; simp only [if_true]; exact ⟨hb, hc⟩
  · have := h k (by omega)
    simp only [e, if_false]
    exact ⟨⟨this.1.1, Nat.lt_of_lt_of_le this.1.2 hH⟩, this.2⟩
theorem ownsRow_under {w : World} {H size n : Nat} {e : TypeId} {v : Value} {xs : List Value} (h : w.ownsRow H e size v n xs) {U : Nat} (hU : U < H) (u : Nat) (x : Value) : (w.setCell ⟨U, u, none⟩ x).ownsRow H e size v n xs :=
  ownsRow_setCell_below h (a := ⟨U, u, none⟩) hU _

theorem own_ge {w : World} {e : TypeId} {size n : Nat} {v : Value} {xs : List Value} {H : Nat} (h : w.ownsRow H e size v n xs) {k : Nat} (hk : v.ownBlock = some k) : H ≤ k := owns_block h k hk
theorem own_lt {w : World} {e : TypeId} {size n : Nat} {v : Value} {xs : List Value} {H : Nat} (h : w.ownsRow H e size v n xs) {k : Nat} (hk : v.ownBlock = some k) : k < w.heap.size := by
  rcases h.2 with ⟨hv, _⟩ | ⟨g, cap, cur, hv, _, hg, _⟩
  · rw [hv] at hk; cases hk
  · rw [hv] at hk
    have : g = k := by injection hk
    subst this
    rcases Nat.lt_or_ge g w.heap.size with h | h
    · exact h
    · rw [Array.getElem?_eq_none h] at hg; cases hg
/-- Of the algebra at A, as it was in wa, x rows of the table at T are laid, and y numbers of the next one. -/
structure One (wa : World) (A T H n x : Nat) (R : Nat → Nat × Nat) (f : Nat → Nat → Nat) (v : Value) (y : Nat) (w : World) : Prop where
  bel : Below A wa w
  cs : ∀ k, k ≠ 6 → w.cell? ⟨A, k, none⟩ = wa.cell? ⟨A, k, none⟩
  fz : ∀ k, w.frozen? ⟨A, k, none⟩ = wa.frozen? ⟨A, k, none⟩
  tb : w.cell? ⟨A, 6, none⟩ = some (.slice (some ⟨T, 0, none⟩) n n)
  o : OwnS w T n (rowF n x R v)
  d : Done T H n x R f w
  r : w.ownsRow H 3 1 v y (rowVals (f x) y)
  aa : A < T
  th : T < H
  hs : H ≤ w.heap.size
  b2 : Below T (wa.setCell ⟨A, 6, none⟩ (.slice (some ⟨T, 0, none⟩) n n)) w
section
variable {wa : World} {A T H n x : Nat} {R : Nat → Nat × Nat} {f : Nat → Nat → Nat} {v : Value} {y : Nat} {w w' : World}
theorem One.step (h : One wa A T H n x R f v y w) (hb : Below w.heap.size w w') : One wa A T H n x R f v y w' where
  bel := h.bel.trans (hb.mono (by have := h.aa; have := h.th; have := h.hs; omega))
  cs := fun k hk => (hb.cell (p := ⟨A, k, none⟩) (show A < w.heap.size by have := h.aa; have := h.th; have := h.hs; omega)).trans (h.cs k hk)
  fz := fun k => (hb.frozen (p := ⟨A, k, none⟩) (show A < w.heap.size by have := h.aa; have := h.th; have := h.hs; omega)).trans (h.fz k)
  tb := (hb.cell (p := ⟨A, 6, none⟩) (show A < w.heap.size by have := h.aa; have := h.th; have := h.hs; omega)).trans h.tb
  o := h.o.keep hb (by have := h.th; have := h.hs; omega)
  d := h.d.keep hb h.hs
  r := owns_below h.r hb
  aa := h.aa
  th := h.th
  hs := Nat.le_trans h.hs hb.size
  b2 := h.b2.trans (hb.mono (by have := h.th; have := h.hs; omega))
theorem One.below (h : One wa A T H n x R f v y w) (hg : w.grownBy w' v.ownBlock) : Below H w w' :=
  (Below.refl H w).grown hg h.hs (fun _ hk => own_ge h.r hk)
theorem One.grow (h : One wa A T H n x R f v y w) (v' : Value) (ho : w'.ownsRow H 3 1 v' (y + 1) (rowVals (f x) y ++ [.int .i64 (f x y : Nat)])) (hg : w.grownBy w' v.ownBlock) :
    One wa A T H n x R f v' (y + 1) (w'.setCell ⟨T, x, none⟩ v') := by
  have hb := h.below hg
  have h1 := h.aa
  have h4 := h.th
  have h9 := h.hs
  have ne : ∀ k, (⟨T, x, none⟩ : Addr) ≠ ⟨A, k, none⟩ := fun k e => by injection e with e1 _; omega
  refine ⟨?_, ?_, ?_, ?_, ?_, ?_, ?_, h.aa, h.th, ?_, (h.b2.trans (hb.mono (by omega))).setCell (p := ⟨T, x, none⟩) (Nat.le_refl _) _⟩
  · exact (h.bel.trans (hb.mono (by omega))).setCell (p := ⟨T, x, none⟩) (by show A ≤ T; omega) _
  · intro k hk
    rw [World.cell?_setCell_other _ _ _ _ (ne k)]
    exact (hb.cell (p := ⟨A, k, none⟩) (show A < H by omega)).trans (h.cs k hk)
  · intro k
    rw [World.frozen?_setCell]
    exact (hb.frozen (p := ⟨A, k, none⟩) (show A < H by omega)).trans (h.fz k)
  · rw [World.cell?_setCell_other _ _ _ _ (ne 6)]
    exact (hb.cell (p := ⟨A, 6, none⟩) (show A < H by omega)).trans h.tb
  · exact ((h.o.keep hb (by omega)).set x v').congr (fun k _ => rowF_set n x R v v' k)
  · exact (h.d.keep hb (Nat.le_refl _)).set (Nat.le_refl _) _ _
  · rw [rowVals_succ]; exact ownsRow_under ho (by omega) _ _
  · have := hb.size; simp; omega
theorem One.next (h : One wa A T H n x R f v n w) (hn : 0 < n) : ∃ R', One wa A T w.heap.size n (x + 1) R' f (.slice none 0 0) 0 w := by
  have h4 := h.th
  have h9 := h.hs
  obtain ⟨b, cp, rfl⟩ := owns_form h.r hn
  have g1 := own_ge h.r (k := b) rfl
  have l1 := own_lt h.r (k := b) rfl
  refine ⟨fun k => if k = x then (b, cp) else R k, h.bel, h.cs, h.fz, h.tb, h.o.congr (fun k _ => rowF_next n x b cp R k), h.d.next h.hs ⟨by omega, l1⟩ (fun k hk => ?_), World.ownsRow_nil _ _ _ _, h.aa, by omega, Nat.le_refl _, h.b2⟩
  rw [h.r.cellAt k (by omega), rowVals_at _ _ _ hk]
/-- All rows are laid: a table. -/
theorem One.full (h : One wa A T H n n R f v 0 w) : Tb w T 0 n (fun k => ((R k).1, 0, (R k).2)) f := by
  intro k hk
  have h1 := (h.o k hk).1
  unfold rowF at h1
  rw [if_pos hk] at h1
  refine ⟨by rw [Nat.zero_add]; exact h1, fun y hy => ?_⟩
  show w.cell? ⟨(R k).1, 0 + y, none⟩ = _
  rw [Nat.zero_add]
  exact (h.d k hk).2 y hy
end
end Go.Proofs.Ytfkkjebgccnlnaa
