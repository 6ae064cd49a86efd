/-
  Two tables that are built row by row, side by side: what stays, and what an append and a store change. No condition but those that each theorem names.
-/
import Derived.Maps.AppendAt
import Derived.Test.YthhnngmfbbljaaaGreatBuild
namespace Go.Proofs.YthhnngmfbbljaaaGreat
set_option maxRecDepth 100000
open Go.RowKit

/-- A slice of slices of the call's own. -/
def OwnS (w : World) (b n : Nat) (f : Nat → Value) : Prop := ∀ k, k < n → w.cell? ⟨b, k, none⟩ = some (f k) ∧ w.frozen? ⟨b, k, none⟩ = false
theorem OwnS.set {w : World} {b n : Nat} {f : Nat → Value} (h : OwnS w b n f) (u : Nat) (v : Value) : OwnS (w.setCell ⟨b, u, none⟩ v) b n (fun k => if k = u then v else f k) := by
  intro k hk
  refine ⟨?_, by rw [World.frozen?_setCell]; exact (h k hk).2⟩
  show _ = some (if k = u then v else f k)
  by_cases e : k = u
  · subst e; rw [if_pos rfl]; exact World.cell?_setCell_same _ _ _ (h k hk).1
  · rw [if_neg e, World.cell?_setCell_other _ _ _ _ (fun e2 => e (by injection e2 with _ h2; exact h2.symm))]; exact (h k hk).1
theorem OwnS.other {w : World} {b n U u : Nat} {f : Nat → Value} (h : OwnS w b n f) (hne : U ≠ b) (v : Value) : OwnS (w.setCell ⟨U, u, none⟩ v) b n f := by
  intro k hk
  refine ⟨?_, by rw [World.frozen?_setCell]; exact (h k hk).2⟩
  rw [World.cell?_setCell_other _ _ _ _ (fun e2 => hne (by injection e2 with h1 _))]; exact (h k hk).1
theorem OwnS.keep {w w' : World} {b n B : Nat} {f : Nat → Value} (h : OwnS w b n f) (hB : Below B w w') (hb : b < B) : OwnS w' b n f :=
  fun k hk => ⟨(hB.cell (p := ⟨b, k, none⟩) hb).trans (h k hk).1, (hB.frozen (p := ⟨b, k, none⟩) hb).trans (h k hk).2⟩
theorem OwnS.congr {w : World} {b n : Nat} {f h : Nat → Value} (ho : OwnS w b n f) (e : ∀ k, k < n → f k = h k) : OwnS w b n h :=
  fun k hk => ⟨by rw [← e k hk]; exact (ho k hk).1, (ho k hk).2⟩
/-- The rows ahead of x are laid, the x-th is v. -/
def rowF (n x : Nat) (R : Nat → Nat × Nat) (v : Value) (k : Nat) : Value := if k < x then .slice (some ⟨(R k).1, 0, none⟩) n (R k).2 else if k = x then v else .slice none 0 0
theorem rowF_at (n x : Nat) (R : Nat → Nat × Nat) (v : Value) : rowF n x R v x = v := by unfold rowF; rw [if_neg (Nat.lt_irrefl _), if_pos rfl]
theorem rowF_set (n x : Nat) (R : Nat → Nat × Nat) (v v' : Value) (k : Nat) : (if k = x then v' else rowF n x R v k) = rowF n x R v' k := by
  unfold rowF
  by_cases e : k = x
  · subst e; rw [if_pos rfl, if_neg (Nat.lt_irrefl _), if_pos rfl]
  · rw [if_neg e]; split <;> simp
theorem rowF_next (n x b cp : Nat) (R : Nat → Nat × Nat) (k : Nat) : rowF n x R (.slice (some ⟨b, 0, none⟩) n cp) k = rowF n (x + 1) (fun k => if k = x then (b, cp) else R k) (.slice none 0 0) k := by
  unfold rowF
  by_cases e : k = x
  · subst e; rw [if_neg (Nat.lt_irrefl _), if_pos rfl, if_pos (Nat.lt_succ_self _)]; simp
  · by_cases q : k < x
    · rw [if_pos q, if_pos (by omega)]; simp [e]
    · rw [if_neg q, if_neg e, if_neg (by omega)]; split <;> rfl
/-- The rows ahead of x hold what they should, in blocks between T and H. -/
def Done (T H n x : Nat) (R : Nat → Nat × Nat) (m : Nat → Nat → Nat) (w : World) : Prop := ∀ k, k < x → (T < (R k).1 ∧ (R k).1 < H) ∧ ∀ j, j < n → w.cell? ⟨(R k).1, j, none⟩ = some (.int .i64 (m k j : Nat))
theorem Done.keep {T H n x B : Nat} {R : Nat → Nat × Nat} {m : Nat → Nat → Nat} {w w' : World} (h : Done T H n x R m w) (hb : Below B w w') (hB : H ≤ B) : Done T H n x R m w' := fun k hk =>
  ⟨(h k hk).1, fun j hj => (hb.cell (p := ⟨(R k).1, j, none⟩) (Nat.lt_of_lt_of_le (h k hk).1.2 hB)).trans ((h k hk).2 j hj)⟩
theorem Done.set {T H n x U : Nat} {R : Nat → Nat × Nat} {m : Nat → Nat → Nat} {w : World} (h : Done T H n x R m w) (hU : U ≤ T) (u : Nat) (v : Value) : Done T H n x R m (w.setCell ⟨U, u, none⟩ v) := fun k hk =>
  ⟨(h k hk).1, fun j hj => by
    rw [World.cell?_setCell_other _ _ _ _ (fun e2 => by injection e2 with h1 _; have := (h k hk).1.1; omega)]
    exact (h k hk).2 j hj⟩
theorem Done.next {T H H' n x b cp : Nat} {R : Nat → Nat × Nat} {m : Nat → Nat → Nat} {w : World} (h : Done T H n x R m w) (hH : H ≤ H') (hb : T < b ∧ b < H') (hc : ∀ j, j < n → w.cell? ⟨b, j, none⟩ = some (.int .i64 (m x j : Nat))) :
    Done T H' n (x + 1) (fun k => if k = x then (b, cp) else R k) m w := fun k hk => by
  by_cases e : k = x
  · subst e; simp only [if_true]; exact ⟨hb, hc⟩
  · have := h k (by omega)
    simp only [e, if_false]
    exact ⟨⟨this.1.1, Nat.lt_of_lt_of_le this.1.2 hH⟩, this.2⟩
theorem ownsRow_under {w : World} {H size n : Nat} {e : TypeId} {v : Value} {xs : List Value} (h : w.ownsRow H e size v n xs) {U : Nat} (hU : U < H) (u : Nat) (x : Value) : (w.setCell ⟨U, u, none⟩ x).ownsRow H e size v n xs :=
  ownsRow_setCell_below h (a := ⟨U, u, none⟩) hU _

/-- The rows ahead of x may be written, and each lies in a block of its own. -/
def Fi (n x : Nat) (R1 R2 : Nat → Nat × Nat) (w : World) : Prop :=
  (∀ k, k < x → ∀ j, j < n → w.frozen? ⟨(R1 k).1, j, none⟩ = false ∧ w.frozen? ⟨(R2 k).1, j, none⟩ = false) ∧
  ∀ k l, k < x → l < x → (R1 k).1 ≠ (R2 l).1 ∧ (k ≠ l → (R1 k).1 ≠ (R1 l).1 ∧ (R2 k).1 ≠ (R2 l).1)
theorem Fi.zero (n : Nat) (R1 R2 : Nat → Nat × Nat) (w : World) : Fi n 0 R1 R2 w := ⟨fun _ hk => absurd hk (Nat.not_lt_zero _), fun _ _ hk => absurd hk (Nat.not_lt_zero _)⟩
theorem Fi.keep {n x T1 T2 H B : Nat} {R1 R2 : Nat → Nat × Nat} {m1 m2 : Nat → Nat → Nat} {w w' : World} (h : Fi n x R1 R2 w) (d1 : Done T1 H n x R1 m1 w) (d2 : Done T2 H n x R2 m2 w) (hb : Below B w w') (hB : H ≤ B) : Fi n x R1 R2 w' :=
  ⟨fun k hk j hj => ⟨(hb.frozen (p := ⟨(R1 k).1, j, none⟩) (Nat.lt_of_lt_of_le (d1 k hk).1.2 hB)).trans (h.1 k hk j hj).1, (hb.frozen (p := ⟨(R2 k).1, j, none⟩) (Nat.lt_of_lt_of_le (d2 k hk).1.2 hB)).trans (h.1 k hk j hj).2⟩, h.2⟩
theorem Fi.set {n x : Nat} {R1 R2 : Nat → Nat × Nat} {w : World} (h : Fi n x R1 R2 w) (p : Addr) (v : Value) : Fi n x R1 R2 (w.setCell p v) :=
  ⟨fun k hk j hj => ⟨by rw [World.frozen?_setCell]; exact (h.1 k hk j hj).1, by rw [World.frozen?_setCell]; exact (h.1 k hk j hj).2⟩, h.2⟩
theorem Fi.next {n x T1 T2 H b b' c c' : Nat} {R1 R2 : Nat → Nat × Nat} {m1 m2 : Nat → Nat → Nat} {w : World} (h : Fi n x R1 R2 w) (d1 : Done T1 H n x R1 m1 w) (d2 : Done T2 H n x R2 m2 w) (hb : H ≤ b) (hb' : H ≤ b') (hne : b ≠ b')
    (f1 : ∀ j, j < n → w.frozen? ⟨b, j, none⟩ = false) (f2 : ∀ j, j < n → w.frozen? ⟨b', j, none⟩ = false) : Fi n (x + 1) (fun k => if k = x then (b, c) else R1 k) (fun k => if k = x then (b', c') else R2 k) w := by
  refine ⟨fun k hk j hj => ?_, fun k l hk hl => ?_⟩
  · by_cases e : k = x
    · subst e; simp only [if_true]; exact ⟨f1 j hj, f2 j hj⟩
    · simp only [e, if_false]; exact h.1 k (by omega) j hj
  · by_cases e : k = x
    · by_cases e' : l = x
      · subst e; subst e'; simp only [if_true]; exact ⟨hne, fun q => absurd rfl q⟩
      · have a1 := (d1 l (by omega)).1.2
        have a2 := (d2 l (by omega)).1.2
        subst e; simp only [if_true, e', if_false]; exact ⟨by omega, fun _ => ⟨by omega, by omega⟩⟩
    · have a1 := (d1 k (by omega)).1.2
      have a2 := (d2 k (by omega)).1.2
      by_cases e' : l = x
      · subst e'; simp only [if_true, e, if_false]; exact ⟨by omega, fun _ => ⟨by omega, by omega⟩⟩
      · simp only [e, e', if_false]; exact h.2 k l (by omega) (by omega)

/-- Where things lie: the box, the two tables; T is above them all. -/
structure Lay (B0 B T1 T2 T : Nat) : Prop where
  b0 : B0 ≤ B
  b1 : B0 ≤ T1
  b2 : B0 ≤ T2
  t : B ≤ T ∧ T1 ≤ T ∧ T2 ≤ T
  n1 : B ≠ T1
  n2 : B ≠ T2
  n3 : T1 ≠ T2
/-- The box holds a lattice. -/
def Bx (w : World) (B n T1 T2 : Nat) : Prop := w.cell? ⟨B, 0, none⟩ = some (.int .i64 (n : Int)) ∧ w.cell? ⟨B, 1, none⟩ = some (.slice (some ⟨T1, 0, none⟩) n n) ∧ w.cell? ⟨B, 2, none⟩ = some (.slice (some ⟨T2, 0, none⟩) n n)
/-- x rows are laid; y1 and y2 numbers of the next ones. -/
structure Two (w0 : World) (B0 B T1 T2 T H n x : Nat) (R1 R2 : Nat → Nat × Nat) (m j : Nat → Nat → Nat) (v1 v2 : Value) (y1 y2 : Nat) (w : World) : Prop where
  bel : Below B0 w0 w
  box : Bx w B n T1 T2
  o1 : OwnS w T1 n (rowF n x R1 v1)
  o2 : OwnS w T2 n (rowF n x R2 v2)
  d1 : Done T H n x R1 m w
  d2 : Done T H n x R2 j w
  r1 : w.ownsRow H 3 1 v1 y1 (rowVals (m x) y1)
  r2 : w.ownsRow H 3 1 v2 y2 (rowVals (j x) y2)
  ap : v1.ownBlock = none ∨ v1.ownBlock ≠ v2.ownBlock
  th : T < H
  hs : H ≤ w.heap.size
  bs : B0 ≤ w.heap.size
  fi : Fi n x R1 R2 w
theorem Bx.keep {w w' : World} {B n T1 T2 X : Nat} (h : Bx w B n T1 T2) (hb : Below X w w') (hX : B < X) : Bx w' B n T1 T2 :=
  ⟨(hb.cell (p := ⟨B, 0, none⟩) hX).trans h.1, (hb.cell (p := ⟨B, 1, none⟩) hX).trans h.2.1, (hb.cell (p := ⟨B, 2, none⟩) hX).trans h.2.2⟩
theorem Bx.other {w : World} {B n T1 T2 U u : Nat} (h : Bx w B n T1 T2) (hne : U ≠ B) (v : Value) : Bx (w.setCell ⟨U, u, none⟩ v) B n T1 T2 := by
  have e : ∀ k, (w.setCell ⟨U, u, none⟩ v).cell? ⟨B, k, none⟩ = w.cell? ⟨B, k, none⟩ := fun k => World.cell?_setCell_other _ _ _ _ (fun e2 => hne (by injection e2 with q _))
  exact ⟨(e 0).trans h.1, (e 1).trans h.2.1, (e 2).trans h.2.2⟩
section
variable {w0 : World} {B0 B T1 T2 T H n x : Nat} {R1 R2 : Nat → Nat × Nat} {m j : Nat → Nat → Nat} {v1 v2 : Value} {y1 y2 : Nat} {w w' : World}
/-- Swapped. -/
theorem Lay.swap (h : Lay B0 B T1 T2 T) : Lay B0 B T2 T1 T := ⟨h.b0, h.b2, h.b1, ⟨h.t.1, h.t.2.2, h.t.2.1⟩, h.n2, h.n1, h.n3.symm⟩
theorem Two.step (h : Two w0 B0 B T1 T2 T H n x R1 R2 m j v1 v2 y1 y2 w) (L : Lay B0 B T1 T2 T) (hb : Below w.heap.size w w') : Two w0 B0 B T1 T2 T H n x R1 R2 m j v1 v2 y1 y2 w' where
  bel := h.bel.trans (hb.mono h.bs)
  box := h.box.keep hb (by have := L.t.1; have := h.th; have := h.hs; omega)
  o1 := h.o1.keep hb (by have := L.t.2.1; have := h.th; have := h.hs; omega)
  o2 := h.o2.keep hb (by have := L.t.2.2; have := h.th; have := h.hs; omega)
  d1 := h.d1.keep hb h.hs
  d2 := h.d2.keep hb h.hs
  r1 := owns_below h.r1 hb
  r2 := owns_below h.r2 hb
  ap := h.ap
  th := h.th
  hs := Nat.le_trans h.hs hb.size
  bs := Nat.le_trans h.bs hb.size
  fi := h.fi.keep h.d1 h.d2 hb h.hs
theorem own_ge {w : World} {e : TypeId} {size n : Nat} {v : Value} {xs : List Value} (h : w.ownsRow H e size v n xs) {k : Nat} (hk : v.ownBlock = some k) : H ≤ k := owns_block h k hk
theorem own_lt {w : World} {e : TypeId} {size n : Nat} {v : Value} {xs : List Value} (h : w.ownsRow H e size v n xs) {k : Nat} (hk : v.ownBlock = some k) : k < w.heap.size := by
  rcases h.2 with ⟨hv, _⟩ | ⟨g, cap, cur, hv, _, hg, _⟩
  · rw [hv] at hk; cases hk
  · rw [hv] at hk
    have : g = k := by injection hk
    subst this
    rcases Nat.lt_or_ge g w.heap.size with h | h
    · exact h
    · rw [Array.getElem?_eq_none h] at hg; cases hg
/-- What an append to the first row leaves: all below H but for the row itself. -/
theorem Two.below1 (h : Two w0 B0 B T1 T2 T H n x R1 R2 m j v1 v2 y1 y2 w) (hg : w.grownBy w' v1.ownBlock) : Below H w w' :=
  (Below.refl H w).grown hg h.hs (fun _ hk => own_ge h.r1 hk)
theorem Two.below2 (h : Two w0 B0 B T1 T2 T H n x R1 R2 m j v1 v2 y1 y2 w) (hg : w.grownBy w' v2.ownBlock) : Below H w w' :=
  (Below.refl H w).grown hg h.hs (fun _ hk => own_ge h.r2 hk)
theorem Two.grow1 (h : Two w0 B0 B T1 T2 T H n x R1 R2 m j v1 v2 y1 y2 w) (L : Lay B0 B T1 T2 T) (v : Value) (ho : w'.ownsRow H 3 1 v (y1 + 1) (rowVals (m x) y1 ++ [.int .i64 (m x y1 : Nat)])) (hg : w.grownBy w' v1.ownBlock)
    (hk : v.ownBlock = v1.ownBlock ∨ v.ownBlock = some w.heap.size) : Two w0 B0 B T1 T2 T H n x R1 R2 m j v v2 (y1 + 1) y2 (w'.setCell ⟨T1, x, none⟩ v) := by
  have hb := h.below1 hg
  have h1 := L.t.2.1
  have h2 := L.t.2.2
  have h3 := L.t.1
  have h4 := h.th
  have h5 := L.b1
  have h6 := h.bs
  have h7 := L.n1
  have h8 := L.n3
  have h9 := h.hs
  refine ⟨?_, ?_, ?_, ?_, ?_, ?_, ?_, ?_, ?_, h.th, ?_, ?_, ((h.fi.keep h.d1 h.d2 hb (Nat.le_refl _)).set _ _)⟩
  · exact (h.bel.trans (hb.mono (by omega))).setCell (p := ⟨T1, x, none⟩) h5 _
  · exact (h.box.keep hb (by omega)).other (fun e => h7 e.symm) _
  · exact ((h.o1.keep hb (by omega)).set x v).congr (fun k _ => rowF_set n x R1 v1 v k)
  · exact (h.o2.keep hb (by omega)).other h8 _
  · exact (h.d1.keep hb (Nat.le_refl _)).set h1 _ _
  · exact (h.d2.keep hb (Nat.le_refl _)).set h1 _ _
  · rw [rowVals_succ]; exact ownsRow_under ho (by omega) _ _
  · refine ownsRow_under (h.r2.kept hg ?_) (by omega) _ _
    rcases h.ap with e | e
    · by_cases q : v2.ownBlock = none
      · exact .inl q
      · right; rw [e]; exact q
    · exact .inr (fun q => e q.symm)
  · rcases hk with e | e
    · rw [e]; exact h.ap
    · right; rw [e]; intro q
      have := own_lt h.r2 q.symm
      omega
  · have := hb.size; simp; omega
  · have := hb.size; simp; omega
/-- The two, swapped. -/
theorem Two.swap (h : Two w0 B0 B T1 T2 T H n x R1 R2 m j v1 v2 y1 y2 w) : (Below B0 w0 w ∧ Bx w B n T1 T2) ∧ (OwnS w T2 n (rowF n x R2 v2) ∧ OwnS w T1 n (rowF n x R1 v1)) := ⟨⟨h.bel, h.box⟩, h.o2, h.o1⟩
theorem Two.grow2 (h : Two w0 B0 B T1 T2 T H n x R1 R2 m j v1 v2 y1 y2 w) (L : Lay B0 B T1 T2 T) (v : Value) (ho : w'.ownsRow H 3 1 v (y2 + 1) (rowVals (j x) y2 ++ [.int .i64 (j x y2 : Nat)])) (hg : w.grownBy w' v2.ownBlock)
    (hk : v.ownBlock = v2.ownBlock ∨ v.ownBlock = some w.heap.size) : Two w0 B0 B T1 T2 T H n x R1 R2 m j v1 v y1 (y2 + 1) (w'.setCell ⟨T2, x, none⟩ v) := by
  have hb := h.below2 hg
  have h1 := L.t.2.1
  have h2 := L.t.2.2
  have h3 := L.t.1
  have h4 := h.th
  have h5 := L.b2
  have h6 := h.bs
  have h7 := L.n2
  have h8 := L.n3
  have h9 := h.hs
  refine ⟨?_, ?_, ?_, ?_, ?_, ?_, ?_, ?_, ?_, h.th, ?_, ?_, ((h.fi.keep h.d1 h.d2 hb (Nat.le_refl _)).set _ _)⟩
  · exact (h.bel.trans (hb.mono (by have := L.b1; omega))).setCell (p := ⟨T2, x, none⟩) h5 _
  · exact (h.box.keep hb (by omega)).other (fun e => h7 e.symm) _
  · exact (h.o1.keep hb (by omega)).other (fun e => h8 e.symm) _
  · exact ((h.o2.keep hb (by omega)).set x v).congr (fun k _ => rowF_set n x R2 v2 v k)
  · exact (h.d1.keep hb (Nat.le_refl _)).set h2 _ _
  · exact (h.d2.keep hb (Nat.le_refl _)).set h2 _ _
  · refine ownsRow_under (h.r1.kept hg ?_) (by omega) _ _
    rcases h.ap with e | e
    · exact .inl e
    · exact .inr e
  · rw [rowVals_succ]; exact ownsRow_under ho (by omega) _ _
  · rcases hk with e | e
    · rw [e]; exact h.ap
    · by_cases q : v1.ownBlock = none
      · exact .inl q
      · right; rw [e]; intro q2
        have := own_lt h.r1 q2
        omega
  · have := hb.size; simp; omega
  · have := hb.size; simp; omega
/-- A row is full: the next. -/
theorem Two.next (h : Two w0 B0 B T1 T2 T H n x R1 R2 m j v1 v2 n n w) (hn : 0 < n) : ∃ R1' R2', Two w0 B0 B T1 T2 T w.heap.size n (x + 1) R1' R2' m j (.slice none 0 0) (.slice none 0 0) 0 0 w := by
  have h4 := h.th
  have h9 := h.hs
  obtain ⟨b, cp, rfl⟩ := owns_form h.r1 hn
  obtain ⟨b', cp', rfl⟩ := owns_form h.r2 hn
  have g1 := own_ge h.r1 (k := b) rfl
  have g2 := own_ge h.r2 (k := b') rfl
  have l1 := own_lt h.r1 (k := b) rfl
  have l2 := own_lt h.r2 (k := b') rfl
  refine ⟨fun k => if k = x then (b, cp) else R1 k, fun k => if k = x then (b', cp') else R2 k, h.bel, h.box, h.o1.congr (fun k _ => rowF_next n x b cp R1 k), h.o2.congr (fun k _ => rowF_next n x b' cp' R2 k),
    h.d1.next h.hs ⟨by omega, l1⟩ (fun k hk => ?_), h.d2.next h.hs ⟨by omega, l2⟩ (fun k hk => ?_), World.ownsRow_nil _ _ _ _, World.ownsRow_nil _ _ _ _, .inl rfl, by omega, Nat.le_refl _, h.bs, h.fi.next h.d1 h.d2 g1 g2 ?_ ?_ ?_⟩
  · rw [h.r1.cellAt k (by omega), rowVals_at _ _ _ hk]
  · rw [h.r2.cellAt k (by omega), rowVals_at _ _ _ hk]
  · rcases h.ap with e | e
    · cases e
    · exact fun q => e (by rw [q]; rfl)
  · exact fun j _ => h.r1.frozenAt j
  · exact fun j _ => h.r2.frozenAt j
end
end Go.Proofs.YthhnngmfbbljaaaGreat
