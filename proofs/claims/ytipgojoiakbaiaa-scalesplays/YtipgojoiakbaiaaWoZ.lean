/-
  What lies while a row is played. Plain facts on worlds. Conditions: at most five points.
-/
import Derived.Test.YtipgojoiakbaiaaWoY
import Derived.Test.YtipgojoiakbaiaaWoB
import Derived.Test.YtipgojoiakbaiaaPairs
namespace Go.Proofs.Ytipgojoiakbaiaa
open Go.RowKit Go.Maps Go.WideMaps
set_option maxRecDepth 100000

/-- Pairs that are weighed, from g on, each with the best one of what is known by then; g' is known behind them. -/
def Pl (n : Nat) (f : Nat → Int) : (Nat → Nat) → List (Nat × Nat) → (Nat → Nat) → Prop
  | g, [], g' => g' = g
  | g, pq :: L, g' => cst n g ≠ 0 ∧ ((pq.1 = (nx n g).a ∧ pq.2 = (nx n g).b) ∨ (pq.1 = (nx n g).b ∧ pq.2 = (nx n g).a)) ∧ Ahd f n pq.1 pq.2 ∧ Pl n f (wth g pq.1 pq.2) L g'
theorem Pl.snoc {n : Nat} {f : Nat → Int} : ∀ {L : List (Nat × Nat)} {g g' : Nat → Nat}, Pl n f g L g' → ∀ {p q : Nat}, cst n g' ≠ 0 → ((p = (nx n g').a ∧ q = (nx n g').b) ∨ (p = (nx n g').b ∧ q = (nx n g').a)) → Ahd f n p q → Pl n f g (L ++ [(p, q)]) (wth g' p q)
  | [], g, g', h, p, q, h1, h2, h3 => by
    have e : g' = g := h
    subst e; exact ⟨h1, h2, h3, rfl⟩
  | x :: L, g, g', h, p, q, h1, h2, h3 => ⟨h.1, h.2.1, h.2.2.1, Pl.snoc h.2.2.2 h1 h2 h3⟩
theorem best_pts {n : Nat} {g : Nat → Nat} (h : WOk n g) (hc : cst n g ≠ 0) {p q : Nat} (hpq : (p = (nx n g).a ∧ q = (nx n g).b) ∨ (p = (nx n g).b ∧ q = (nx n g).a)) : p < n ∧ q < n ∧ p ≠ q ∧ opn g p q = true ∧ cst n (wth g p q) + 1 ≤ cst n g := by
  obtain ⟨h1, h2, h3, h4, _⟩ := nx_some h hc
  unfold beg at h4
  rcases hpq with ⟨rfl, rfl⟩ | ⟨rfl, rfl⟩
  · exact ⟨by omega, h2, by omega, h3, by omega⟩
  · exact ⟨h2, by omega, by omega, by rw [opn_comm]; exact h3, by omega⟩
theorem Pl.len {n : Nat} {f : Nat → Int} : ∀ {L : List (Nat × Nat)} {g g' : Nat → Nat}, WOk n g → Pl n f g L g' → WOk n g' ∧ L.length + cst n g' ≤ cst n g
  | [], g, g', h, hp => by
    have e : g' = g := hp
    subst e; exact ⟨h, by simp⟩
  | x :: L, g, g', h, hp => by
    obtain ⟨h1, h2, h3, h4, h5⟩ := best_pts h hp.1 hp.2.1
    obtain ⟨h6, h7⟩ := Pl.len (h.wth h1 h2 h3 h4) hp.2.2.2
    exact ⟨h6, by simp; omega⟩

/-- The block holds cells of a type. -/
def TyB (w : World) (b : Nat) (T : TypeId) : Prop := ∃ cs fr, w.heap[b]? = some (.cells cs T fr)
theorem TyB.new (w : World) (cs : Array Value) (T : TypeId) : TyB (w.alloc (.cells cs T)) w.heap.size T := ⟨cs, (0, 0), heap_alloc_new w _⟩
theorem TyB.grown {w w' : World} {b : Nat} {T : TypeId} {row : Option Nat} (h : TyB w b T) (hg : w.grownBy w' row) (hne : some b ≠ row) : TyB w' b T := by
  obtain ⟨cs, fr, h⟩ := h
  have hlt : b < w.heap.size := (Array.getElem?_eq_some_iff.1 h).1
  exact ⟨cs, fr, (hg.block b hlt hne).trans h⟩
theorem TyB.ne {w : World} {b base n : Nat} {v : Value} {xs : List Value} (h : TyB w b 55) (ho : w.ownsRow base 42 2 v n xs) : some b ≠ v.ownBlock := by
  obtain ⟨cs, fr, h⟩ := h
  rcases ho.2 with ⟨rfl, _⟩ | ⟨g, cap, cur, rfl, _, hg, _⟩
  · intro e; cases e
  · intro e
    have e2 : b = g := by simpa [Value.ownBlock] using e
    subst e2
    rw [h] at hg
    simp at hg
theorem WB.grown {w w' : World} {b : Nat} {x y z : Int} {row : Option Nat} (h : WB w b x y z) (hg : w.grownBy w' row) (hne : some b ≠ row) : WB w' b x y z := by
  have hb : w'.heap[b]? = w.heap[b]? := hg.block b (World.block_lt_of_cell? _ _ h.1.1) hne
  exact ⟨⟨(World.cell?_of_block (w := w) (a := ⟨b, 0, none⟩) hb).trans h.1.1, (World.frozen?_of_block (w := w) (a := ⟨b, 0, none⟩) hb).trans h.1.2⟩, ⟨(World.cell?_of_block (w := w) (a := ⟨b, 1, none⟩) hb).trans h.2.1.1, (World.frozen?_of_block (w := w) (a := ⟨b, 1, none⟩) hb).trans h.2.1.2⟩, ⟨(World.cell?_of_block (w := w) (a := ⟨b, 2, none⟩) hb).trans h.2.2.1, (World.frozen?_of_block (w := w) (a := ⟨b, 2, none⟩) hb).trans h.2.2.2⟩⟩
theorem KB.grown {w w' : World} {b : Nat} {g : Nat → Nat} {row : Option Nat} (h : KB w b g) (hg : w.grownBy w' row) (hne : some b ≠ row) : KB w' b g := fun i hi => by
  have hb : w'.heap[b]? = w.heap[b]? := hg.block b (World.block_lt_of_cell? _ _ (h i hi).1) hne
  exact ⟨(World.cell?_of_block (w := w) (a := ⟨b, i, none⟩) hb).trans (h i hi).1, (World.frozen?_of_block (w := w) (a := ⟨b, i, none⟩) hb).trans (h i hi).2⟩
theorem MOk.grown {n Bm k : Nat} {W W' : World} {D : DataW Value} {row : Option Nat} (h : MOk n Bm k W D) (hg : W.grownBy W' row) (hne : some Bm ≠ row) : MOk n Bm k W' D := ⟨h.own.kept hg hne, h.val⟩
/-- What lies through the whole play: blocks below B0, apart from one another. -/
structure PF (n Bm b10 b11 B0 : Nat) (w wx : World) (g : Nat → Nat) : Prop where
  below : Below w.heap.size w wx
  hi : w.heap.size < b10 ∧ w.heap.size < b11 ∧ w.heap.size < Bm ∧ b10 < B0 ∧ b11 < B0 ∧ Bm < B0 ∧ b10 ≠ b11 ∧ B0 ≤ wx.heap.size ∧ b10 ≠ Bm ∧ b11 ≠ Bm
  o0 : wx.cell? ⟨w.heap.size, 0, none⟩ = some (.int .i64 (n : Nat))
  t0 : wx.cell? ⟨b10, 0, none⟩ = some (.int .i64 (n : Nat))
  t1 : wx.cell? ⟨b10, 1, none⟩ = some (.map (some Bm))
  kb : KB wx b11 g
theorem PF.grown {n Bm b10 b11 B0 : Nat} {w wx wy : World} {g : Nat → Nat} {row : Option Nat} (h : PF n Bm b10 b11 B0 w wx g) (hg : wx.grownBy wy row) (hr : ∀ k, row = some k → k = Bm ∨ B0 ≤ k) : PF n Bm b10 b11 B0 w wy g := by
  obtain ⟨i1, i2, i3, i4, i5, i6, i7, i8, i9, i10⟩ := h.hi
  have ne : ∀ b, b ≠ Bm → b < B0 → some b ≠ row := fun b h1 h2 e => by
    rcases hr b e.symm with h3 | h3 <;> omega
  exact ⟨h.below.grown hg h.below.size (fun k e => by rcases hr k e with h3 | h3 <;> omega), ⟨i1, i2, i3, i4, i5, i6, i7, Nat.le_trans i8 hg.size, i9, i10⟩,
    hg.cell h.o0 (ne _ (by show w.heap.size ≠ Bm; omega) (by show w.heap.size < B0; omega)), hg.cell h.t0 (ne _ i9 i4), hg.cell h.t1 (ne _ i9 i4), h.kb.grown hg (ne _ i10 i5)⟩
theorem PF.step {n Bm b10 b11 B0 : Nat} {w wx wy : World} {g : Nat → Nat} (h : PF n Bm b10 b11 B0 w wx g) (hb : Below wx.heap.size wx wy) : PF n Bm b10 b11 B0 w wy g := h.grown (grown_of_below hb none) (fun k e => by cases e)
theorem PF.set {n Bm b10 b11 B0 : Nat} {w wx : World} {g : Nat → Nat} (h : PF n Bm b10 b11 B0 w wx g) (u : Nat → Nat) :
    PF n Bm b10 b11 B0 w (((((wx.setCell ⟨b11, 0, none⟩ (.int .i64 (u 0 : Nat))).setCell ⟨b11, 1, none⟩ (.int .i64 (u 1 : Nat))).setCell ⟨b11, 2, none⟩ (.int .i64 (u 2 : Nat))).setCell ⟨b11, 3, none⟩ (.int .i64 (u 3 : Nat))).setCell ⟨b11, 4, none⟩ (.int .i64 (u 4 : Nat))) u := by
  obtain ⟨i1, i2, i3, i4, i5, i6, i7, i8, i9, i10⟩ := h.hi
  have far : ∀ (X : World) (b i j : Nat) (v : Value), b ≠ b11 → (X.setCell ⟨b11, i, none⟩ v).cell? ⟨b, j, none⟩ = X.cell? ⟨b, j, none⟩ := fun X b i j v hb => World.cell?_setCell_other _ _ _ _ (fun e => hb (by injection e with e1; exact e1.symm))
  refine ⟨?_, ⟨i1, i2, i3, i4, i5, i6, i7, ?_, i9, i10⟩, ?_, ?_, ?_, h.kb.set5 u⟩
  · exact Below.setCell (p := ⟨b11, 4, none⟩) (Below.setCell (p := ⟨b11, 3, none⟩) (Below.setCell (p := ⟨b11, 2, none⟩) (Below.setCell (p := ⟨b11, 1, none⟩) (Below.setCell (p := ⟨b11, 0, none⟩) h.below (Nat.le_of_lt i2) _) (Nat.le_of_lt i2) _) (Nat.le_of_lt i2) _) (Nat.le_of_lt i2) _) (Nat.le_of_lt i2) _
  · simpa using i8
  · rw [far _ _ _ _ _ (by omega), far _ _ _ _ _ (by omega), far _ _ _ _ _ (by omega), far _ _ _ _ _ (by omega), far _ _ _ _ _ (by omega)]; exact h.o0
  · rw [far _ _ _ _ _ i7, far _ _ _ _ _ i7, far _ _ _ _ _ i7, far _ _ _ _ _ i7, far _ _ _ _ _ i7]; exact h.t0
  · rw [far _ _ _ _ _ i7, far _ _ _ _ _ i7, far _ _ _ _ _ i7, far _ _ _ _ _ i7, far _ _ _ _ _ i7]; exact h.t1
theorem own_set5 {w : World} {base n b : Nat} {v : Value} {xs : List Value} (h : w.ownsRow base 42 2 v n xs) (hb : b < base) (x0 x1 x2 x3 x4 : Value) :
    (((((w.setCell ⟨b, 0, none⟩ x0).setCell ⟨b, 1, none⟩ x1).setCell ⟨b, 2, none⟩ x2).setCell ⟨b, 3, none⟩ x3).setCell ⟨b, 4, none⟩ x4).ownsRow base 42 2 v n xs :=
  ownsRow_setCell_below (a := ⟨b, 4, none⟩) (ownsRow_setCell_below (a := ⟨b, 3, none⟩) (ownsRow_setCell_below (a := ⟨b, 2, none⟩) (ownsRow_setCell_below (a := ⟨b, 1, none⟩) (ownsRow_setCell_below (a := ⟨b, 0, none⟩) h hb _) hb _) hb _) hb _) hb _
/-- A slice of pairs that lies in a block from B on. -/
def PSF (w : World) (v : Value) (l : List (Nat × Nat)) (B : Nat) : Prop := ∃ a cap, v = .slice a l.length cap ∧ PRow w a l.length (pairAt l) ∧ Fresh B a l.length
theorem PSF.below {w w' : World} {v : Value} {l : List (Nat × Nat)} {B : Nat} (h : PSF w v l B) (hb : Below w.heap.size w w') : PSF w' v l B := by
  obtain ⟨a, cap, rfl, hr, hf⟩ := h
  exact ⟨a, cap, rfl, hr.below hb, hf⟩
theorem owns_psf {w : World} {base : Nat} {v : Value} {l : List (Nat × Nat)} (h : w.ownsRow base 42 2 v l.length (pairVals l)) : PSF w v l base := by
  obtain ⟨a, cap, e, hr⟩ := owns_pairs h
  refine ⟨a, cap, e, hr, fun _ => ?_⟩
  rcases h.2 with ⟨h1, h2⟩ | ⟨g, cap', cur, h1, h2, _⟩
  · omega
  · rw [e] at h1; simp at h1; exact ⟨g, 0, h1.1, h2⟩
end Go.Proofs.Ytipgojoiakbaiaa
