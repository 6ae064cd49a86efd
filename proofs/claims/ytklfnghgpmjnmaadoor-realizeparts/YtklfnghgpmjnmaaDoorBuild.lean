/-
  How the reference's OrderOf builds a slice in a struct of its own: what holds of it from round to round. No condition.
-/
import Derived.Test.YtklfnghgpmjnmaaDoorSets
namespace Go.Proofs.YtklfnghgpmjnmaaDoor
open Go.RowKit

def rowVals (F : Nat → Nat) (n : Nat) : List Value := (List.range n).map fun y => .int .i64 (F y : Nat)
theorem rowVals_succ (F : Nat → Nat) (n : Nat) : rowVals F (n + 1) = rowVals F n ++ [.int .i64 (F n : Nat)] := by simp [rowVals, List.range_succ]
theorem rowVals_at (F : Nat → Nat) (n k : Nat) (h : k < n) : (rowVals F n)[k]? = some (.int .i64 (F k : Nat)) := by simp [rowVals, h]
theorem owns_below {w w' : World} {base size n : Nat} {e : TypeId} {v : Value} {xs : List Value} (h : w.ownsRow base e size v n xs) (hb : Below w.heap.size w w') : w'.ownsRow base e size v n xs := by
  refine ⟨h.1, ?_⟩
  rcases h.2 with h2 | ⟨g, cap, cur, hv, hg, hh, r⟩
  · exact Or.inl h2
  · have hlt : g < w.heap.size := by
      rcases Nat.lt_or_ge g w.heap.size with h' | h'
      · exact h'
      · rw [Array.getElem?_eq_none h'] at hh; cases hh
    exact Or.inr ⟨g, cap, cur, hv, hg, by rw [hb.block g hlt]; exact hh, r⟩
theorem owns_block {w : World} {base size n : Nat} {e : TypeId} {v : Value} {xs : List Value} (h : w.ownsRow base e size v n xs) : ∀ k, v.ownBlock = some k → base ≤ k := by
  intro k hk
  rcases h.2 with ⟨rfl, _⟩ | ⟨g, cap, cur, rfl, hg, _⟩
  · cases hk
  · simp [Value.ownBlock] at hk; omega
theorem owns_form {w : World} {base size n : Nat} {e : TypeId} {v : Value} {xs : List Value} (h : w.ownsRow base e size v n xs) (hn : 0 < n) : ∃ g cap, v = .slice (some ⟨g, 0, none⟩) n cap := by
  rcases h.2 with ⟨_, h0⟩ | ⟨g, cap, _, hv, _⟩
  · omega
  · exact ⟨g, cap, hv⟩
theorem owns_row {w : World} {base n : Nat} {v : Value} {F : Nat → Nat} (h : w.ownsRow base 3 1 v n (rowVals F n)) : ∃ a cap, v = .slice a n cap ∧ Row w a n (fun k => (F k : Nat)) := by
  by_cases hn : 0 < n
  · obtain ⟨g, cap, rfl⟩ := owns_form h hn
    refine ⟨some ⟨g, 0, none⟩, cap, rfl, fun k hk => ⟨g, 0, rfl, ?_⟩⟩
    rw [Nat.zero_add, h.cellAt k (by omega), rowVals_at F n k hk]
  · obtain rfl : n = 0 := by omega
    rcases h.2 with ⟨rfl, _⟩ | ⟨g, cap, cur, rfl, _⟩
    · exact ⟨none, 0, rfl, fun k hk => absurd hk (Nat.not_lt_zero _)⟩
    · exact ⟨_, cap, rfl, fun k hk => absurd hk (Nat.not_lt_zero _)⟩

/-- After y rounds: the order that is built lies in block w.heap.size + 1, its slice is v. -/
def Building (w wx : World) (n y : Nat) (F : Nat → Nat) (v : Value) : Prop :=
  wx.cell? ⟨w.heap.size + 1, 0, none⟩ = some (.int .i64 (n : Int)) ∧ wx.cell? ⟨w.heap.size + 1, 1, none⟩ = some v ∧ wx.frozen? ⟨w.heap.size + 1, 1, none⟩ = false ∧
  wx.ownsRow (w.heap.size + 2) 3 1 v y (rowVals F y) ∧ Below (w.heap.size + 1) (w.alloc (.cells #[.int .i64 0, .slice none 0 0] 24)) wx
theorem Building.c0 {w wx : World} {n y : Nat} {F : Nat → Nat} {v : Value} (h : Building w wx n y F v) : wx.cell? ⟨w.heap.size + 1, 0, none⟩ = some (.int .i64 (n : Int)) := h.1
theorem Building.c1 {w wx : World} {n y : Nat} {F : Nat → Nat} {v : Value} (h : Building w wx n y F v) : wx.cell? ⟨w.heap.size + 1, 1, none⟩ = some v := h.2.1
theorem Building.f1 {w wx : World} {n y : Nat} {F : Nat → Nat} {v : Value} (h : Building w wx n y F v) : wx.frozen? ⟨w.heap.size + 1, 1, none⟩ = false := h.2.2.1
theorem Building.own {w wx : World} {n y : Nat} {F : Nat → Nat} {v : Value} (h : Building w wx n y F v) : wx.ownsRow (w.heap.size + 2) 3 1 v y (rowVals F y) := h.2.2.2.1
theorem Building.below {w wx : World} {n y : Nat} {F : Nat → Nat} {v : Value} (h : Building w wx n y F v) : Below (w.heap.size + 1) (w.alloc (.cells #[.int .i64 0, .slice none 0 0] 24)) wx := h.2.2.2.2
theorem Building.size {w wx : World} {n y : Nat} {F : Nat → Nat} {v : Value} (h : Building w wx n y F v) : w.heap.size + 2 ≤ wx.heap.size := World.block_lt_of_cell? _ _ h.1
theorem Building.start (w : World) (n : Nat) (F : Nat → Nat) : Building w ((w.alloc (.cells #[.int .i64 0, .slice none 0 0] 24)).alloc (.cells #[.int .i64 (n : Int), .slice none 0 0] 24)) n 0 F (.slice none 0 0) :=
  ⟨by simp, by simp, (World.frozen?_alloc_at _ _ _ _ (by simp)), World.ownsRow_nil _ _ _ _, (Below.refl _ _).alloc (by simp) _⟩
theorem Building.step {w wx w' : World} {n y : Nat} {F : Nat → Nat} {v : Value} (h : Building w wx n y F v) (hb : Below wx.heap.size wx w') : Building w w' n y F v := by
  have hs := h.size
  obtain ⟨h1, h2, h3, h4, h5⟩ := h
  exact ⟨(hb.cell (p := ⟨w.heap.size + 1, 0, none⟩) hs).trans h1, (hb.cell (p := ⟨w.heap.size + 1, 1, none⟩) hs).trans h2, (hb.frozen (p := ⟨w.heap.size + 1, 1, none⟩) hs).trans h3, owns_below h4 hb, h5.trans (hb.mono (by omega))⟩
/-- What append leaves, ahead of the store. -/
theorem Building.grown {w wx w1 : World} {o : Obj} {n y S : Nat} {F : Nat → Nat} {v v' : Value} (h : Building w wx n y F v) (hF : F y = S)
    (hown : w1.ownsRow (w.heap.size + 2) 3 1 v' (y + 1) (rowVals F y ++ [.int .i64 (S : Nat)])) (hg : (wx.alloc o).grownBy w1 v.ownBlock) :
    w1.cell? ⟨w.heap.size + 1, 1, none⟩ = some v ∧ w1.frozen? ⟨w.heap.size + 1, 1, none⟩ = false ∧ Building w (w1.setCell ⟨w.heap.size + 1, 1, none⟩ v') n (y + 1) F v' := by
  have hs := h.size
  have h' := h.step ((Below.refl _ _).alloc (Nat.le_refl _) o)
  have hb : Below (w.heap.size + 2) (wx.alloc o) w1 := (Below.refl _ _).grown hg (by simp; omega) (owns_block h.own)
  obtain ⟨h1, h2, h3, h4, h5⟩ := h'
  have c0 := (hb.cell (p := ⟨w.heap.size + 1, 0, none⟩) (by simp)).trans h1
  have c1 := (hb.cell (p := ⟨w.heap.size + 1, 1, none⟩) (by simp)).trans h2
  have f1 := (hb.frozen (p := ⟨w.heap.size + 1, 1, none⟩) (by simp)).trans h3
  refine ⟨c1, f1, ?_, World.cell?_setCell_same _ _ _ c1, by rw [World.frozen?_setCell]; exact f1, ?_, ?_⟩
  · rw [World.cell?_setCell_other _ _ _ _ (fun e => by injection e with _ e2; cases e2)]; exact c0
  · rw [rowVals_succ, hF]; exact ownsRow_setCell_below hown (by simp) _
  · exact (h5.trans (hb.mono (by omega))).setCell (p := ⟨w.heap.size + 1, 1, none⟩) (Nat.le_refl _) _
/-- A slice of n elements lies in a block from B on. -/
def Fresh (B : Nat) (a : Option Addr) (n : Nat) : Prop := 0 < n → ∃ b off, a = some ⟨b, off, none⟩ ∧ B ≤ b
theorem Fresh.mono {B B' : Nat} {a : Option Addr} {n : Nat} (h : Fresh B a n) (hb : B' ≤ B) : Fresh B' a n := fun hn => by
  obtain ⟨b, off, e, hl⟩ := h hn
  exact ⟨b, off, e, by omega⟩
theorem row_set2 {X : World} {B : Nat} {a : Option Addr} {n : Nat} {f : Nat → Int} {u v : Value} (h : Row X a n f) (hb : Fresh (B + 1) a n) :
    Row ((X.setCell ⟨B, 0, none⟩ u).setCell ⟨B, 1, none⟩ v) a n f := by
  intro k hk
  obtain ⟨b, off, rfl, hc⟩ := h k hk
  obtain ⟨b', off', e, hlt⟩ := hb (by omega)
  simp at e
  obtain ⟨rfl, rfl⟩ := e
  refine ⟨b, off, rfl, ?_⟩
  rw [World.cell?_setCell_other _ _ _ _ (fun e => by injection e with e1; omega), World.cell?_setCell_other _ _ _ _ (fun e => by injection e with e1; omega)]
  exact hc
/-- An order's box at block B that holds the zero order. -/
def ZBox (X : World) (B : Nat) : Prop := X.cell? ⟨B, 0, none⟩ = some (.int .i64 0) ∧ X.cell? ⟨B, 1, none⟩ = some (.slice none 0 0) ∧ X.frozen? ⟨B, 0, none⟩ = false ∧ X.frozen? ⟨B, 1, none⟩ = false
theorem ZBox.new (w : World) : ZBox (w.alloc (.cells #[.int .i64 0, .slice none 0 0] 24)) w.heap.size :=
  ⟨by simp, by simp, World.frozen?_alloc_at _ _ _ _ rfl, World.frozen?_alloc_at _ _ _ _ rfl⟩
theorem ZBox.step {X X' : World} {B : Nat} (h : ZBox X B) (hb : Below X.heap.size X X') : ZBox X' B := by
  have hlt : B < X.heap.size := World.block_lt_of_cell? _ _ h.1
  obtain ⟨h1, h2, h3, h4⟩ := h
  exact ⟨(hb.cell (p := ⟨B, 0, none⟩) hlt).trans h1, (hb.cell (p := ⟨B, 1, none⟩) hlt).trans h2, (hb.frozen (p := ⟨B, 0, none⟩) hlt).trans h3, (hb.frozen (p := ⟨B, 1, none⟩) hlt).trans h4⟩
theorem set2B {w X : World} {B : Nat} {u v : Value} (h : Below w.heap.size w X) (hB : w.heap.size ≤ B) : Below w.heap.size w ((X.setCell ⟨B, 0, none⟩ u).setCell ⟨B, 1, none⟩ v) :=
  (h.setCell (p := ⟨B, 0, none⟩) hB _).setCell (p := ⟨B, 1, none⟩) hB _
def OrderPost (w : World) (n : Nat) (F : Nat → Nat) (e : Ending) (w' : World) : Prop := ∃ a cap, e = .returned (.agg #[.int .i64 (n : Int), .slice a n cap]) ∧ Row w' a n (fun k => (F k : Nat)) ∧ Fresh w.heap.size a n
end Go.Proofs.YtklfnghgpmjnmaaDoor
