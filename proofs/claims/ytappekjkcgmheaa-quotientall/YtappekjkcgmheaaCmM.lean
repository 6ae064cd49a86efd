/-
  Rows of numbers in a row of the call's own. Conditions: as each theorem says.
-/
import Derived.Test.YtappekjkcgmheaaPrP
import Derived.Test.YtappekjkcgmheaaLRows
import Derived.Deep.RegionHeld3
import Derived.BigQuiet
namespace Go.Proofs.Ytappekjkcgmheaa
set_option maxRecDepth 100000
open Go.RowKit

/-- Rows of numbers in a row of the call's own: the first k of n are there. -/
structure CM (w : World) (B : Nat) (r : Nat → Nat) (n Wn k : Nat) (G : Nat → Nat → Nat) : Prop where
  cells : ∀ j, j < k → w.cell? ⟨B, j, none⟩ = some (.slice (some ⟨r j, 0, none⟩) Wn Wn)
  rest : ∀ j, k ≤ j → j < n → w.cell? ⟨B, j, none⟩ = some (.slice none 0 0)
  froz : ∀ j, j < n → w.frozen? ⟨B, j, none⟩ = false
  rows : ∀ j, j < k → Own w (r j) Wn (G j)
  lt : ∀ j, j < k → B < r j ∧ r j < w.heap.size
  inj : ∀ i j, i < k → j < k → i ≠ j → r i ≠ r j
  ltB : B < w.heap.size
theorem CM.step {w w' : World} {B : Nat} {r : Nat → Nat} {n Wn k : Nat} {G : Nat → Nat → Nat} (h : CM w B r n Wn k G) (hb : Below w.heap.size w w') : CM w' B r n Wn k G where
  cells j hj := (hb.cell (p := ⟨B, j, none⟩) h.ltB).trans (h.cells j hj)
  rest j h1 h2 := (hb.cell (p := ⟨B, j, none⟩) h.ltB).trans (h.rest j h1 h2)
  froz j hj := (hb.frozen (p := ⟨B, j, none⟩) h.ltB).trans (h.froz j hj)
  rows j hj := (h.rows j hj).keep hb (h.lt j hj).2
  lt j hj := ⟨(h.lt j hj).1, Nat.lt_of_lt_of_le (h.lt j hj).2 hb.size⟩
  inj := h.inj
  ltB := Nat.lt_of_lt_of_le h.ltB hb.size
theorem CM.row {w w2 : World} {B : Nat} {r : Nat → Nat} {n Wn k : Nat} {G : Nat → Nat → Nat} (h : CM w B r n Wn k G) (hb : Below w.heap.size w w2) (hk : k < n) (hO : Own w2 w.heap.size Wn (fun _ => 0)) (hlt : w.heap.size < w2.heap.size) :
    CM (w2.setCell ⟨B, k, none⟩ (.slice (some ⟨w.heap.size, 0, none⟩) Wn Wn)) B (fun j => if j = k then w.heap.size else r j) n Wn (k + 1) (fun j => if j = k then fun _ => 0 else G j) where
  cells j hj := by
    have h2 := h.step hb
    by_cases e : j = k
    · subst e; simp only [if_true]; exact World.cell?_setCell_same _ _ _ (h2.rest j (Nat.le_refl _) hk)
    · simp only [e, if_false]
      rw [World.cell?_setCell_other _ _ _ _ (fun x => by injection x with _ x2; omega)]
      exact h2.cells j (by omega)
  rest j h1 h3 := by
    rw [World.cell?_setCell_other _ _ _ _ (fun x => by injection x with _ x2; omega)]
    exact (h.step hb).rest j (by omega) h3
  froz j hj := by rw [World.frozen?_setCell]; exact (h.step hb).froz j hj
  rows j hj := by
    by_cases e : j = k
    · subst e
      simp only [if_true]
      intro q hq
      rw [World.frozen?_setCell, World.cell?_setCell_other _ _ _ _ (fun x => by injection x with x1; have := h.ltB; omega)]
      exact hO q hq
    · simp only [e, if_false]
      intro q hq
      have := (h.lt j (by omega)).1
      rw [World.frozen?_setCell, World.cell?_setCell_other _ _ _ _ (fun x => by injection x with x1; omega)]
      exact (h.step hb).rows j (by omega) q hq
  lt j hj := by
    simp only [World.size_setCell]
    by_cases e : j = k
    · simp only [e, if_true]; exact ⟨h.ltB, hlt⟩
    · simp only [e, if_false]; have := h.lt j (by omega); omega
  inj i j hi hj hij := by
    by_cases e1 : i = k
    · by_cases e2 : j = k
      · omega
      · simp only [e1, e2, if_true, if_false]; have := h.lt j (by omega); omega
    · by_cases e2 : j = k
      · simp only [e1, e2, if_true, if_false]; have := h.lt i (by omega); omega
      · simp only [e1, e2, if_false]; exact h.inj i j (by omega) (by omega) hij
  ltB := by simp only [World.size_setCell]; have := h.ltB; omega
theorem CM.set {w : World} {B : Nat} {r : Nat → Nat} {n Wn k : Nat} {G : Nat → Nat → Nat} (h : CM w B r n Wn k G) {i u x : Nat} (hi : i < k) (hu : u < Wn) :
    CM (w.setCell ⟨r i, u, none⟩ (.int .i64 (x : Nat))) B r n Wn k (fun j => if j = i then upd (G i) u x else G j) where
  cells j hj := by
    have := (h.lt i hi).1
    rw [World.cell?_setCell_other _ _ _ _ (fun y => by injection y with x1; omega)]; exact h.cells j hj
  rest j h1 h3 := by
    have := (h.lt i hi).1
    rw [World.cell?_setCell_other _ _ _ _ (fun y => by injection y with x1; omega)]; exact h.rest j h1 h3
  froz j hj := by rw [World.frozen?_setCell]; exact h.froz j hj
  rows j hj := by
    by_cases e : j = i
    · subst e; simp only [if_true]; exact (h.rows j hj).set u x hu
    · simp only [e, if_false]
      intro q hq
      have := h.inj i j hi hj (fun e2 => e e2.symm)
      rw [World.frozen?_setCell, World.cell?_setCell_other _ _ _ _ (fun y => by injection y with x1; omega)]
      exact h.rows j hj q hq
  lt j hj := by simp only [World.size_setCell]; exact h.lt j hj
  inj := h.inj
  ltB := by simp only [World.size_setCell]; exact h.ltB
theorem CM.congr {w : World} {B : Nat} {r : Nat → Nat} {n Wn k : Nat} {G H : Nat → Nat → Nat} (h : CM w B r n Wn k G) (he : ∀ j, j < k → G j = H j) : CM w B r n Wn k H :=
  ⟨h.cells, h.rest, h.froz, fun j hj => by rw [← he j hj]; exact h.rows j hj, h.lt, h.inj, h.ltB⟩
theorem CM.rr {w : World} {B : Nat} {r : Nat → Nat} {n Wn : Nat} {G : Nat → Nat → Nat} (h : CM w B r n Wn n G) (hW : Wn ≤ maxLen) : RR w (some ⟨B, 0, none⟩) n (fun j => (some ⟨r j, 0, none⟩, Wn, Wn)) (fun j u => (G j u : Nat)) := fun k hk =>
  ⟨B, 0, rfl, by rw [Nat.zero_add]; exact h.cells k hk, hW, (h.rows k hk).row⟩
theorem rowsl_made {w : World} {base b m : Nat} (h : w.ownsRow base 25 1 (.slice (some ⟨b, 0, none⟩) m m) m (madeCells (Value.slice none 0 0).cells (m * 1)).toList) : ∀ j, j < m → w.cell? ⟨b, j, none⟩ = some (.slice none 0 0) ∧ w.frozen? ⟨b, j, none⟩ = false := fun k hk => by
  refine ⟨?_, h.frozenAt k⟩
  rw [h.cellAt k (by omega)]
  have e : (Value.slice none 0 0).cells = #[Value.slice none 0 0] := rfl
  rw [e, toList_madeCells_one]
  simp [hk]
theorem Try.infoL : (Try.prog.info? 25).map (fun i => (i.zero, i.size, i.bytes)) = some (some (.slice none 0 0), 1, 24) := by kernel_rfl
end Go.Proofs.Ytappekjkcgmheaa
