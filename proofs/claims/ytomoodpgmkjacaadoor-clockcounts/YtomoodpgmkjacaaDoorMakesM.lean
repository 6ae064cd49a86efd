/-
  A relation that holds the pairs, lies within their closure and is transitive is their closure; how many pairs are not in it yet. Plain facts: no Go text here. Conditions: as each theorem says.
-/
import Derived.Test.YtomoodpgmkjacaaDoorClosure
namespace Go.Proofs.YtomoodpgmkjacaaDoor
open Go.RowKit

def Tr (n : Nat) (T : Nat → Nat → Bool) : Prop := ∀ a b c, a < n → b < n → c < n → T a b = true → T b c = true → T a c = true
/-- T holds R and lies within R's closure. -/
def Mid (n : Nat) (R : Nat → Nat → Prop) (T : Nat → Nat → Bool) : Prop := ∀ a b, a < n → b < n → (R a b → T a b = true) ∧ (T a b = true → Way R n a b)
def upd2 (T : Nat → Nat → Bool) (a c : Nat) (i j : Nat) : Bool := if i = a ∧ j = c then true else T i j
theorem upd2_same (T : Nat → Nat → Bool) (a c : Nat) : upd2 T a c a c = true := by simp [upd2]
theorem upd2_other {T : Nat → Nat → Bool} {a c i j : Nat} (h : ¬ (i = a ∧ j = c)) : upd2 T a c i j = T i j := if_neg h
theorem upd2_mono {T : Nat → Nat → Bool} {a c i j : Nat} (h : T i j = true) : upd2 T a c i j = true := by
  unfold upd2; split
  · rfl
  · exact h
theorem Mid.step {n : Nat} {R : Nat → Nat → Prop} {T : Nat → Nat → Bool} (h : Mid n R T) {a b c : Nat} (ha : a < n) (hb : b < n) (hc : c < n) (h1 : T a b = true) (h2 : T b c = true) : Mid n R (upd2 T a c) := fun i j hi hj => by
  refine ⟨fun hr => upd2_mono ((h i j hi hj).1 hr), fun ht => ?_⟩
  by_cases e : i = a ∧ j = c
  · obtain ⟨rfl, rfl⟩ := e
    exact Way.trans n i b j hb ((h i b hi hb).2 h1) ((h b j hb hj).2 h2)
  · rw [upd2_other e] at ht; exact (h i j hi hj).2 ht
theorem Mid.way {n : Nat} {R : Nat → Nat → Prop} {T : Nat → Nat → Bool} (h : Mid n R T) (hR : ∀ a b, R a b → a < n ∧ b < n) (ht : Tr n T) {a b : Nat} (ha : a < n) (hb : b < n) : T a b = true ↔ Way R n a b := by
  refine ⟨(h a b ha hb).2, fun hw => ?_⟩
  exact (Way.least (S := fun a b => (a < n ∧ b < n) ∧ T a b = true) (n := n) (fun a b hr => ⟨hR a b hr, (h a b (hR a b hr).1 (hR a b hr).2).1 hr⟩) (fun a b c hb h1 h2 => ⟨⟨h1.1.1, h2.1.2⟩, ht a b c h1.1.1 hb h2.1.2 h1.2 h2.2⟩) n (Nat.le_refl _) a b hw).2

/-- How many of a row's first k are not in; how many of the first m rows'. -/
def offRow (T : Nat → Nat → Bool) (a : Nat) : Nat → Nat
  | 0 => 0
  | k + 1 => offRow T a k + (if T a k = true then 0 else 1)
def offAll (T : Nat → Nat → Bool) (n : Nat) : Nat → Nat
  | 0 => 0
  | m + 1 => offAll T n m + offRow T m n
theorem offRow_other {T : Nat → Nat → Bool} {a c i : Nat} (h : i ≠ a) : ∀ k, offRow (upd2 T a c) i k = offRow T i k
  | 0 => rfl
  | k + 1 => by simp only [offRow, offRow_other h k, upd2_other (T := T) (a := a) (c := c) (i := i) (j := k) (fun e => h e.1)]
theorem offRow_same {T : Nat → Nat → Bool} {a c : Nat} (h : T a c = false) : ∀ k, offRow (upd2 T a c) a k + (if c < k then 1 else 0) = offRow T a k
  | 0 => rfl
  | k + 1 => by
    have ih := offRow_same h k
    by_cases e : k = c
    · subst e
      rw [if_neg (Nat.lt_irrefl _)] at ih
      simp only [offRow, upd2_same, h]
      rw [if_pos (Nat.lt_succ_self _)]
      simp
      omega
    · simp only [offRow, upd2_other (T := T) (a := a) (c := c) (i := a) (j := k) (fun x => e x.2)]
      by_cases hck : c < k
      · rw [if_pos hck] at ih; rw [if_pos (show c < k + 1 by omega)]; omega
      · rw [if_neg hck] at ih; rw [if_neg (show ¬ c < k + 1 by omega)]; omega
/-- A pair that is laid newly: one less is out. -/
theorem offAll_step {T : Nat → Nat → Bool} {n a c : Nat} (hc : c < n) (h : T a c = false) : ∀ m, offAll (upd2 T a c) n m + (if a < m then 1 else 0) = offAll T n m
  | 0 => rfl
  | m + 1 => by
    have ih := offAll_step hc h m
    by_cases e : m = a
    · subst e
      have hr := offRow_same h n
      rw [if_pos hc] at hr
      rw [if_neg (Nat.lt_irrefl _)] at ih
      simp only [offAll]
      rw [if_pos (Nat.lt_succ_self _)]
      omega
    · simp only [offAll, offRow_other e n]
      by_cases ham : a < m
      · rw [if_pos ham] at ih; rw [if_pos (show a < m + 1 by omega)]; omega
      · rw [if_neg ham] at ih; rw [if_neg (show ¬ a < m + 1 by omega)]; omega

/-- A matrix of bools: the box X holds the slice of rows, block B the rows, block r i the i-th row's cells; k rows are laid. -/
structure Mat (w : World) (X B : Nat) (r : Nat → Nat) (n k : Nat) (T : Nat → Nat → Bool) : Prop where
  box : w.cell? ⟨X, 0, none⟩ = some (.slice (some ⟨B, 0, none⟩) n n)
  rows : ∀ i, i < k → w.cell? ⟨B, i, none⟩ = some (.slice (some ⟨r i, 0, none⟩) n n)
  cells : ∀ i j, i < k → j < n → w.cell? ⟨r i, j, none⟩ = some (.bool (T i j)) ∧ w.frozen? ⟨r i, j, none⟩ = false
  up : ∀ i, i < k → X ≠ r i ∧ B ≠ r i
  inj : ∀ i j, i < k → j < k → r i = r j → i = j
theorem Mat.set {w : World} {X B : Nat} {r : Nat → Nat} {n k : Nat} {T : Nat → Nat → Bool} (h : Mat w X B r n k T) {a c : Nat} (ha : a < k) (hc : c < n) : Mat (w.setCell ⟨r a, c, none⟩ (.bool true)) X B r n k (upd2 T a c) where
  box := by rw [World.cell?_setCell_other _ _ _ _ (fun e => by injection e with e1; exact (h.up a ha).1 e1.symm)]; exact h.box
  rows := fun i hi => by rw [World.cell?_setCell_other _ _ _ _ (fun e => by injection e with e1; exact (h.up a ha).2 e1.symm)]; exact h.rows i hi
  cells := fun i j hi hj => by
    refine ⟨?_, by rw [World.frozen?_setCell]; exact (h.cells i j hi hj).2⟩
    by_cases e : i = a ∧ j = c
    · obtain ⟨rfl, rfl⟩ := e
      rw [upd2_same]
      exact World.cell?_setCell_same _ _ _ (h.cells i j hi hj).1
    · rw [upd2_other e, World.cell?_setCell_other _ _ _ _ (fun x => by injection x with x1 x2; exact e ⟨(h.inj a i ha hi x1).symm, x2.symm⟩)]
      exact (h.cells i j hi hj).1
  up := h.up
  inj := h.inj
theorem Mat.step {w w' : World} {X B : Nat} {r : Nat → Nat} {n k : Nat} {T : Nat → Nat → Bool} (h : Mat w X B r n k T) (hb : Below w.heap.size w w') : Mat w' X B r n k T where
  box := (hb.cell (World.block_lt_of_cell? _ _ h.box)).trans h.box
  rows := fun i hi => (hb.cell (World.block_lt_of_cell? _ _ (h.rows i hi))).trans (h.rows i hi)
  cells := fun i j hi hj => by
    obtain ⟨h1, h2⟩ := h.cells i j hi hj
    exact ⟨(hb.cell (World.block_lt_of_cell? _ _ h1)).trans h1, (hb.frozen (World.block_lt_of_cell? _ _ h1)).trans h2⟩
  up := h.up
  inj := h.inj
end Go.Proofs.YtomoodpgmkjacaaDoor
