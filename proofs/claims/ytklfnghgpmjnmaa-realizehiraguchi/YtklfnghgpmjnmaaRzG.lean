/-
  Which pairs the reference's HasTurned lays, and the matrix that it lays them in: plain facts. No condition.
-/
import Derived.Test.YtklfnghgpmjnmaaRzU
namespace Go.Proofs.Ytklfnghgpmjnmaa
open Go.RowKit

def upd2 (T : Nat → Nat → Bool) (a c : Nat) (i j : Nat) : Bool := if i = a ∧ j = c then true else T i j
theorem upd2_same (T : Nat → Nat → Bool) (a c : Nat) : upd2 T a c a c = true := by simp [upd2]
theorem upd2_other {T : Nat → Nat → Bool} {a c i j : Nat} (h : ¬ (i = a ∧ j = c)) : upd2 T a c i j = T i j := if_neg h
theorem upd2_mono {T : Nat → Nat → Bool} {a c i j : Nat} (h : T i j = true) : upd2 T a c i j = true := by
  unfold upd2; split
  · rfl
  · exact h
/-- How many of a row's first k are not in; how many of the first m rows'. -/
def offRow (T : Nat → Nat → Bool) (a : Nat) : Nat → Nat
  | 0 => 0
  | k + 1 => offRow T a k + (if T a k = true then 0 else 1)
def offAll (T : Nat → Nat → Bool) (n : Nat) : Nat → Nat
  | 0 => 0
  | m + 1 => offAll T n m + offRow T m n
theorem offRow_other {T : Nat → Nat → Bool} {a c i : Nat} (h : i ≠ a) : ∀ k, offRow (upd2 T a c) i k = offRow T i k
  | 0 => rfl
  | k + 1 => by simp only [offRow, offRow_other h k, upd2_other (T := T) (a := a) (c := c) (i := i) (j := k) (fun e => h e.1)]
theorem offRow_same {T : Nat → Nat → Bool} {a c : Nat} (h : T a c = false) : ∀ k, offRow (upd2 T a c) a k + (if c < k then 1 else 0) = offRow T a k
  | 0 => rfl
  | k + 1 => by
    have ih := offRow_same h k
    by_cases e : k = c
    · subst e
      rw [if_neg (Nat.lt_irrefl _)] at ih
      simp only [offRow, upd2_same, h]
      rw [if_pos (Nat.lt_succ_self _)]
      simp
      omega
    · simp only [offRow, upd2_other (T := T) (a := a) (c := c) (i := a) (j := k) (fun x => e x.2)]
      by_cases hck : c < k
      · rw [if_pos hck] at ih; rw [if_pos (show c < k + 1 by omega)]; omega
      · rw [if_neg hck] at ih; rw [if_neg (show ¬ c < k + 1 by omega)]; omega
/-- A pair that is laid newly: one less is out. -/
theorem offAll_step {T : Nat → Nat → Bool} {n a c : Nat} (hc : c < n) (h : T a c = false) : ∀ m, offAll (upd2 T a c) n m + (if a < m then 1 else 0) = offAll T n m
  | 0 => rfl
  | m + 1 => by
    have ih := offAll_step hc h m
    by_cases e : m = a
    · subst e
      have hr := offRow_same h n
      rw [if_pos hc] at hr
      rw [if_neg (Nat.lt_irrefl _)] at ih
      simp only [offAll]
      rw [if_pos (Nat.lt_succ_self _)]
      omega
    · simp only [offAll, offRow_other e n]
      by_cases ham : a < m
      · rw [if_pos ham] at ih; rw [if_pos (show a < m + 1 by omega)]; omega
      · rw [if_neg ham] at ih; rw [if_neg (show ¬ a < m + 1 by omega)]; omega


/-- A matrix of bools: block B holds the rows, block r i the i-th row's cells; k rows are laid. -/
structure MatB (w : World) (B : Nat) (r : Nat → Nat) (n k : Nat) (T : Nat → Nat → Bool) : Prop where
  rows : ∀ i, i < k → w.cell? ⟨B, i, none⟩ = some (.slice (some ⟨r i, 0, none⟩) n n)
  cells : ∀ i j, i < k → j < n → w.cell? ⟨r i, j, none⟩ = some (.bool (T i j)) ∧ w.frozen? ⟨r i, j, none⟩ = false
  up : ∀ i, i < k → B < r i
  inj : ∀ i j, i < k → j < k → r i = r j → i = j
theorem MatB.set {w : World} {B : Nat} {r : Nat → Nat} {n k : Nat} {T : Nat → Nat → Bool} (h : MatB w B r n k T) {a c : Nat} (ha : a < k) (hc : c < n) : MatB (w.setCell ⟨r a, c, none⟩ (.bool true)) B r n k (upd2 T a c) where
  rows := fun i hi => by rw [World.cell?_setCell_other _ _ _ _ (fun e => by injection e with e1; have := h.up a ha; omega)]; exact h.rows i hi
  cells := fun i j hi hj => by
    refine ⟨?_, by rw [World.frozen?_setCell]; exact (h.cells i j hi hj).2⟩
    by_cases e : i = a ∧ j = c
    · obtain ⟨rfl, rfl⟩ := e
      rw [upd2_same]
      exact World.cell?_setCell_same _ _ _ (h.cells i j hi hj).1
    · rw [upd2_other e, World.cell?_setCell_other _ _ _ _ (fun x => by injection x with x1 x2; exact e ⟨(h.inj a i ha hi x1).symm, x2.symm⟩)]
      exact (h.cells i j hi hj).1
  up := h.up
  inj := h.inj
theorem MatB.step {w w' : World} {B : Nat} {r : Nat → Nat} {n k : Nat} {T : Nat → Nat → Bool} (h : MatB w B r n k T) (hb : Below w.heap.size w w') : MatB w' B r n k T where
  rows := fun i hi => (hb.cell (World.block_lt_of_cell? _ _ (h.rows i hi))).trans (h.rows i hi)
  cells := fun i j hi hj => by
    obtain ⟨h1, h2⟩ := h.cells i j hi hj
    exact ⟨(hb.cell (World.block_lt_of_cell? _ _ h1)).trans h1, (hb.frozen (World.block_lt_of_cell? _ _ h1)).trans h2⟩
  up := h.up
  inj := h.inj
/-- One row more. -/
theorem MatB.row {w wm : World} {B R : Nat} {r : Nat → Nat} {n k : Nat} (h : MatB w B r n k (fun _ _ => false)) (hb : Below w.heap.size w wm) (hR : R = w.heap.size) (hB : B < R) (hlt : ∀ j, j < k → r j < w.heap.size)
    (hnew : ∀ j, j < n → wm.cell? ⟨R, j, none⟩ = some (.bool false) ∧ wm.frozen? ⟨R, j, none⟩ = false) (hc : wm.cell? ⟨B, k, none⟩ = some (.slice none 0 0)) :
    MatB (wm.setCell ⟨B, k, none⟩ (.slice (some ⟨R, 0, none⟩) n n)) B (fun j => if j = k then R else r j) n (k + 1) (fun _ _ => false) where
  rows := fun i hi => by
    by_cases e : i = k
    · subst e; rw [if_pos rfl]; exact World.cell?_setCell_same _ _ _ hc
    · rw [if_neg e, World.cell?_setCell_other _ _ _ _ (fun x => by injection x with _ x2; exact e x2.symm)]
      exact (h.step hb).rows i (by omega)
  cells := fun i j hi hj => by
    rw [World.frozen?_setCell]
    by_cases e : i = k
    · subst e; rw [if_pos rfl, World.cell?_setCell_other _ _ _ _ (fun x => by injection x with x1; omega)]; exact hnew j hj
    · rw [if_neg e, World.cell?_setCell_other _ _ _ _ (fun x => by injection x with x1; have := h.up i (by omega); omega)]
      exact (h.step hb).cells i j (by omega) hj
  up := fun i hi => by
    by_cases e : i = k
    · rw [if_pos e]; omega
    · rw [if_neg e]; exact h.up i (by omega)
  inj := fun i j hi hj => by
    by_cases e : i = k <;> by_cases e' : j = k
    · intro _; omega
    · rw [if_pos e, if_neg e']; intro x; have := hlt j (by omega); omega
    · rw [if_neg e, if_pos e']; intro x; have := hlt i (by omega); omega
    · rw [if_neg e, if_neg e']; exact h.inj i j (by omega) (by omega)

/-- While what follows from a pair is laid. -/
structure Mdl (n : Nat) (ap : Nat → Nat → Bool) (L : Nat → Nat → Bool) (a b : Nat) (T : Nat → Nat → Bool) : Prop where
  old : ∀ x y, L x y = true → T x y = true
  new : T a b = true
  snd : ∀ x y, T x y = true → L x y = true ∨ Cls n ap a b x y
/-- What follows from the triples ahead of one is laid. -/
def PartH (n : Nat) (ap : Nat → Nat → Bool) (T : Nat → Nat → Bool) (x y z : Nat) : Prop :=
  ∀ x' y' z', x' < n → y' < n → z' < n → (x' < x ∨ (x' = x ∧ (y' < y ∨ (y' = y ∧ z' < z)))) → T x' y' = true → z' ≠ x' → z' ≠ y' →
    (ap x' z' = true → ap y' z' = false → T x' z' = true) ∧ (ap z' y' = true → ap x' z' = false → T z' y' = true)
def HI (n : Nat) (ap : Nat → Nat → Bool) (L : Nat → Nat → Bool) (a b D x y z : Nat) (ag : Bool) (T : Nat → Nat → Bool) : Prop :=
  offAll T n n + (if ag = true then 1 else 0) ≤ D ∧ Mdl n ap L a b T ∧ (ag = false → PartH n ap T x y z)
section
variable {n : Nat} {ap : Nat → Nat → Bool} {L : Nat → Nat → Bool} {a b D x y z : Nat} {ag : Bool} {T : Nat → Nat → Bool}
theorem Mdl.start : Mdl n ap L a b (upd2 L a b) where
  old := fun _ _ h => upd2_mono h
  new := upd2_same _ _ _
  snd := fun x y h => by
    by_cases e : x = a ∧ y = b
    · obtain ⟨rfl, rfl⟩ := e; exact .inr (Cls.base _ _)
    · rw [upd2_other e] at h; exact .inl h
theorem Mdl.put (h : Mdl n ap L a b T) (hL : Lai n ap (fun x y => L x y = true)) {x y x' y' : Nat} (ht : T x y = true) (hs : stp n ap x y x' y') : Mdl n ap L a b (upd2 T x' y') where
  old := fun p q hl => upd2_mono (h.old p q hl)
  new := upd2_mono h.new
  snd := fun p q hp => by
    by_cases e : p = x' ∧ q = y'
    · obtain ⟨rfl, rfl⟩ := e
      rcases h.snd x y ht with h1 | h1
      · exact .inl (hL.clo _ _ _ _ h1 hs)
      · exact .inr (h1.step hs)
    · rw [upd2_other e] at hp; exact h.snd p q hp
/-- One step, nothing to lay. -/
theorem HI.zup (h : HI n ap L a b D x y z ag T) (h1 : z ≠ x → z ≠ y → ap x z = true → ap y z = false → T x z = true) (h2 : z ≠ x → z ≠ y → ap z y = true → ap x z = false → T z y = true) : HI n ap L a b D x y (z + 1) ag T :=
  ⟨h.1, h.2.1, fun e x' y' z' hx hy hz hl ht e1 e2 => by
    by_cases q : x' = x ∧ y' = y ∧ z' = z
    · obtain ⟨rfl, rfl, rfl⟩ := q; exact ⟨h1 e1 e2, h2 e1 e2⟩
    · exact h.2.2 e x' y' z' hx hy hz (by omega) ht e1 e2⟩
theorem HI.yout (h : HI n ap L a b D x y z ag T) (ho : n ≤ z ∨ T x y = false) : HI n ap L a b D x (y + 1) 0 ag T :=
  ⟨h.1, h.2.1, fun e x' y' z' hx hy hz hl ht e1 e2 => by
    by_cases q : x' = x ∧ y' = y ∧ z ≤ z'
    · obtain ⟨rfl, rfl, q⟩ := q
      rcases ho with ho | ho
      · omega
      · rw [ho] at ht; cases ht
    · exact h.2.2 e x' y' z' hx hy hz (by omega) ht e1 e2⟩
theorem HI.xout (h : HI n ap L a b D x n 0 ag T) : HI n ap L a b D (x + 1) 0 0 ag T :=
  ⟨h.1, h.2.1, fun e x' y' z' hx hy hz hl ht e1 e2 => h.2.2 e x' y' z' hx hy hz (by omega) ht e1 e2⟩
theorem HI.lay (h : HI n ap L a b D x y z ag T) (hL : Lai n ap (fun x y => L x y = true)) {x' y' x2 y2 z2 : Nat} (hx : x' < n) (hy : y' < n) (ht : T x y = true) (hs : stp n ap x y x' y') (hf : T x' y' = false) : HI n ap L a b D x2 y2 z2 true (upd2 T x' y') := by
  refine ⟨?_, h.2.1.put hL ht hs, fun e => by cases e⟩
  have := offAll_step hy hf n
  rw [if_pos hx] at this
  have h1 := h.1
  simp only [if_true]
  cases ag <;> simp at h1 <;> omega
theorem HI.start : HI n ap L a b (offAll (upd2 L a b) n n + 1) x y z true (upd2 L a b) :=
  ⟨by simp, Mdl.start, fun e => by cases e⟩
theorem HI.again (h : HI n ap L a b D x y z true T) : offAll T n n + 1 ≤ D ∧ HI n ap L a b (D - 1) 0 0 0 false T := by
  have h1 := h.1
  simp only [if_true] at h1
  refine ⟨h1, by simp; omega, h.2.1, fun _ x' y' z' _ _ _ hl => by omega⟩
/-- All that follows is laid. -/
theorem HI.done (h : HI n ap L a b D n 0 0 false T) (hA : Apt n ap) (hL : Lai n ap (fun x y => L x y = true)) (hab : ap a b = true) (h1 : L a b = false) (h2 : L b a = false) (hbe : ∀ x y, x < a → ap x y = true → L x y = true ∨ L y x = true) :
    Lai n ap (fun x y => T x y = true) ∧ T a b = true ∧ ∀ x y, L x y = true → T x y = true := by
  have hp := hL.pair hA hab (by rw [h1]; simp) (by rw [h2]; simp) hbe
  have e : (fun x y => T x y = true) = (fun x y => L x y = true ∨ Cls n ap a b x y) := by
    funext x y
    refine propext ⟨h.2.1.snd x y, fun hc => ?_⟩
    rcases hc with hc | hc
    · exact h.2.1.old x y hc
    · refine (hc (fun x y => (x < n ∧ y < n) ∧ T x y = true) ⟨hA.inn _ _ hab, h.2.1.new⟩ ?_).2
      rintro x y x' y' ⟨⟨hx, hy⟩, ht⟩ hs
      have hP := h.2.2 rfl
      rcases hs with ⟨rfl, q1, q2, q3, q4, q5⟩ | ⟨rfl, q1, q2, q3, q4, q5⟩
      · exact ⟨⟨hx, q1⟩, (hP x' y y' hx hy q1 (by omega) ht q2 q3).1 q4 q5⟩
      · exact ⟨⟨q1, hy⟩, (hP x y' x' hx hy q1 (by omega) ht q2 q3).2 q4 q5⟩
  rw [e]
  exact ⟨hp, h.2.1.new, h.2.1.old⟩
/-- All pairs ahead of one are laid one way at least. -/
def Lain (n : Nat) (ap : Nat → Nat → Bool) (T : Nat → Nat → Bool) (a b : Nat) : Prop :=
  Lai n ap (fun x y => T x y = true) ∧ ∀ x y, (x < a ∨ (x = a ∧ y < b)) → ap x y = true → T x y = true ∨ T y x = true
theorem lain_start : Lain n ap (fun _ _ => false) 0 0 := by
  refine ⟨?_, fun x y h => by omega⟩
  have e : (fun x y : Nat => (false : Bool) = true) = fun _ _ : Nat => False := by funext x y; simp
  rw [e]; exact lai_none
theorem Lain.skip (h : Lain n ap T a b) (hs : ap a b = false ∨ T a b = true ∨ T b a = true) : Lain n ap T a (b + 1) :=
  ⟨h.1, fun x y hl hxy => by
    by_cases e : x = a ∧ y = b
    · obtain ⟨rfl, rfl⟩ := e
      rcases hs with hs | hs
      · rw [hs] at hxy; cases hxy
      · exact hs
    · exact h.2 x y (by omega) hxy⟩
theorem Lain.next (h : Lain n ap T a n) (hA : Apt n ap) : Lain n ap T (a + 1) 0 :=
  ⟨h.1, fun x y hl hxy => h.2 x y (by have := (hA.inn x y hxy).2; omega) hxy⟩
theorem Lain.pair (h : Lain n ap L a b) (hA : Apt n ap) (hab : ap a b = true) (h1 : L a b = false) (h2 : L b a = false) (hd : HI n ap L a b D n 0 0 false T) : Lain n ap T a (b + 1) := by
  obtain ⟨k1, k2, k3⟩ := hd.done hA h.1 hab h1 h2 (fun x y hx hxy => h.2 x y (.inl hx) hxy)
  refine ⟨k1, fun x y hl hxy => ?_⟩
  by_cases e : x = a ∧ y = b
  · obtain ⟨rfl, rfl⟩ := e; exact .inl k2
  · rcases h.2 x y (by omega) hxy with q | q
    · exact .inl (k3 _ _ q)
    · exact .inr (k3 _ _ q)
end
theorem Lain.yes {n : Nat} {lt : Nat → Nat → Bool} {T : Nat → Nat → Bool} (hs : Srd n lt) (h : Lain n (apt lt n) T n 0) (hf : ∀ x y, x < n → y < n → T x y = true → T y x = false) : RzS (· < n) lt 2 := by
  have hA : Apt n (apt lt n) := apt_apt
  refine hs.two_of (h.1.cnj hA (fun p q hpq => h.2 p q (.inl (hA.inn p q hpq).1) hpq) fun x y hxy hyx => ?_)
  obtain ⟨q1, q2⟩ := hA.inn _ _ (h.1.isA x y hxy)
  rw [hf x y q1 q2 hxy] at hyx; cases hyx
theorem Lain.no {n : Nat} {lt : Nat → Nat → Bool} {T : Nat → Nat → Bool} (hs : Srd n lt) (h : Lain n (apt lt n) T n 0) {x y : Nat} (h1 : T x y = true) (h2 : T y x = true) : ¬ RzS (· < n) lt 2 := fun h2' => by
  obtain ⟨Q, hQ⟩ := hs.cnj_of h2'
  exact hQ.free apt_apt h.1 h1 h2
end Go.Proofs.Ytklfnghgpmjnmaa
