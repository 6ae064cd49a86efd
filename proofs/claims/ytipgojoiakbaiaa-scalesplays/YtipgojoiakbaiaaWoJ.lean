/-
  Rows, and what is known of them: a point that stands ahead; what is told at the end. Plain facts: no Go text here. Conditions: at most five points.
-/
import Derived.Test.YtipgojoiakbaiaaWoM
import Derived.Test.YtipgojoiakbaiaaRankM
import Derived.Test.YtipgojoiakbaiaaMSize
namespace Go.Proofs.Ytipgojoiakbaiaa
open Go.RowKit

/-- x stands in a row at a place up to which y does not. -/
def Ahd (f : Nat → Int) (n : Nat) (x y : Nat) : Prop := ∃ i, i < n ∧ f i = (x : Int) ∧ ∀ j, j ≤ i → f j ≠ (y : Int)
theorem sB_bit {u : Nat → Nat} {n : Nat} {f : Nat → Int} : ∀ i, RowTo u n f i → ∀ z, (sB (nat f) i).testBit z = true ↔ ∃ j, j < i ∧ nat f j = z
  | 0, _, z => by simp [sB, sumTo]
  | i + 1, h, z => by
    have hm := (h i (by omega)).2.2
    rw [sB_succ, add_bit (may_out hm), Bool.or_eq_true, sB_bit i (h.less (by omega)) z, decide_eq_true_eq]
    constructor
    · rintro (⟨j, hj, e⟩ | e)
      · exact ⟨j, by omega, e⟩
      · exact ⟨i, by omega, e⟩
    · rintro ⟨j, hj, e⟩
      by_cases hji : j = i
      · subst hji; exact .inr e
      · exact .inl ⟨j, by omega, e⟩
theorem row_lt {u : Nat → Nat} {n : Nat} {f : Nat → Int} (h : RowTo u n f n) {j : Nat} (hj : j < n) : nat f j < n ∧ f j = (nat f j : Nat) := by
  obtain ⟨h0, h1, _⟩ := h j hj
  exact ⟨nat_lt h0 h1, nat_eq h0⟩
theorem row_inj {u : Nat → Nat} {n : Nat} {f : Nat → Int} (h : RowTo u n f n) {i j : Nat} (hi : i < n) (hj : j < n) (e : nat f i = nat f j) : i = j := by
  have aux : ∀ i j, i < j → j < n → nat f i ≠ nat f j := fun i j hij hj e => by
    have hm := may_out (h j hj).2.2
    rw [Bool.eq_false_iff] at hm
    exact hm ((sB_bit j (h.less (by omega)) _).2 ⟨i, hij, e⟩)
  rcases Nat.lt_trichotomy i j with h1 | h1 | h1
  · exact absurd e (aux i j h1 hj)
  · exact h1
  · exact absurd e.symm (aux j i h1 hi)
theorem row_all {u : Nat → Nat} {n : Nat} {f : Nat → Int} (h : RowTo u n f n) {z : Nat} (hz : z < n) : ∃ j, j < n ∧ nat f j = z := by
  obtain ⟨h1, h2⟩ := RowTo.set n h
  have h3 : sB (nat f) n = pw n - 1 := (miss_zero_iff h1).1 (by omega)
  exact (sB_bit n h z).1 (by rw [h3]; exact all_bit hz)
theorem may_set {n : Nat} {g : Nat → Nat} (h : WOk n g) {f : Nat → Int} (hr : RowTo g n f n) {j : Nat} (hj : j < n) : ∀ x, (g (nat f j)).testBit x = true → ∃ i, i < j ∧ nat f i = x := fun x hx => by
  have hm := (hr j hj).2.2
  have hs := (RowTo.set j (hr.less (by omega))).1
  exact (sB_bit j (hr.less (by omega)) x).1 (((may_iff h hs).1 hm).2 x hx)
/-- A weighing that goes as the row says leaves it a row. -/
theorem row_wth {n : Nat} {g : Nat → Nat} (h : WOk n g) {f : Nat → Int} (hr : IsRw g n n f) {x y : Nat} (hx : x < n) (hy : y < n) (hne : x ≠ y) (ho : opn g x y = true) (ha : Ahd f n x y) : IsRw (wth g x y) n n f := by
  have hw := h.wth hx hy hne ho
  obtain ⟨i, hi, hfi, hno⟩ := ha
  have hnx : nat f i = x := by unfold nat; omega
  have hny : ∀ j, j ≤ i → nat f j ≠ y := fun j hj e => hno j hj (by have := (row_lt hr.2 (show j < n by omega)).2; omega)
  refine ⟨rfl, ?_⟩
  have key : ∀ k, k ≤ n → RowTo (wth g x y) n f k := by
    intro k
    induction k with
    | zero => intro _ j hj; exact absurd hj (Nat.not_lt_zero _)
    | succ k ih =>
      intro hk
      have ihk := ih (by omega)
      intro j hj
      by_cases hjk : j = k
      · subst hjk
        obtain ⟨a1, a2, a3⟩ := hr.2 j (by omega)
        refine ⟨a1, a2, ?_⟩
        have hs := (RowTo.set j ihk).1
        refine (may_iff hw hs).2 ⟨may_out a3, fun z hz => (sB_bit j ihk z).2 ?_⟩
        rcases (wth_bit g x y (nat f j) z).1 hz with h1 | ⟨h1, h2⟩
        · exact may_set h hr.2 (by omega) z h1
        · have hij : i < j := by
            rcases h1 with h1 | h1
            · rcases Nat.lt_or_ge i j with h3 | h3
              · exact h3
              · exact absurd h1 (hny j h3)
            · obtain ⟨j', hj', e⟩ := may_set h hr.2 (by omega) y h1
              rcases Nat.lt_or_ge i j' with h3 | h3
              · omega
              · exact absurd e (hny j' h3)
          rcases h2 with h2 | rfl
          · rw [← hnx] at h2
            obtain ⟨j', hj', e⟩ := may_set h hr.2 hi z h2
            exact ⟨j', by omega, e⟩
          · exact ⟨i, hij, hnx⟩
      · exact ihk j (by omega)
  exact key n (Nat.le_refl _)
/-- Where nothing is open, what is known to stand ahead of a point is what does. -/
theorem row_told {n : Nat} {g : Nat → Nat} (h : WOk n g) (hl : Lin n g) {f : Nat → Int} (hr : IsRw g n n f) {j : Nat} (hj : j < n) : g (nat f j) = sB (nat f) j := by
  have hs := (RowTo.set j (hr.2.less (by omega))).1
  refine eq_of_bits (h.smn _) hs fun z hz => ?_
  rw [Bool.eq_iff_iff, sB_bit j (hr.2.less (by omega))]
  refine ⟨may_set h hr.2 hj z, fun ⟨i, hi, e⟩ => ?_⟩
  subst e
  have hne : nat f i ≠ nat f j := fun e => by have := row_inj hr.2 (by omega) hj e; omega
  rcases hl.or (row_lt hr.2 (show i < n by omega)).1 (row_lt hr.2 hj).1 hne with h1 | h1
  · exfalso
    obtain ⟨j', hj', e⟩ := may_set h hr.2 (by omega) _ h1
    have := row_inj hr.2 (by omega) hj e
    omega
  · exact h1
theorem pcn_add {s i : Nat} (h : s.testBit i = false) : ∀ k, pcn (s + pw i) k = pcn s k + (if i < k then 1 else 0)
  | 0 => by simp [pcn]
  | k + 1 => by
    have ih := pcn_add h k
    rw [pcn_step, pcn_step, ih]
    have hb : ∀ t, hv t k % 2 = if t.testBit k = true then 1 else 0 := fun t => by
      have := hv_bit t k
      by_cases e : hv t k % 2 = 1
      · rw [this, e]; simp
      · rw [this]; simp [e]; omega
    rw [hb, hb, add_bit h]
    by_cases e : i = k
    · subst e
      rw [h]; simp
    · have e3 : (i < k + 1) = (i < k) := by simp; omega
      simp only [e, e3, decide_false, Bool.or_false]; omega
theorem pc_row {u : Nat → Nat} {n : Nat} {f : Nat → Int} (hn : n ≤ 10) : ∀ i, RowTo u n f i → pc (sB (nat f) i) = i
  | 0, _ => by unfold pc; rw [show sB (nat f) 0 = 0 from rfl]; decide
  | i + 1, h => by
    obtain ⟨h0, h1, hm⟩ := h i (by omega)
    have hl := nat_lt h0 h1
    have ih := pc_row hn i (h.less (by omega))
    unfold pc at ih ⊢
    rw [sB_succ, pcn_add (may_out hm), ih, if_pos (by omega)]
/-- A point's place is how many are known to stand ahead of it. -/
theorem pc_told {n : Nat} {g : Nat → Nat} (h : WOk n g) (hl : Lin n g) {f : Nat → Int} (hr : IsRw g n n f) {j : Nat} (hj : j < n) : pc (g (nat f j)) = j := by
  rw [row_told h hl hr hj]; exact pc_row (by have := h.n5; omega) j (hr.2.less (by omega))
/-- The row as far as the first k points have come to their places. -/
def rwm (f : Nat → Int) (k i : Nat) : Nat := if nat f i < k then nat f i else 0
theorem rwm_zero (f : Nat → Int) : rwm f 0 = fun _ => 0 := by funext i; simp [rwm]
theorem rwm_step {u : Nat → Nat} {n : Nat} {f : Nat → Int} (h : RowTo u n f n) {j k : Nat} (hj : j < n) (e : nat f j = k) : ∀ i, i < n → upd (rwm f k) j k i = rwm f (k + 1) i := fun i hi => by
  by_cases hij : i = j
  · subst hij; rw [upd_same]; unfold rwm; rw [if_pos (by omega), e]
  · rw [upd_other _ _ _ _ hij]
    have : nat f i ≠ k := fun e2 => hij (row_inj h hi hj (by omega))
    unfold rwm
    by_cases h1 : nat f i < k
    · rw [if_pos h1, if_pos (by omega)]
    · rw [if_neg h1, if_neg (by omega)]
theorem rwm_full {u : Nat → Nat} {n : Nat} {f : Nat → Int} (h : RowTo u n f n) {i : Nat} (hi : i < n) : rwm f n i = nat f i := by
  unfold rwm; rw [if_pos (row_lt h hi).1]
end Go.Proofs.Ytipgojoiakbaiaa
