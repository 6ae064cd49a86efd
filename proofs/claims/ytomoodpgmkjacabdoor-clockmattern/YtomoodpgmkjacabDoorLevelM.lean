/-
  Heights of an order's points, and its levels, as numbers. Plain facts: no Go text here. Conditions: an order of at most ten points.
-/
import Derived.Test.YtomoodpgmkjacabDoorSets
namespace Go.Proofs.YtomoodpgmkjacabDoor
open Go.RowKit

/-- The greatest of the first k values, or 0. -/
def maxTo (φ : Nat → Nat) : Nat → Nat
  | 0 => 0
  | k + 1 => max (maxTo φ k) (φ k)
theorem maxTo_le_iff (φ : Nat → Nat) (m : Nat) : ∀ k, maxTo φ k ≤ m ↔ ∀ j, j < k → φ j ≤ m
  | 0 => by simp [maxTo]
  | k + 1 => by
    have ih := maxTo_le_iff φ m k
    rw [maxTo, Nat.max_le, ih]
    exact ⟨fun h => upto_succ h.1 h.2, fun h => ⟨fun j hj => h j (by omega), h k (by omega)⟩⟩
theorem le_maxTo {φ : Nat → Nat} {k j : Nat} (h : j < k) : φ j ≤ maxTo φ k := (maxTo_le_iff φ _ k).1 (Nat.le_refl _) j h
theorem maxTo_congr {φ ψ : Nat → Nat} : ∀ k, (∀ j, j < k → φ j = ψ j) → maxTo φ k = maxTo ψ k
  | 0, _ => rfl
  | k + 1, h => by rw [maxTo, maxTo, maxTo_congr k (fun j hj => h j (by omega)), h k (by omega)]
theorem lt_maxTo {φ : Nat → Nat} {k m : Nat} (h : m < maxTo φ k) : ∃ j, j < k ∧ m < φ j :=
  Classical.byContradiction fun hc => absurd ((maxTo_le_iff φ m k).2 (fun j hj => Nat.le_of_not_lt fun hl => hc ⟨j, hj, hl⟩)) (by omega)
theorem maxTo_ge {φ : Nat → Nat} {k : Nat} (h : maxTo φ k < φ k) : maxTo φ (k + 1) = φ k := by rw [maxTo]; omega
theorem maxTo_le {φ : Nat → Nat} {k : Nat} (h : φ k ≤ maxTo φ k) : maxTo φ (k + 1) = maxTo φ k := by rw [maxTo]; omega

/-- One more than H at j, if j is below i. -/
def one (g : Nat → Nat) (i : Nat) (H : Nat → Nat) (j : Nat) : Nat := if (g i).testBit j = true then H j + 1 else 0
theorem one_yes {g : Nat → Nat} {i j : Nat} {H : Nat → Nat} (h : (g i).testBit j = true) : one g i H j = H j + 1 := by simp [one, h]
theorem one_no {g : Nat → Nat} {i j : Nat} {H : Nat → Nat} (h : (g i).testBit j = false) : one g i H j = 0 := by simp [one, h]
def hf (g : Nat → Nat) (n : Nat) : Nat → Nat → Nat
  | 0, _ => 0
  | f + 1, i => maxTo (one g i (hf g n f)) n
/-- The height of a point. -/
def ht (g : Nat → Nat) (n i : Nat) : Nat := hf g n (pw n) i

theorem sub_lt {g : Nat → Nat} {n i j : Nat} (hn : n ≤ 10) (hg : ∀ k, k < n → g k < pw n) (ho : Ord n g) (hi : i < n) (hb : (g i).testBit j = true) : j < n ∧ g j < g i := by
  have hj : j < n := bit_of_lt (hg i hi) hb
  refine ⟨hj, ?_⟩
  have hp := pw_le n hn
  have b1 : g j < 18446744073709551616 := by have := hg j hj; omega
  have b2 : g i < 18446744073709551616 := by have := hg i hi; omega
  have hs := (lack_zero _ _ b1 b2).1 ((ho i hi).2 j hj hb)
  have e : g j &&& g i = g j := by
    apply Nat.eq_of_testBit_eq
    intro k
    rw [Nat.testBit_and]
    cases h : (g j).testBit k
    · rfl
    · rw [hs k h]; rfl
  have hle : g j ≤ g i := by rw [← e]; exact Nat.and_le_right
  have hne : g j ≠ g i := fun h => by
    have := (ho j hj).1
    rw [h, hb] at this; cases this
  omega
theorem hf_stable {g : Nat → Nat} {n : Nat} (hn : n ≤ 10) (hg : ∀ k, k < n → g k < pw n) (ho : Ord n g) : ∀ f f' i, i < n → g i < f → g i < f' → hf g n f i = hf g n f' i
  | 0, _, _, _, h, _ => absurd h (Nat.not_lt_zero _)
  | _ + 1, 0, _, _, _, h => absurd h (Nat.not_lt_zero _)
  | f + 1, f' + 1, i, hi, h1, h2 => by
    rw [hf, hf]
    refine maxTo_congr n fun j hj => ?_
    unfold one
    cases hb : (g i).testBit j
    · rfl
    · have hl := (sub_lt hn hg ho hi hb).2
      simp only [if_true]
      rw [hf_stable hn hg ho f f' j hj (by omega) (by omega)]
theorem ht_eq {g : Nat → Nat} {n : Nat} (hn : n ≤ 10) (hg : ∀ k, k < n → g k < pw n) (ho : Ord n g) {i : Nat} (hi : i < n) : ht g n i = maxTo (one g i (ht g n)) n := by
  have hp := pw_pos n
  have e : pw n = (pw n - 1) + 1 := by omega
  have e2 : ht g n i = hf g n ((pw n - 1) + 1) i := by unfold ht; rw [← e]
  rw [e2, hf]
  refine maxTo_congr n fun j hj => ?_
  unfold one
  cases hb : (g i).testBit j
  · rfl
  · have hl := (sub_lt hn hg ho hi hb).2
    have := hg i hi
    simp only [if_true]
    rw [ht, hf_stable hn hg ho (pw n - 1) (pw n) j hj (by omega) (by omega)]
theorem hf_le (g : Nat → Nat) (n : Nat) : ∀ f i, hf g n f i ≤ f
  | 0, _ => Nat.le_refl _
  | f + 1, i => by
    rw [hf, maxTo_le_iff]
    intro j _
    unfold one
    have := hf_le g n f j
    split <;> omega
theorem ht_small (g : Nat → Nat) {n : Nat} (hn : n ≤ 10) (i : Nat) : ht g n i ≤ 1024 := Nat.le_trans (hf_le g n _ i) (pw_le n hn)
theorem ht_ge {g : Nat → Nat} {n : Nat} (hn : n ≤ 10) (hg : ∀ k, k < n → g k < pw n) (ho : Ord n g) {i : Nat} (hi : i < n) (h : Nat) : h < ht g n i ↔ ∃ j, j < n ∧ (g i).testBit j = true ∧ h ≤ ht g n j := by
  rw [ht_eq hn hg ho hi]
  constructor
  · intro hl
    obtain ⟨j, hj, hh⟩ := lt_maxTo hl
    cases hb : (g i).testBit j
    · rw [one_no hb] at hh; omega
    · rw [one_yes hb] at hh; exact ⟨j, hj, hb, by omega⟩
  · rintro ⟨j, hj, hb, hh⟩
    have := le_maxTo (φ := one g i (ht g n)) hj
    rw [one_yes hb] at this; omega

/-- Those that are h high, or higher; those that are h high. -/
def geS (g : Nat → Nat) (n h : Nat) : Nat := setBy (fun i => decide (h ≤ ht g n i)) n
def lvS (g : Nat → Nat) (n h : Nat) : Nat := setBy (fun i => ht g n i == h) n
/-- How many levels. -/
def tops (g : Nat → Nat) (n : Nat) : Nat := maxTo (fun i => ht g n i + 1) n
theorem geS_zero (g : Nat → Nat) (n : Nat) : geS g n 0 = pw n - 1 := by
  refine eq_of_bits (n := n) (setBy_lt _ n) (by have := pw_pos n; omega) fun i hi => ?_
  rw [geS, setBy_bit]
  simp [hi, pw, Nat.testBit_two_pow_sub_one]
theorem geS_lt (g : Nat → Nat) (n h : Nat) : geS g n h < pw n := setBy_lt _ n
theorem lvS_lt (g : Nat → Nat) (n h : Nat) : lvS g n h < pw n := setBy_lt _ n
theorem setBy_none {P : Nat → Bool} {n : Nat} (h : ∀ i, i < n → P i = false) : setBy P n = 0 := by
  apply Nat.eq_of_testBit_eq
  intro i
  rw [setBy_bit]
  by_cases hi : i < n
  · simp [hi, h i hi]
  · simp [hi]
theorem setBy_some {P : Nat → Bool} {n i : Nat} (hi : i < n) (h : P i = true) : setBy P n ≠ 0 := fun e => by
  have := setBy_bit P n i
  rw [e] at this
  simp [hi, h] at this
theorem geS_none (g : Nat → Nat) (n h : Nat) : geS g n h = 0 ↔ tops g n ≤ h := by
  unfold tops
  rw [maxTo_le_iff]
  constructor
  · intro e j hj
    rcases Nat.lt_or_ge (ht g n j) h with hl | hl
    · omega
    · exact absurd e (setBy_some (P := fun i => decide (h ≤ ht g n i)) hj (by simpa using hl))
  · intro hh
    exact setBy_none fun i hi => by have := hh i hi; simp; omega
theorem ht_down {g : Nat → Nat} {n : Nat} (hn : n ≤ 10) (hg : ∀ k, k < n → g k < pw n) (ho : Ord n g) (h : Nat) : ∀ d i, i < n → ht g n i = h + d → ∃ j, j < n ∧ ht g n j = h
  | 0, i, hi, e => ⟨i, hi, e⟩
  | d + 1, i, hi, e => by
    obtain ⟨j, hj, hb, hh⟩ := (ht_ge hn hg ho hi (h + d)).1 (by omega)
    have h2 : ¬ (h + d + 1 ≤ ht g n j) := fun hc => by
      have := (ht_ge hn hg ho hi (h + d + 1)).2 ⟨j, hj, hb, hc⟩; omega
    exact ht_down hn hg ho h d j hj (by omega)
theorem lvS_none {g : Nat → Nat} {n : Nat} (hn : n ≤ 10) (hg : ∀ k, k < n → g k < pw n) (ho : Ord n g) (h : Nat) : lvS g n h = 0 ↔ tops g n ≤ h := by
  rw [← geS_none]
  constructor
  · intro e
    refine setBy_none fun i hi => ?_
    cases hd : decide (h ≤ ht g n i)
    · rfl
    · simp at hd
      obtain ⟨j, hj, hh⟩ := ht_down hn hg ho h (ht g n i - h) i hi (by omega)
      exact absurd e (setBy_some (P := fun i => ht g n i == h) hj (by simpa using hh))
  · intro e
    refine setBy_none fun i hi => ?_
    have hc : ¬ (h ≤ ht g n i) := fun hl => absurd e (setBy_some (P := fun i => decide (h ≤ ht g n i)) hi (by simpa using hl))
    simp; omega
theorem peel_at {g : Nat → Nat} {n : Nat} (hn : n ≤ 10) (hg : ∀ k, k < n → g k < pw n) (ho : Ord n g) (h p : Nat) (hp : p < n) : ((geS g n h).testBit p && (g p &&& geS g n h == 0)) = (ht g n p == h) := by
  have hb : (geS g n h).testBit p = decide (h ≤ ht g n p) := by rw [geS, setBy_bit]; simp [hp]
  rw [hb, Bool.eq_iff_iff, Bool.and_eq_true, decide_eq_true_eq, beq_iff_eq, beq_iff_eq]
  have hz : g p &&& geS g n h = 0 ↔ ¬ (h < ht g n p) := by
    rw [ht_ge hn hg ho hp]
    constructor
    · rintro e ⟨j, hj, hb1, hh⟩
      have h2 : (g p &&& geS g n h).testBit j = true := by
        rw [Nat.testBit_and, hb1, geS, setBy_bit]; simp [hj, hh]
      rw [e] at h2; simp at h2
    · intro hc
      apply Nat.eq_of_testBit_eq
      intro j
      rw [Nat.testBit_and, geS, setBy_bit]
      cases hb1 : (g p).testBit j
      · simp
      · by_cases hj : j < n
        · by_cases hh : h ≤ ht g n j
          · exact absurd ⟨j, hj, hb1, hh⟩ hc
          · simp [hh]
        · simp [hj]
  rw [hz]; omega
theorem peel_set {g : Nat → Nat} {n : Nat} (hn : n ≤ 10) (hg : ∀ k, k < n → g k < pw n) (ho : Ord n g) (h : Nat) : setBy (fun p => (geS g n h).testBit p && (g p &&& geS g n h == 0)) n = lvS g n h :=
  setBy_congr n fun p hp => peel_at hn hg ho h p hp
theorem peel_rest {g : Nat → Nat} {n : Nat} (hn : n ≤ 10) (h : Nat) : lack (geS g n h) (lvS g n h) = geS g n (h + 1) := by
  have hp := pw_le n hn
  have h1 := geS_lt g n h
  have h2 := lvS_lt g n h
  refine eq_of_bits (n := n) (Nat.lt_of_le_of_lt (lack_le _ _) h1) (geS_lt g n (h + 1)) fun i hi => ?_
  rw [lack_bit _ _ _ (by omega) (by omega), geS, lvS, geS, setBy_bit, setBy_bit, setBy_bit]
  simp only [hi, decide_true, Bool.true_and]
  rw [Bool.eq_iff_iff]
  simp
  omega
def levTo (g : Nat → Nat) (n h : Nat) : List Nat := (List.range h).map (lvS g n)
/-- The levels. -/
def levs (g : Nat → Nat) (n : Nat) : List Nat := levTo g n (tops g n)
theorem levTo_succ (g : Nat → Nat) (n h : Nat) : levTo g n (h + 1) = levTo g n h ++ [lvS g n h] := by simp [levTo, List.range_succ]
theorem levTo_len (g : Nat → Nat) (n h : Nat) : (levTo g n h).length = h := by simp [levTo]
theorem tops_le (g : Nat → Nat) {n : Nat} (hn : n ≤ 10) : tops g n ≤ 1025 := by
  unfold tops; rw [maxTo_le_iff]; intro j _; have := ht_small g hn j; omega
theorem ht_lt_tops {g : Nat → Nat} {n i : Nat} (hi : i < n) : ht g n i < tops g n := le_maxTo (φ := fun i => ht g n i + 1) hi
end Go.Proofs.YtomoodpgmkjacabDoor
