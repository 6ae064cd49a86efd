/-
  Levels, the longest chain, and antichains that part the points: plain facts. No Go text here. Conditions: at most ten points.
-/
import Derived.Test.YtpagbjblibckoaaDoorLongest
namespace Go.Proofs.YtpagbjblibckoaaDoor
open Go.RowKit

theorem hf_congr {g g' : Nat → Nat} {n : Nat} (h : ∀ k, k < n → g k = g' k) : ∀ m i, i < n → hf g n m i = hf g' n m i
  | 0, i, _ => rfl
  | m + 1, i, hi => by
    rw [hf, hf]
    refine maxTo_congr n fun j hj => ?_
    unfold one
    rw [h i hi, hf_congr h m j hj]
theorem tops_congr {g g' : Nat → Nat} {n : Nat} (h : ∀ k, k < n → g k = g' k) : tops g n = tops g' n :=
  maxTo_congr n fun j hj => by show ht g n j + 1 = ht g' n j + 1; rw [ht, ht, hf_congr h _ j hj]
theorem trn_trn {g : Nat → Nat} {n : Nat} (hg : Sm n n g) (k : Nat) (hk : k < n) : trn (trn g n) n k = g k := by
  refine eq_of_bits (trn_lt _ n k) (hg k hk) fun i hi => ?_
  rw [trn_bit, trn_bit]; simp [hi, hk]
/-- Each point of the chain is above the one ahead of it. -/
theorem lc_up {g : Nat → Nat} {n : Nat} (hn : n ≤ 10) (hg : Sm n n g) (ho : Ord n g) {j : Nat} (hj : j + 1 < tops (trn g n) n) : (g (lcp (trn g n) n (j + 1))).testBit (lcp (trn g n) n j) = true := by
  have ok := lc_ok hn (trn_sm g n) (trn_ord hn hg ho) (j + 1) hj
  rcases ok.cnd.2 with h | ⟨q, h, hb⟩
  · omega
  · have : q = j := by omega
    subst this
    rw [trn_bit] at hb
    cases h0 : (g (lcp (trn g n) n (q + 1))).testBit (lcp (trn g n) n q)
    · rw [h0] at hb; simp at hb
    · rfl
theorem lc_far {g : Nat → Nat} {n : Nat} (hn : n ≤ 10) (hg : Sm n n g) (ho : Ord n g) {i : Nat} : ∀ d, i + (d + 1) < tops (trn g n) n → (g (lcp (trn g n) n (i + (d + 1)))).testBit (lcp (trn g n) n i) = true
  | 0, h => lc_up hn hg ho h
  | d + 1, h => by
    have ih := lc_far hn hg ho (i := i) d (by omega)
    have h1 := lc_up hn hg ho (j := i + (d + 1)) h
    have hp := pw_le n hn
    have k1 := (lc_ok hn (trn_sm g n) (trn_ord hn hg ho) (i + (d + 1)) (by omega)).lt
    have k2 := (lc_ok hn (trn_sm g n) (trn_ord hn hg ho) (i + (d + 1) + 1) h).lt
    have g1 := hg _ k1
    have g2 := hg _ k2
    exact (lack_zero _ _ (by omega) (by omega)).1 ((ho _ k2).2 _ k1 h1) _ ih
theorem lc_high {g : Nat → Nat} {n : Nat} (hn : n ≤ 10) (hg : Sm n n g) (ho : Ord n g) : ∀ j, j < tops (trn g n) n → j ≤ ht g n (lcp (trn g n) n j)
  | 0, _ => Nat.zero_le _
  | j + 1, h => by
    have ih := lc_high hn hg ho j (by omega)
    have k1 := (lc_ok hn (trn_sm g n) (trn_ord hn hg ho) j (by omega)).lt
    have k2 := (lc_ok hn (trn_sm g n) (trn_ord hn hg ho) (j + 1) h).lt
    exact (ht_ge hn hg ho k2 j).2 ⟨_, k1, lc_up hn hg ho h, ih⟩
theorem tops_le_dual {g : Nat → Nat} {n : Nat} (hn : n ≤ 10) (hg : Sm n n g) (ho : Ord n g) : tops (trn g n) n ≤ tops g n := by
  rcases Nat.eq_zero_or_pos (tops (trn g n) n) with h | h
  · omega
  · have h1 := lc_high hn hg ho (tops (trn g n) n - 1) (by omega)
    have h2 := ht_lt_tops (g := g) (lc_ok hn (trn_sm g n) (trn_ord hn hg ho) (tops (trn g n) n - 1) (by omega)).lt
    omega
/-- There are as many levels as the longest chain has points. -/
theorem tops_dual {g : Nat → Nat} {n : Nat} (hn : n ≤ 10) (hg : Sm n n g) (ho : Ord n g) : tops (trn g n) n = tops g n := by
  have h1 := tops_le_dual hn hg ho
  have h2 := tops_le_dual hn (trn_sm g n) (trn_ord hn hg ho)
  rw [tops_congr (fun k hk => trn_trn hg k hk)] at h2
  omega
def Ant (g : Nat → Nat) (n S : Nat) : Prop := ∀ i, i < n → ∀ k, k < n → S.testBit i = true → S.testBit k = true → (g k).testBit i = false
def antB (g : Nat → Nat) (n S : Nat) : Bool := decide (∀ i, i < n → ∀ k, k < n → S.testBit i = true → S.testBit k = true → (g k).testBit i = false)
theorem antB_iff (g : Nat → Nat) (n S : Nat) : antB g n S = true ↔ Ant g n S := by unfold antB Ant; exact decide_eq_true_iff
theorem lvS_ant {g : Nat → Nat} {n : Nat} (hn : n ≤ 10) (hg : Sm n n g) (ho : Ord n g) (h : Nat) : antB g n (lvS g n h) = true := by
  refine (antB_iff g n _).2 fun i hi k hk h1 h2 => ?_
  rw [lvS_bt hi, beq_iff_eq] at h1
  rw [lvS_bt hk, beq_iff_eq] at h2
  cases hb : (g k).testBit i
  · rfl
  · have := (ht_ge hn hg ho hk (ht g n i)).2 ⟨i, hi, hb, Nat.le_refl _⟩
    omega
theorem setBy_sum {P Q : Nat → Bool} : ∀ n, (∀ i, i < n → P i = true → Q i = false) → setBy P n + setBy Q n = setBy (fun i => P i || Q i) n
  | 0, _ => rfl
  | n + 1, h => by
    have ih := setBy_sum n (fun i hi => h i (by omega))
    have hn := h n (by omega)
    cases hp : P n <;> cases hq : Q n
    · rw [setBy_no hp, setBy_no hq, setBy_no (by simp [hp, hq])]; exact ih
    · rw [setBy_no hp, setBy_yes hq, setBy_yes (P := fun i => P i || Q i) (by simp [hp, hq]), ← ih]; omega
    · rw [setBy_yes hp, setBy_no hq, setBy_yes (P := fun i => P i || Q i) (by simp [hp, hq]), ← ih]; omega
    · rw [hn hp] at hq; cases hq
/-- The points whose height is less. -/
def ltS (g : Nat → Nat) (n k : Nat) : Nat := setBy (fun i => decide (ht g n i < k)) n
theorem ltS_zero (g : Nat → Nat) (n : Nat) : ltS g n 0 = 0 := setBy_none fun i _ => by simp
theorem ltS_lt (g : Nat → Nat) (n k : Nat) : ltS g n k < pw n := setBy_lt _ n
theorem ltS_succ (g : Nat → Nat) (n k : Nat) : ltS g n k + lvS g n k = ltS g n (k + 1) := by
  rw [ltS, lvS, setBy_sum n (fun i _ h => by
    have := of_decide_eq_true h
    have e : (ht g n i == k) = false := by simp; omega
    exact e)]
  refine setBy_congr n fun i _ => ?_
  rw [Bool.eq_iff_iff]
  simp
  omega
theorem ltS_all (g : Nat → Nat) (n : Nat) : ltS g n (tops g n) = pw n - 1 := by
  have e : ∀ n, setBy (fun _ => true) n = pw n - 1 := fun n => by
    induction n with
    | zero => rfl
    | succ n ih => have := pw_pos n; rw [setBy_yes rfl, ih, pw_succ]; omega
  rw [← e n, ltS]
  exact setBy_congr n fun i hi => by simp [ht_lt_tops (g := g) hi]
theorem lvS_pos {g : Nat → Nat} {n : Nat} (hn : n ≤ 10) (hg : Sm n n g) (ho : Ord n g) {h : Nat} (hh : h < tops g n) : 0 < lvS g n h := by
  rcases Nat.eq_zero_or_pos (lvS g n h) with e | e
  · have := (lvS_none hn hg ho h).1 e; omega
  · exact e
/-- All that the first k sets have. -/
def uni (r : Nat → Nat) : Nat → Nat
  | 0 => 0
  | k + 1 => uni r k ||| r k
theorem uni_lt {r : Nat → Nat} {m : Nat} : ∀ k, (∀ j, j < k → r j < pw m) → uni r k < pw m
  | 0, _ => pw_pos m
  | k + 1, h => Nat.or_lt_two_pow (uni_lt k (fun j hj => h j (by omega))) (h k (by omega))
theorem uni_bit {r : Nat → Nat} {q : Nat} : ∀ k, (uni r k).testBit q = true → ∃ j, j < k ∧ (r j).testBit q = true
  | 0, h => by simp [uni] at h
  | k + 1, h => by
    rw [uni, Nat.testBit_or] at h
    cases h0 : (uni r k).testBit q
    · rw [h0] at h; exact ⟨k, by omega, by simpa using h⟩
    · obtain ⟨j, hj, hb⟩ := uni_bit k h0
      exact ⟨j, by omega, hb⟩
/-- Antichains that have all points are as many as the longest chain has points. -/
theorem mirsky {g : Nat → Nat} {n m : Nat} {r : Nat → Nat} (hn : n ≤ 10) (hg : Sm n n g) (ho : Ord n g) (hr : ∀ j, j < m → antB g n (r j) = true) (hu : uni r m = pw n - 1) : tops (trn g n) n ≤ m := by
  have hok := lc_ok hn (trn_sm g n) (trn_ord hn hg ho)
  have hex : ∀ j, j < tops (trn g n) n → ∃ k, k < m ∧ (r k).testBit (lcp (trn g n) n j) = true := fun j hj => uni_bit m (by rw [hu]; exact all_bit (hok j hj).lt)
  refine pig m (tops (trn g n) n) (fun j => if h : j < tops (trn g n) n then Classical.choose (hex j h) else 0) (fun j hj => ?_) (fun i j hi hj e => ?_)
  · simp only [hj, dite_true]
    exact (Classical.choose_spec (hex j hj)).1
  · simp only [hi, hj, dite_true] at e
    have h1 := (Classical.choose_spec (hex i hi)).2
    have h2 := (Classical.choose_spec (hex j hj)).2
    have h3 := (Classical.choose_spec (hex j hj)).1
    rw [e] at h1
    have ha := (antB_iff g n _).1 (hr _ h3)
    rcases Nat.lt_trichotomy i j with h | h | h
    · have hc := lc_far hn hg ho (i := i) (j - i - 1) (by omega)
      rw [show i + (j - i - 1 + 1) = j by omega] at hc
      rw [ha _ (hok i hi).lt _ (hok j hj).lt h1 h2] at hc; cases hc
    · exact h
    · have hc := lc_far hn hg ho (i := j) (i - j - 1) (by omega)
      rw [show j + (i - j - 1 + 1) = i by omega] at hc
      rw [ha _ (hok j hj).lt _ (hok i hi).lt h2 h1] at hc; cases hc
end Go.Proofs.YtpagbjblibckoaaDoor
