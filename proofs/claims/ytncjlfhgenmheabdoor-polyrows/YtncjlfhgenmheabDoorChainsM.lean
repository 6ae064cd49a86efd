/-
  How many chains there are of each length: counted set by set, and by what ends at each point. Plain facts: no Go text here. Conditions: an order of at most ten points.
-/
import Derived.Test.YtncjlfhgenmheabDoorLevelM
import Derived.Test.YtncjlfhgenmheabDoorMSize
namespace Go.Proofs.YtncjlfhgenmheabDoor
open Go.RowKit

def sumTo (φ : Nat → Nat) : Nat → Nat
  | 0 => 0
  | k + 1 => sumTo φ k + φ k
theorem sumTo_congr {φ ψ : Nat → Nat} : ∀ n, (∀ k, k < n → φ k = ψ k) → sumTo φ n = sumTo ψ n
  | 0, _ => rfl
  | n + 1, h => by rw [sumTo, sumTo, sumTo_congr n (fun k hk => h k (by omega)), h n (by omega)]
theorem sumTo_le {φ : Nat → Nat} {B : Nat} : ∀ n, (∀ k, k < n → φ k ≤ B) → sumTo φ n ≤ n * B
  | 0, _ => by simp [sumTo]
  | n + 1, h => by
    have := sumTo_le n (fun k hk => h k (by omega))
    have := h n (by omega)
    rw [sumTo, Nat.succ_mul]; omega
theorem le_sumTo {φ : Nat → Nat} {k : Nat} : ∀ n, k < n → φ k ≤ sumTo φ n
  | 0, h => absurd h (Nat.not_lt_zero _)
  | n + 1, h => by
    rw [sumTo]
    by_cases e : k = n
    · subst e; omega
    · have := le_sumTo (φ := φ) n (show k < n by omega); omega
theorem sumTo_mono {φ : Nat → Nat} {m : Nat} : ∀ n, m ≤ n → sumTo φ m ≤ sumTo φ n
  | 0, h => by rw [show m = 0 by omega]; exact Nat.le_refl _
  | n + 1, h => by
    by_cases e : m = n + 1
    · subst e; exact Nat.le_refl _
    · have := sumTo_mono (φ := φ) n (show m ≤ n by omega); rw [sumTo]; omega
theorem sumTo_add (φ ψ : Nat → Nat) : ∀ n, sumTo (fun k => φ k + ψ k) n = sumTo φ n + sumTo ψ n
  | 0 => rfl
  | n + 1 => by rw [sumTo, sumTo, sumTo, sumTo_add φ ψ n]; omega
theorem sumTo_zero : ∀ n, sumTo (fun _ => 0) n = 0
  | 0 => rfl
  | n + 1 => by rw [sumTo, sumTo_zero n]
theorem sumTo_swap (φ : Nat → Nat → Nat) (m : Nat) : ∀ n, sumTo (fun k => sumTo (φ k) m) n = sumTo (fun j => sumTo (fun k => φ k j) n) m
  | 0 => by
    rw [sumTo, show (fun j => sumTo (fun k => φ k j) 0) = fun _ => 0 from rfl, sumTo_zero]
  | n + 1 => by
    rw [sumTo, sumTo_swap φ m n, ← sumTo_add]
    exact sumTo_congr m fun j _ => rfl
theorem sumTo_split (φ : Nat → Nat) (a : Nat) : ∀ b, sumTo φ (a + b) = sumTo φ a + sumTo (fun k => φ (a + k)) b
  | 0 => by simp [sumTo]
  | b + 1 => by rw [← Nat.add_assoc, sumTo, sumTo, sumTo_split φ a b]; omega
theorem sumTo_pos {φ : Nat → Nat} {n : Nat} : 0 < sumTo φ n ↔ ∃ k, k < n ∧ 0 < φ k := by
  constructor
  · intro h
    refine Classical.byContradiction fun hc => ?_
    have : sumTo φ n = sumTo (fun _ => 0) n := sumTo_congr n fun k hk => by
      rcases Nat.eq_zero_or_pos (φ k) with h1 | h1
      · exact h1
      · exact absurd ⟨k, hk, h1⟩ hc
    rw [this, sumTo_zero] at h; omega
  · rintro ⟨k, hk, h⟩
    exact Nat.lt_of_lt_of_le h (le_sumTo n hk)
/-- A Bool as a number. -/
def ind (b : Bool) : Nat := if b = true then 1 else 0
theorem ind_le (b : Bool) : ind b ≤ 1 := by cases b <;> decide
theorem ind_true : ind true = 1 := rfl
theorem ind_false : ind false = 0 := rfl
/-- Exactly one. -/
theorem sumTo_one {P : Nat → Bool} {n u : Nat} (hu : u < n) (h : P u = true) (hq : ∀ v, v < n → P v = true → v = u) : sumTo (fun v => ind (P v)) n = 1 := by
  have key : ∀ m, m ≤ n → sumTo (fun v => ind (P v)) m = if u < m then 1 else 0 := by
    intro m
    induction m with
    | zero => intro _; rfl
    | succ m ih =>
      intro hm
      rw [sumTo, ih (by omega)]
      by_cases e : m = u
      · subst e; rw [h, ind_true]; simp
      · have hm2 : P m = false := by
          cases hp : P m
          · rfl
          · exact absurd (hq m (by omega) hp) e
        rw [hm2, ind_false]
        have : (u < m) = (u < m + 1) := by simp; omega
        simp only [this]; omega
  rw [key n (Nat.le_refl _), if_pos hu]

/-- A point more in each set: by the bit. -/
theorem pw_add_bit_lt {S n u : Nat} (hS : S < pw n) (hu : u < n) : (pw n + S).testBit u = S.testBit u := by
  have e := Nat.two_pow_add_eq_or_of_lt (show S < 2 ^ n from hS) 1
  rw [Nat.mul_one] at e
  show (2 ^ n + S).testBit u = _
  rw [e, Nat.testBit_or, Nat.testBit_two_pow]
  have : decide (n = u) = false := by simp; omega
  simp [this]
theorem pw_add_bit_eq {S n : Nat} (hS : S < pw n) : (pw n + S).testBit n = true := by
  have e := Nat.two_pow_add_eq_or_of_lt (show S < 2 ^ n from hS) 1
  rw [Nat.mul_one] at e
  show (2 ^ n + S).testBit n = _
  rw [e, Nat.testBit_or, Nat.testBit_two_pow]; simp
theorem bit_none {S n : Nat} (hS : S < pw n) : S.testBit n = false := Nat.testBit_lt_two_pow hS
theorem toggle (u : Nat) : ∀ n, u < n → ∀ f : Nat → Nat, sumTo (fun S => if S.testBit u = true then f S else 0) (pw n) = sumTo (fun S => if S.testBit u = true then 0 else f (pw u + S)) (pw n)
  | 0, h, _ => absurd h (Nat.not_lt_zero _)
  | n + 1, h, f => by
    rw [show pw (n + 1) = pw n + pw n by rw [pw_succ]; omega, sumTo_split, sumTo_split]
    by_cases e : u = n
    · subst e
      have a1 : sumTo (fun S => if S.testBit u = true then f S else 0) (pw u) = 0 := by
        exact (sumTo_congr _ fun S hS => by simp [bit_none hS]).trans (sumTo_zero _)
      have a2 : sumTo (fun S => if (pw u + S).testBit u = true then 0 else f (pw u + (pw u + S))) (pw u) = 0 := by
        exact (sumTo_congr _ fun S hS => by simp [pw_add_bit_eq hS]).trans (sumTo_zero _)
      have a3 : sumTo (fun S => if (pw u + S).testBit u = true then f (pw u + S) else 0) (pw u) = sumTo (fun S => if S.testBit u = true then 0 else f (pw u + S)) (pw u) :=
        sumTo_congr _ fun S hS => by simp [pw_add_bit_eq hS, bit_none hS]
      rw [a1, a2, a3]; omega
    · have hu : u < n := by omega
      rw [toggle u n hu f]
      have b := toggle u n hu (fun S => f (pw n + S))
      have b1 : sumTo (fun S => if (pw n + S).testBit u = true then f (pw n + S) else 0) (pw n) = sumTo (fun S => if S.testBit u = true then f (pw n + S) else 0) (pw n) :=
        sumTo_congr _ fun S hS => by simp only [pw_add_bit_lt hS hu]
      have b2 : sumTo (fun S => if (pw n + S).testBit u = true then 0 else f (pw u + (pw n + S))) (pw n) = sumTo (fun S => if S.testBit u = true then 0 else f (pw n + (pw u + S))) (pw n) :=
        sumTo_congr _ fun S hS => by
          simp only [pw_add_bit_lt hS hu]
          rw [show pw u + (pw n + S) = pw n + (pw u + S) by omega]
      rw [b1, b2, b]
theorem or_free {x k : Nat} (h : x.testBit k = false) : x ||| pw k = x + pw k := by
  have hm : x % 2 ^ (k + 1) < 2 ^ k := by
    rw [Nat.mod_pow_succ]
    have h2 : x / 2 ^ k % 2 = 0 := by
      rw [Nat.testBit_eq_decide_div_mod_eq] at h
      have : ¬ (x / 2 ^ k % 2 = 1) := by simpa using h
      omega
    rw [h2, Nat.mul_zero, Nat.add_zero]
    exact Nat.mod_lt _ (Nat.two_pow_pos k)
  have hlt : x % 2 ^ (k + 1) < 2 ^ (k + 1) := Nat.mod_lt _ (Nat.two_pow_pos _)
  have hx : x = 2 ^ (k + 1) * (x / 2 ^ (k + 1)) + x % 2 ^ (k + 1) := (Nat.div_add_mod x (2 ^ (k + 1))).symm
  have h1 := Nat.two_pow_add_eq_or_of_lt hlt (x / 2 ^ (k + 1))
  have h2 : x % 2 ^ (k + 1) + 2 ^ k < 2 ^ (k + 1) := by rw [Nat.pow_succ] at *; omega
  have h3 := Nat.two_pow_add_eq_or_of_lt h2 (x / 2 ^ (k + 1))
  have h4 : x % 2 ^ (k + 1) ||| pw k = x % 2 ^ (k + 1) + pw k := or_pw_add hm
  have e : x ||| pw k = 2 ^ (k + 1) * (x / 2 ^ (k + 1)) + (x % 2 ^ (k + 1) + 2 ^ k) := by
    rw [h3, show x % 2 ^ (k + 1) + 2 ^ k = x % 2 ^ (k + 1) ||| pw k from h4.symm, ← Nat.or_assoc, ← h1, ← hx]
  rw [e]
  show _ = x + 2 ^ k
  omega
theorem plus_bit {S u : Nat} (h : S.testBit u = false) (v : Nat) : (pw u + S).testBit v = (decide (v = u) || S.testBit v) := by
  rw [Nat.add_comm, ← or_free h, Nat.testBit_or, pw_bit, Bool.or_comm]
  congr 1
  by_cases e : u = v
  · simp [e]
  · have : ¬ (v = u) := fun h => e h.symm
    simp [e, this]
theorem pcn_plus {S u : Nat} (h : S.testBit u = false) : ∀ k, pcn (pw u + S) k = pcn S k + (if u < k then 1 else 0)
  | 0 => rfl
  | k + 1 => by
    rw [pcn, pcn, pcn_plus h k, plus_bit h k]
    by_cases e : k = u
    · subst e
      simp [h]
    · have e2 : (u < k + 1) = (u < k) := by simp; omega
      have e3 : decide (k = u) = false := by simpa using e
      rw [e3, Bool.false_or]
      simp only [e2]
      split <;> omega
theorem pc_plus {S u : Nat} (h : S.testBit u = false) (hu : u < 10) : pc (pw u + S) = pc S + 1 := by
  rw [pc, pcn_plus h, if_pos hu, ← pc]
theorem pcn_none {S : Nat} : ∀ k, pcn S k = 0 ↔ ∀ j, j < k → S.testBit j = false
  | 0 => by simp [pcn]
  | k + 1 => by
    rw [pcn]
    cases h : S.testBit k
    · simp only [Bool.false_eq_true, if_false, pcn_none k]
      exact ⟨fun h2 => upto_succ h2 h, fun h2 j hj => h2 j (by omega)⟩
    · simp only [if_true]
      constructor
      · intro h2; omega
      · intro h2; have := h2 k (by omega); rw [h] at this; cases this
theorem pc_none {S n : Nat} (hn : n ≤ 10) (hS : S < pw n) : pc S = 0 ↔ S = 0 := by
  rw [pc, pcn_none]
  constructor
  · intro h
    refine eq_of_bits (n := n) hS (pw_pos n) fun i hi => ?_
    rw [h i (by omega)]; simp
  · rintro rfl j _; simp

/-- Is S a chain? -/
def CH (g : Nat → Nat) (n S : Nat) : Prop := ∀ i, i < n → ∀ k, k < i → S.testBit i = true → S.testBit k = true → (g k).testBit i = true ∨ (g i).testBit k = true
def chB (g : Nat → Nat) (n S : Nat) : Bool := decide (∀ i, i < n → ∀ k, k < i → S.testBit i = true → S.testBit k = true → (g k).testBit i = true ∨ (g i).testBit k = true)
theorem chB_iff (g : Nat → Nat) (n S : Nat) : chB g n S = true ↔ CH g n S := by unfold chB CH; exact decide_eq_true_iff
/-- Is all of S below u? -/
def blB (g : Nat → Nat) (n S u : Nat) : Bool := decide (∀ v, v < n → S.testBit v = true → (g u).testBit v = true)
theorem blB_iff (g : Nat → Nat) (n S u : Nat) : blB g n S u = true ↔ ∀ v, v < n → S.testBit v = true → (g u).testBit v = true := by unfold blB; exact decide_eq_true_iff
/-- Is u the top of S, a chain? -/
def toB (g : Nat → Nat) (n S u : Nat) : Bool := S.testBit u && decide (∀ v, v < n → S.testBit v = true → v = u ∨ (g u).testBit v = true)
theorem toB_iff (g : Nat → Nat) (n S u : Nat) : toB g n S u = true ↔ S.testBit u = true ∧ ∀ v, v < n → S.testBit v = true → v = u ∨ (g u).testBit v = true := by
  unfold toB; rw [Bool.and_eq_true, decide_eq_true_iff]
def fB (g : Nat → Nat) (n S u : Nat) : Bool := toB g n S u && chB g n S
theorem anti {g : Nat → Nat} {n u v : Nat} (hn : n ≤ 10) (hg : ∀ k, k < n → g k < pw n) (ho : Ord n g) (hu : u < n) (hv : v < n) (h1 : (g u).testBit v = true) (h2 : (g v).testBit u = true) : False := by
  have a := (sub_lt hn hg ho hu h1).2
  have b := (sub_lt hn hg ho hv h2).2
  omega
theorem top_one {g : Nat → Nat} {n S u v : Nat} (hn : n ≤ 10) (hg : ∀ k, k < n → g k < pw n) (ho : Ord n g) (hu : u < n) (hv : v < n) (h1 : toB g n S u = true) (h2 : toB g n S v = true) : v = u := by
  rw [toB_iff] at h1 h2
  rcases h1.2 v hv h2.1 with h | h
  · exact h
  · rcases h2.2 u hu h1.1 with h' | h'
    · exact h'.symm
    · exact absurd (anti hn hg ho hu hv h h') id
theorem cmp_of {g : Nat → Nat} {n S i k : Nat} (h : CH g n S) (hi : i < n) (hk : k < n) (hne : i ≠ k) (h1 : S.testBit i = true) (h2 : S.testBit k = true) : (g k).testBit i = true ∨ (g i).testBit k = true := by
  rcases Nat.lt_or_gt_of_ne hne with h3 | h3
  · exact (h k hk i h3 h2 h1).symm
  · exact h i hi k h3 h1 h2
theorem argmax (F : Nat → Nat) (P : Nat → Bool) : ∀ n, (∃ k, k < n ∧ P k = true) → ∃ k, k < n ∧ P k = true ∧ ∀ j, j < n → P j = true → F j ≤ F k
  | 0, h => by obtain ⟨k, hk, _⟩ := h; omega
  | n + 1, h => by
    by_cases hc : ∃ k, k < n ∧ P k = true
    · obtain ⟨k, hk, hp, hm⟩ := argmax F P n hc
      by_cases hn : P n = true ∧ F k < F n
      · refine ⟨n, by omega, hn.1, fun j hj hpj => ?_⟩
        by_cases e : j = n
        · subst e; exact Nat.le_refl _
        · have := hm j (by omega) hpj; omega
      · refine ⟨k, by omega, hp, fun j hj hpj => ?_⟩
        by_cases e : j = n
        · subst e
          rcases Nat.lt_or_ge (F k) (F j) with h1 | h1
          · exact absurd ⟨hpj, h1⟩ hn
          · exact h1
        · exact hm j (by omega) hpj
    · obtain ⟨k, hk, hp⟩ := h
      have e : k = n := by
        rcases Nat.lt_or_ge k n with h1 | h1
        · exact absurd ⟨k, h1, hp⟩ hc
        · omega
      subst e
      refine ⟨k, by omega, hp, fun j hj hpj => ?_⟩
      by_cases e : j = k
      · subst e; exact Nat.le_refl _
      · exact absurd ⟨j, by omega, hpj⟩ hc
theorem top_ex {g : Nat → Nat} {n S : Nat} (hn : n ≤ 10) (hg : ∀ k, k < n → g k < pw n) (ho : Ord n g) (hS : S < pw n) (h0 : S ≠ 0) (hc : CH g n S) : ∃ u, u < n ∧ toB g n S u = true := by
  have hex : ∃ k, k < n ∧ S.testBit k = true := Classical.byContradiction fun hno => h0 (eq_of_bits (n := n) hS (pw_pos n) fun i hi => by
    cases h : S.testBit i
    · simp
    · exact absurd ⟨i, hi, h⟩ hno)
  obtain ⟨u, hu, hb, hm⟩ := argmax (ht g n) (fun k => S.testBit k) n hex
  refine ⟨u, hu, (toB_iff g n S u).2 ⟨hb, fun v hv hbv => ?_⟩⟩
  by_cases e : v = u
  · exact .inl e
  · right
    rcases cmp_of hc hv hu e hbv hb with h | h
    · exact h
    · have h1 : ht g n u < ht g n v := (ht_ge hn hg ho hv (ht g n u)).2 ⟨u, hu, h, Nat.le_refl _⟩
      have h2 := hm v hv hbv
      omega
theorem sum_top {g : Nat → Nat} {n S : Nat} (hn : n ≤ 10) (hg : ∀ k, k < n → g k < pw n) (ho : Ord n g) (hS : S < pw n) (h0 : S ≠ 0) (Q : Nat → Bool) :
    (chB g n S = false ∧ sumTo (fun u => ind (Q u && fB g n S u)) n = 0) ∨ (chB g n S = true ∧ ∃ l, l < n ∧ toB g n S l = true ∧ sumTo (fun u => ind (Q u && fB g n S u)) n = ind (Q l)) := by
  cases hc : chB g n S
  · left
    refine ⟨rfl, (sumTo_congr n fun u _ => ?_).trans (sumTo_zero n)⟩
    simp [fB, hc, ind]
  · right
    obtain ⟨l, hl, ht⟩ := top_ex hn hg ho hS h0 ((chB_iff g n S).1 hc)
    refine ⟨rfl, l, hl, ht, ?_⟩
    cases hq : Q l
    · refine (sumTo_congr n fun u hu => ?_).trans (sumTo_zero n)
      cases h2 : toB g n S u
      · simp [fB, h2, ind]
      · rw [top_one hn hg ho hl hu ht h2, hq]; rfl
    · refine sumTo_one hl (by rw [hq]; simp [fB, ht, hc]) fun v hv hP => ?_
      simp only [fB, Bool.and_eq_true] at hP
      exact top_one hn hg ho hl hv ht hP.2.1
/-- How many chains of s + 1 points have the top u. -/
def cE (g : Nat → Nat) (n s u : Nat) : Nat := sumTo (fun S => ind (fB g n S u && (pc S == s + 1))) (pw n)
theorem plus_f {g : Nat → Nat} {n S u : Nat} (hb : S.testBit u = false) : fB g n (pw u + S) u = (blB g n S u && chB g n S) := by
  rw [Bool.eq_iff_iff]
  unfold fB
  rw [Bool.and_eq_true, Bool.and_eq_true, toB_iff, blB_iff, chB_iff, chB_iff]
  constructor
  · rintro ⟨⟨_, h2⟩, h3⟩
    refine ⟨fun v hv hbv => ?_, fun i hi k hk hi1 hk1 => h3 i hi k hk (by rw [plus_bit hb, hi1]; simp) (by rw [plus_bit hb, hk1]; simp)⟩
    rcases h2 v hv (by rw [plus_bit hb, hbv]; simp) with h | h
    · rw [h, hb] at hbv; cases hbv
    · exact h
  · rintro ⟨h1, h2⟩
    refine ⟨⟨by rw [plus_bit hb]; simp, fun v hv hbv => ?_⟩, fun i hi k hk hi1 hk1 => ?_⟩
    · rw [plus_bit hb] at hbv
      by_cases e : v = u
      · exact .inl e
      · simp [e] at hbv; exact .inr (h1 v hv hbv)
    · rw [plus_bit hb] at hi1 hk1
      by_cases ei : i = u
      · have ek : k ≠ u := by omega
        simp [ek] at hk1
        rw [ei]; exact .inr (h1 k (by omega) hk1)
      · simp [ei] at hi1
        by_cases ek : k = u
        · rw [ek]; exact .inl (h1 i hi hi1)
        · simp [ek] at hk1
          exact h2 i hi k hk hi1 hk1
theorem cE_below {g : Nat → Nat} {n : Nat} (hn : n ≤ 10) (ho : Ord n g) (s u : Nat) (hu : u < n) : cE g n s u = sumTo (fun S => ind (blB g n S u && chB g n S && (pc S == s))) (pw n) := by
  unfold cE
  have e1 : sumTo (fun S => ind (fB g n S u && (pc S == s + 1))) (pw n) = sumTo (fun S => if S.testBit u = true then ind (fB g n S u && (pc S == s + 1)) else 0) (pw n) :=
    sumTo_congr _ fun S _ => by
      cases h : S.testBit u
      · simp [fB, toB, h, ind]
      · simp
  rw [e1, toggle u n hu]
  refine sumTo_congr _ fun S hS => ?_
  cases h : S.testBit u
  · simp only [Bool.false_eq_true, if_false]
    rw [plus_f h, pc_plus h (by omega)]
    congr 2
    rw [Bool.eq_iff_iff]; simp
  · simp only [if_true]
    have : blB g n S u = false := by
      cases hb : blB g n S u
      · rfl
      · have := (blB_iff g n S u).1 hb u hu h
        rw [(ho u hu).1] at this; cases this
    rw [this]; rfl
/-- What the program adds up. -/
def en (g : Nat → Nat) (n : Nat) : Nat → Nat → Nat
  | 0, _ => 1
  | s + 1, u => sumTo (fun l => if (g u).testBit l = true then en g n s l else 0) n
theorem only_none (φ : Nat → Nat) (N : Nat) (h0 : φ 0 = 1) (h : ∀ S, 0 < S → φ S = 0) (hN : 0 < N) : sumTo φ N = 1 := by
  have key : ∀ m, sumTo φ (m + 1) = 1 := by
    intro m
    induction m with
    | zero => rw [sumTo, sumTo, h0]
    | succ m ih => rw [sumTo, ih, h (m + 1) (by omega)]
  rw [show N = (N - 1) + 1 by omega]; exact key _
theorem ch_none (g : Nat → Nat) (n : Nat) : chB g n 0 = true := (chB_iff g n 0).2 fun i _ k _ h => by simp at h
theorem cE_en {g : Nat → Nat} {n : Nat} (hn : n ≤ 10) (hg : ∀ k, k < n → g k < pw n) (ho : Ord n g) : ∀ s u, u < n → cE g n s u = en g n s u
  | 0, u, hu => by
    rw [cE_below hn ho 0 u hu, en]
    have key : ∀ S, S < pw n → ind (blB g n S u && chB g n S && (pc S == 0)) = if S = 0 then 1 else 0 := fun S hS => by
      by_cases e : S = 0
      · subst e
        have h1 : blB g n 0 u = true := (blB_iff g n 0 u).2 fun v _ h => by simp at h
        have h2 : pc 0 = 0 := (pc_none hn (pw_pos n)).2 rfl
        rw [h1, ch_none, h2]; rfl
      · have : ¬ pc S = 0 := fun h => e ((pc_none hn hS).1 h)
        have h2 : (pc S == 0) = false := by simpa using this
        rw [h2, Bool.and_false, if_neg e]; rfl
    rw [sumTo_congr _ key]
    exact only_none _ _ rfl (fun S hS => if_neg (by omega)) (pw_pos n)
  | s + 1, u, hu => by
    rw [cE_below hn ho (s + 1) u hu, en]
    have e1 : sumTo (fun S => ind (blB g n S u && chB g n S && (pc S == s + 1))) (pw n) = sumTo (fun S => sumTo (fun l => if (g u).testBit l = true then ind (fB g n S l && (pc S == s + 1)) else 0) n) (pw n) := by
      refine sumTo_congr _ fun S hS => ?_
      by_cases hp : pc S = s + 1
      · have h0 : S ≠ 0 := fun e => by have := (pc_none hn hS).2 e; omega
        have hpt : (pc S == s + 1) = true := by simpa using hp
        rw [hpt, Bool.and_true]
        have e2 : sumTo (fun l => if (g u).testBit l = true then ind (fB g n S l && true) else 0) n = sumTo (fun l => ind ((g u).testBit l && fB g n S l)) n := sumTo_congr n fun l _ => by
          cases h : (g u).testBit l <;> simp [ind]
        rw [e2]
        rcases sum_top hn hg ho hS h0 (fun l => (g u).testBit l) with ⟨hc, hz⟩ | ⟨hc, l, hl, htl, hz⟩
        · rw [hz, hc, Bool.and_false]; rfl
        · rw [hz, hc, Bool.and_true]
          congr 1
          rw [Bool.eq_iff_iff, blB_iff]
          rw [toB_iff] at htl
          constructor
          · intro h; exact h l hl htl.1
          · intro h v hv hbv
            rcases htl.2 v hv hbv with e | e
            · rw [e]; exact h
            · have hp := pw_le n hn
              have b1 : g l < 18446744073709551616 := by have := hg l hl; omega
              have b2 : g u < 18446744073709551616 := by have := hg u hu; omega
              exact (lack_zero _ _ b1 b2).1 ((ho u hu).2 l hl h) v e
      · have hpt : (pc S == s + 1) = false := by simpa using hp
        rw [hpt, Bool.and_false]
        exact ((sumTo_congr n fun l _ => by simp [ind]).trans (sumTo_zero n)).symm
    rw [e1, sumTo_swap (fun S l => if (g u).testBit l = true then ind (fB g n S l && (pc S == s + 1)) else 0) n (pw n)]
    refine sumTo_congr n fun l hl => ?_
    cases h : (g u).testBit l
    · simp only [Bool.false_eq_true, if_false]; exact sumTo_zero _
    · simp only [if_true]
      exact cE_en hn hg ho s l hl
/-- How many chains of s points. -/
def cN (g : Nat → Nat) (n s N : Nat) : Nat := sumTo (fun S => ind (chB g n S && (pc S == s))) N
def tot (g : Nat → Nat) (n s : Nat) : Nat := sumTo (en g n s) n
theorem cN_zero {g : Nat → Nat} {n : Nat} (hn : n ≤ 10) : cN g n 0 (pw n) = 1 := by
  unfold cN
  have key : ∀ S, S < pw n → ind (chB g n S && (pc S == 0)) = if S = 0 then 1 else 0 := fun S hS => by
    by_cases e : S = 0
    · subst e
      have h2 : pc 0 = 0 := (pc_none hn (pw_pos n)).2 rfl
      rw [ch_none, h2]; rfl
    · have : ¬ pc S = 0 := fun h => e ((pc_none hn hS).1 h)
      have h2 : (pc S == 0) = false := by simpa using this
      rw [h2, Bool.and_false, if_neg e]; rfl
  rw [sumTo_congr _ key]
  exact only_none _ _ rfl (fun S hS => if_neg (by omega)) (pw_pos n)
theorem cN_succ {g : Nat → Nat} {n : Nat} (hn : n ≤ 10) (hg : ∀ k, k < n → g k < pw n) (ho : Ord n g) (s : Nat) : cN g n (s + 1) (pw n) = tot g n s := by
  unfold cN tot
  have e0 : sumTo (en g n s) n = sumTo (fun u => cE g n s u) n := sumTo_congr n fun u hu => (cE_en hn hg ho s u hu).symm
  rw [e0]
  unfold cE
  rw [← sumTo_swap (fun S u => ind (fB g n S u && (pc S == s + 1))) n (pw n)]
  refine sumTo_congr _ fun S hS => ?_
  by_cases hp : pc S = s + 1
  · have h0 : S ≠ 0 := fun e => by have := (pc_none hn hS).2 e; omega
    have hpt : (pc S == s + 1) = true := by simpa using hp
    rw [hpt, Bool.and_true]
    have e2 : sumTo (fun u => ind (fB g n S u && true)) n = sumTo (fun u => ind (true && fB g n S u)) n := sumTo_congr n fun u _ => by simp
    rw [e2]
    rcases sum_top hn hg ho hS h0 (fun _ => true) with ⟨hc, hz⟩ | ⟨hc, l, hl, htl, hz⟩
    · rw [hz, hc]; rfl
    · rw [hz, hc]
  · have hpt : (pc S == s + 1) = false := by simpa using hp
    rw [hpt, Bool.and_false]
    exact ((sumTo_congr n fun l _ => by simp [ind]).trans (sumTo_zero n)).symm
theorem en_pos {g : Nat → Nat} {n : Nat} (hn : n ≤ 10) (hg : ∀ k, k < n → g k < pw n) (ho : Ord n g) : ∀ s u, u < n → (0 < en g n s u ↔ s ≤ ht g n u)
  | 0, u, _ => by simp [en]
  | s + 1, u, hu => by
    rw [en, sumTo_pos, Nat.succ_le_iff, ht_ge hn hg ho hu]
    constructor
    · rintro ⟨l, hl, h⟩
      cases hb : (g u).testBit l
      · rw [hb] at h; simp at h
      · rw [hb] at h
        simp only [if_true] at h
        exact ⟨l, hl, hb, (en_pos hn hg ho s l hl).1 h⟩
    · rintro ⟨l, hl, hb, h⟩
      refine ⟨l, hl, ?_⟩
      rw [hb]
      simp only [if_true]
      exact (en_pos hn hg ho s l hl).2 h
theorem tot_pos {g : Nat → Nat} {n : Nat} (hn : n ≤ 10) (hg : ∀ k, k < n → g k < pw n) (ho : Ord n g) (s : Nat) : 0 < tot g n s ↔ s < tops g n := by
  unfold tot
  rw [sumTo_pos]
  constructor
  · rintro ⟨u, hu, h⟩
    have := (en_pos hn hg ho s u hu).1 h
    have := ht_lt_tops (g := g) hu
    omega
  · intro h
    obtain ⟨u, hu, h2⟩ := lt_maxTo (show s < maxTo (fun i => ht g n i + 1) n from h)
    exact ⟨u, hu, (en_pos hn hg ho s u hu).2 (by omega)⟩
theorem ind_sum_le (P : Nat → Bool) : ∀ N, sumTo (fun S => ind (P S)) N ≤ N
  | 0 => Nat.le_refl _
  | N + 1 => by have := ind_sum_le P N; have := ind_le (P N); rw [sumTo]; omega
theorem en_le {g : Nat → Nat} {n : Nat} (hn : n ≤ 10) (hg : ∀ k, k < n → g k < pw n) (ho : Ord n g) (s u : Nat) (hu : u < n) : en g n s u ≤ 1024 := by
  rw [← cE_en hn hg ho s u hu]
  exact Nat.le_trans (ind_sum_le _ _) (pw_le n hn)
end Go.Proofs.YtncjlfhgenmheabDoor
