/-
  Words that go into others, least ones, heaps that are lighter, rows that divide others: plain facts. No Go text here. No condition.
-/
import Derived.Test.YtimpgcmkdcmhkabDoorEmA
namespace Go.Proofs.YtimpgcmkdcmhkabDoor
open Go.RowKit

def cntT (P : Nat → Bool) : Nat → Nat
  | 0 => 0
  | k + 1 => cntT P k + (if P k = true then 1 else 0)
theorem cntT_le (P : Nat → Bool) : ∀ k, cntT P k ≤ k
  | 0 => Nat.le_refl _
  | k + 1 => by have := cntT_le P k; unfold cntT; split <;> omega
theorem cntT_sub {P Q : Nat → Bool} : ∀ k, (∀ x, x < k → P x = true → Q x = true) → cntT P k ≤ cntT Q k
  | 0, _ => Nat.le_refl _
  | k + 1, h => by
    have h1 := cntT_sub k (fun x hx => h x (by omega))
    unfold cntT
    by_cases hp : P k = true
    · rw [if_pos hp, if_pos (h k (by omega) hp)]; omega
    · rw [if_neg hp]; split <;> omega
theorem cntT_congr {P Q : Nat → Bool} : ∀ k, (∀ x, x < k → P x = Q x) → cntT P k = cntT Q k
  | 0, _ => rfl
  | k + 1, h => by unfold cntT; rw [cntT_congr k (fun x hx => h x (by omega)), h k (by omega)]
theorem pts_mem (s : Nat) : ∀ k i, i ∈ pts s k ↔ i < k ∧ s.testBit i = true
  | 0, i => by simp [pts]
  | k + 1, i => by
    have ih := pts_mem s k i
    cases h : s.testBit k
    · rw [pts_no h, ih]
      constructor
      · rintro ⟨h1, h2⟩; exact ⟨by omega, h2⟩
      · rintro ⟨h1, h2⟩
        have : i ≠ k := fun e => by rw [e, h] at h2; cases h2
        exact ⟨by omega, h2⟩
    · rw [pts_yes h, List.mem_append, ih]
      constructor
      · rintro (⟨h1, h2⟩ | h1)
        · exact ⟨by omega, h2⟩
        · have : i = k := by simpa using h1
          rw [this]; exact ⟨by omega, h⟩
      · rintro ⟨h1, h2⟩
        by_cases e : i = k
        · exact .inr (by simp [e])
        · exact .inl ⟨by omega, h2⟩
theorem nth_mem {l : List Nat} {q : Nat} : q ∈ l ↔ ∃ j, j < l.length ∧ nth l j = q := by
  constructor
  · intro h
    obtain ⟨j, hj, e⟩ := List.getElem_of_mem h
    exact ⟨j, hj, by simp [nth, hj, e]⟩
  · rintro ⟨j, hj, e⟩
    have : nth l j = l[j] := by simp [nth, hj]
    rw [← e, this]
    exact List.getElem_mem hj
theorem cntT_strict {P Q : Nat → Bool} : ∀ n k, k < n → Q k = true → P k = false → (∀ x, x < n → P x = true → Q x = true) → cntT P n + 1 ≤ cntT Q n
  | 0, k, hk, _, _, _ => absurd hk (Nat.not_lt_zero _)
  | n + 1, k, hk, hq, hp, h => by
    by_cases e : k = n
    · subst e
      have := cntT_sub k (fun x hx => h x (by omega))
      rw [cntT, cntT, if_pos hq, if_neg (by rw [hp]; simp)]; omega
    · have ih := cntT_strict n k (by omega) hq hp (fun x hx => h x (by omega))
      rw [cntT, cntT]
      by_cases hpn : P n = true
      · rw [if_pos hpn, if_pos (h n (by omega) hpn)]; omega
      · rw [if_neg hpn]; split <;> omega

/-- How many letters of a are laid, when j letters of b have been looked at. -/
def gi (g : Nat → Nat) (la : Nat) (fa fb : Nat → Nat) : Nat → Nat
  | 0 => 0
  | j + 1 => if gi g la fa fb j < la ∧ upt g (fa (gi g la fa fb j)) (fb j) = true then gi g la fa fb j + 1 else gi g la fa fb j
theorem gi_yes {g : Nat → Nat} {la : Nat} {fa fb : Nat → Nat} {j : Nat} (h1 : gi g la fa fb j < la) (h2 : upt g (fa (gi g la fa fb j)) (fb j) = true) : gi g la fa fb (j + 1) = gi g la fa fb j + 1 := by
  rw [gi, if_pos ⟨h1, h2⟩]
theorem gi_full {g : Nat → Nat} {la : Nat} {fa fb : Nat → Nat} {j : Nat} (h1 : ¬ gi g la fa fb j < la) : gi g la fa fb (j + 1) = gi g la fa fb j := by
  rw [gi, if_neg (fun h => h1 h.1)]
theorem gi_no {g : Nat → Nat} {la : Nat} {fa fb : Nat → Nat} {j : Nat} (h2 : upt g (fa (gi g la fa fb j)) (fb j) = false) : gi g la fa fb (j + 1) = gi g la fa fb j := by
  rw [gi, if_neg (fun h => by rw [h2] at h; cases h.2)]
theorem gi_step (g : Nat → Nat) (la : Nat) (fa fb : Nat → Nat) (j : Nat) : gi g la fa fb (j + 1) = gi g la fa fb j ∨ (gi g la fa fb (j + 1) = gi g la fa fb j + 1 ∧ gi g la fa fb j < la ∧ upt g (fa (gi g la fa fb j)) (fb j) = true) := by
  by_cases h : gi g la fa fb j < la ∧ upt g (fa (gi g la fa fb j)) (fb j) = true
  · exact .inr ⟨gi_yes h.1 h.2, h⟩
  · left; rw [gi, if_neg h]
theorem gi_la (g : Nat → Nat) (la : Nat) (fa fb : Nat → Nat) : ∀ j, gi g la fa fb j ≤ la
  | 0 => Nat.zero_le _
  | j + 1 => by have := gi_la g la fa fb j; have := gi_step g la fa fb j; omega
theorem gi_le (g : Nat → Nat) (la : Nat) (fa fb : Nat → Nat) : ∀ j, gi g la fa fb j ≤ j
  | 0 => Nat.zero_le _
  | j + 1 => by have := gi_le g la fa fb j; have := gi_step g la fa fb j; omega
theorem gi_more (g : Nat → Nat) (la : Nat) (fa fb : Nat → Nat) (j : Nat) : ∀ d, gi g la fa fb j ≤ gi g la fa fb (j + d)
  | 0 => Nat.le_refl _
  | d + 1 => by have := gi_more g la fa fb j d; have := gi_step g la fa fb (j + d); rw [← Nat.add_assoc]; omega
theorem gi_mono {g : Nat → Nat} {la : Nat} {fa fb : Nat → Nat} {j k : Nat} (h : j ≤ k) : gi g la fa fb j ≤ gi g la fa fb k := by
  have := gi_more g la fa fb j (k - j); rwa [show j + (k - j) = k by omega] at this
/-- Does the word go into the other one? -/
def goesB (g : Nat → Nat) (la : Nat) (fa : Nat → Nat) (lb : Nat) (fb : Nat → Nat) : Bool := gi g la fa fb lb == la
/-- Its letters can be laid on letters of that, from left to right. -/
def Emb (g : Nat → Nat) (la : Nat) (fa : Nat → Nat) (lb : Nat) (fb : Nat → Nat) : Prop :=
  ∃ p : Nat → Nat, (∀ i, i < la → p i < lb ∧ upt g (fa i) (fb (p i)) = true) ∧ ∀ i j, i < j → j < la → p i < p j
theorem gi_hit (g : Nat → Nat) (la : Nat) (fa fb : Nat → Nat) : ∀ L i, i < gi g la fa fb L → ∃ j, j < L ∧ gi g la fa fb j = i ∧ gi g la fa fb (j + 1) = i + 1 ∧ upt g (fa i) (fb j) = true
  | 0, i, h => absurd h (Nat.not_lt_zero _)
  | L + 1, i, h => by
    by_cases hi : i < gi g la fa fb L
    · obtain ⟨j, h1, h2⟩ := gi_hit g la fa fb L i hi
      exact ⟨j, by omega, h2⟩
    · rcases gi_step g la fa fb L with e | ⟨e, h1, h2⟩
      · omega
      · have e2 : gi g la fa fb L = i := by omega
        refine ⟨L, by omega, e2, by omega, ?_⟩
        rw [e2] at h2; exact h2
theorem goes_iff {g : Nat → Nat} {la : Nat} {fa : Nat → Nat} {lb : Nat} {fb : Nat → Nat} : goesB g la fa lb fb = true ↔ Emb g la fa lb fb := by
  unfold goesB
  rw [beq_iff_eq]
  constructor
  · intro h
    have key : ∀ i, ∃ j, i < la → (j < lb ∧ gi g la fa fb j = i ∧ gi g la fa fb (j + 1) = i + 1 ∧ upt g (fa i) (fb j) = true) := fun i => by
      by_cases hi : i < la
      · obtain ⟨j, hj⟩ := gi_hit g la fa fb lb i (by omega)
        exact ⟨j, fun _ => hj⟩
      · exact ⟨0, fun h => absurd h hi⟩
    obtain ⟨p, hp⟩ := Classical.axiomOfChoice key
    refine ⟨p, fun i hi => ⟨(hp i hi).1, (hp i hi).2.2.2⟩, fun i j hij hj => ?_⟩
    have h1 := hp i (by omega)
    have h2 := hp j hj
    by_cases hc : p i < p j
    · exact hc
    · have := gi_mono (g := g) (la := la) (fa := fa) (fb := fb) (show p j + 1 ≤ p i + 1 by omega)
      omega
  · rintro ⟨p, hp, hm⟩
    have key : ∀ i, i < la → i + 1 ≤ gi g la fa fb (p i + 1) := fun i => by
      induction i with
      | zero =>
        intro h0
        have := gi_le g la fa fb (p 0)
        by_cases hz : gi g la fa fb (p 0) = 0
        · have := gi_yes (g := g) (la := la) (fa := fa) (fb := fb) (j := p 0) (by omega) (by rw [hz]; exact (hp 0 h0).2)
          omega
        · have := gi_mono (g := g) (la := la) (fa := fa) (fb := fb) (show p 0 ≤ p 0 + 1 by omega)
          omega
      | succ i ih =>
        intro hi
        have h1 := ih (by omega)
        have h2 := hm i (i + 1) (by omega) hi
        have h3 := gi_mono (g := g) (la := la) (fa := fa) (fb := fb) (show p i + 1 ≤ p (i + 1) by omega)
        by_cases hz : gi g la fa fb (p (i + 1)) = i + 1
        · have := gi_yes (g := g) (la := la) (fa := fa) (fb := fb) (j := p (i + 1)) (by omega) (by rw [hz]; exact (hp (i + 1) hi).2)
          omega
        · have := gi_mono (g := g) (la := la) (fa := fa) (fb := fb) (show p (i + 1) ≤ p (i + 1) + 1 by omega)
          omega
    have hle := gi_la g la fa fb lb
    by_cases h0 : la = 0
    · omega
    · have h1 := key (la - 1) (by omega)
      have h2 := (hp (la - 1) (by omega)).1
      have h3 := gi_mono (g := g) (la := la) (fa := fa) (fb := fb) (show p (la - 1) + 1 ≤ lb by omega)
      omega
theorem ord_trans {n : Nat} {g : Nat → Nat} (ho : Ord n g) (hg : ∀ k, k < n → g k < 1024) {a b c : Nat} (hb : b < n) (hc : c < n) (h1 : (g b).testBit a = true) (h2 : (g c).testBit b = true) : (g c).testBit a = true :=
  (lack_zero (g b) (g c) (by have := hg b hb; omega) (by have := hg c hc; omega)).1 ((ho c hc).2 b hb h2) a h1
theorem upt_trans {n : Nat} {g : Nat → Nat} (ho : Ord n g) (hg : ∀ k, k < n → g k < 1024) {a b c : Nat} (hb : b < n) (hc : c < n) (h1 : upt g a b = true) (h2 : upt g b c = true) : upt g a c = true := by
  simp only [upt, Bool.or_eq_true, decide_eq_true_eq] at h1 h2 ⊢
  rcases h1 with rfl | h1
  · exact h2
  · rcases h2 with rfl | h2
    · exact .inr h1
    · exact .inr (ord_trans ho hg hb hc h1 h2)
theorem upt_self (g : Nat → Nat) (a : Nat) : upt g a a = true := by simp [upt]
theorem Emb.self (g : Nat → Nat) (la : Nat) (fa : Nat → Nat) : Emb g la fa la fa := ⟨fun i => i, fun _ hi => ⟨hi, upt_self g _⟩, fun _ _ h _ => h⟩
theorem Emb.trans {n : Nat} {g : Nat → Nat} (ho : Ord n g) (hg : ∀ k, k < n → g k < 1024) {la lb lc : Nat} {fa fb fc : Nat → Nat} (hb : ∀ i, i < lb → fb i < n) (hc : ∀ i, i < lc → fc i < n)
    (h1 : Emb g la fa lb fb) (h2 : Emb g lb fb lc fc) : Emb g la fa lc fc := by
  obtain ⟨p, hp, hpm⟩ := h1
  obtain ⟨q, hq, hqm⟩ := h2
  refine ⟨fun i => q (p i), fun i hi => ?_, fun i j hij hj => hqm _ _ (hpm i j hij hj) (hp j hj).1⟩
  have a1 := hp i hi
  have a2 := hq (p i) a1.1
  exact ⟨a2.1, upt_trans ho hg (hb _ a1.1) (hc _ a2.1) a1.2 a2.2⟩
theorem goes_len {g : Nat → Nat} {la : Nat} {fa : Nat → Nat} {lb : Nat} {fb : Nat → Nat} (h : lb < la) : goesB g la fa lb fb = false := by
  have := gi_le g la fa fb lb
  unfold goesB
  rw [beq_eq_false_iff_ne]; omega

/-- Is thing i in the way of thing k? -/
def badB (P : Nat → Nat → Bool) (k i : Nat) : Bool := decide (i ≠ k) && (P i k && (decide (i < k) || !P k i))
def lstB (P : Nat → Nat → Bool) (n k : Nat) : Bool := decide (∀ i, i < n → badB P k i = false)
/-- The least ones among the first k of n things. -/
def lst (P : Nat → Nat → Bool) (n : Nat) : Nat → List Nat
  | 0 => []
  | k + 1 => if lstB P n k = true then lst P n k ++ [k] else lst P n k
theorem lst_yes {P : Nat → Nat → Bool} {n k : Nat} (h : ∀ i, i < n → badB P k i = false) : lst P n (k + 1) = lst P n k ++ [k] := by
  rw [lst, if_pos (show lstB P n k = true from decide_eq_true h)]
theorem lst_no {P : Nat → Nat → Bool} {n k i : Nat} (hi : i < n) (h : badB P k i = true) : lst P n (k + 1) = lst P n k := by
  rw [lst, if_neg]
  intro e
  have := of_decide_eq_true e i hi
  rw [h] at this; cases this
theorem lst_len (P : Nat → Nat → Bool) (n : Nat) : ∀ k, (lst P n k).length ≤ k
  | 0 => Nat.zero_le _
  | k + 1 => by have := lst_len P n k; rw [lst]; split <;> simp <;> omega
theorem lst_mem {P : Nat → Nat → Bool} {n : Nat} : ∀ {k i : Nat}, i ∈ lst P n k ↔ i < k ∧ ∀ j, j < n → badB P i j = false
  | 0, i => by simp [lst]
  | k + 1, i => by
    have ih := lst_mem (P := P) (n := n) (k := k) (i := i)
    by_cases h : lstB P n k = true
    · have hh := of_decide_eq_true h
      rw [lst, if_pos h, List.mem_append, ih, List.mem_singleton]
      constructor
      · rintro (⟨h1, h2⟩ | rfl)
        · exact ⟨by omega, h2⟩
        · exact ⟨by omega, hh⟩
      · rintro ⟨h1, h2⟩
        by_cases e : i = k
        · exact .inr e
        · exact .inl ⟨by omega, h2⟩
    · rw [lst, if_neg h, ih]
      constructor
      · rintro ⟨h1, h2⟩
        exact ⟨by omega, h2⟩
      · rintro ⟨h1, h2⟩
        by_cases e : i = k
        · subst e; exact absurd (decide_eq_true h2) h
        · exact ⟨by omega, h2⟩
theorem lst_congr {P Q : Nat → Nat → Bool} {n : Nat} (h : ∀ i k, i < n → k < n → P i k = Q i k) : ∀ k, k ≤ n → lst P n k = lst Q n k
  | 0, _ => rfl
  | k + 1, hk => by
    have e : lstB P n k = lstB Q n k := by
      unfold lstB
      rw [Bool.eq_iff_iff, decide_eq_true_eq, decide_eq_true_eq]
      constructor
      · intro H i hi
        have := H i hi
        unfold badB at this ⊢
        rwa [h i k hi (by omega), h k i (by omega) hi] at this
      · intro H i hi
        have := H i hi
        unfold badB at this ⊢
        rwa [h i k hi (by omega), h k i (by omega) hi]
    rw [lst, lst, e, lst_congr h k (by omega)]
/-- Of the least ones none goes into another one. -/
theorem lst_apart {P : Nat → Nat → Bool} {n i k : Nat} (hi : i ∈ lst P n n) (hk : k ∈ lst P n n) (hne : i ≠ k) : P i k = false := by
  obtain ⟨h1, h2⟩ := lst_mem.1 hi
  obtain ⟨h3, h4⟩ := lst_mem.1 hk
  cases hp : P i k
  · rfl
  · have a1 := h4 i h1
    have a2 := h2 k h3
    simp only [badB, hp, Bool.true_and, Bool.and_eq_false_iff, decide_eq_false_iff_not, Bool.or_eq_false_iff, Bool.not_eq_false'] at a1 a2
    rcases a1 with a1 | ⟨a1, a3⟩
    · exact absurd hne a1
    · rw [a3] at a2
      rcases a2 with a2 | a2 | a2
      · exact absurd (Ne.symm hne) a2
      · cases a2
      · omega
/-- Into each thing one of the least ones goes. -/
theorem lst_some {P : Nat → Nat → Bool} {n : Nat} (hr : ∀ i, i < n → P i i = true) (ht : ∀ i j k, i < n → j < n → k < n → P i j = true → P j k = true → P i k = true) :
    ∀ m k, k < n → cntT (fun j => P j k) n * (n + 1) + k ≤ m → ∃ i, i ∈ lst P n n ∧ P i k = true
  | m, k, hk, hm => by
    by_cases hl : ∀ i, i < n → badB P k i = false
    · exact ⟨k, lst_mem.2 ⟨hk, hl⟩, hr k hk⟩
    · obtain ⟨i, hi⟩ := Classical.not_forall.1 hl
      obtain ⟨hi, hb⟩ := Classical.not_imp.1 hi
      have hb' : badB P k i = true := by cases e : badB P k i <;> simp_all
      simp only [badB, Bool.and_eq_true, decide_eq_true_eq, Bool.or_eq_true, Bool.not_eq_true'] at hb'
      obtain ⟨hne, hp, hor⟩ := hb'
      have hsub : ∀ x, x < n → P x i = true → P x k = true := fun x hx h => ht x i k hx hi hk h hp
      have hle := cntT_sub n hsub
      have hless : cntT (fun j => P j i) n * (n + 1) + i < cntT (fun j => P j k) n * (n + 1) + k := by
        rcases hor with h | h
        · have := Nat.mul_le_mul_right (n + 1) hle; omega
        · have : cntT (fun j => P j i) n + 1 ≤ cntT (fun j => P j k) n := cntT_strict n k hk (hr k hk) h hsub
          have := Nat.mul_le_mul_right (n + 1) this
          rw [Nat.add_mul, Nat.one_mul] at this
          omega
      match m, hm with
      | 0, hm => omega
      | m + 1, hm =>
        obtain ⟨j, hj, hj2⟩ := lst_some hr ht m i hi (by omega)
        exact ⟨j, hj, ht j i k (lst_mem.1 hj).1 hi hk hj2 hp⟩

/-- How often a heap has a letter. -/
def tms (l : Nat) (f : Nat → Nat) (x : Nat) : Nat := cntT (fun i => f i == x) l
/-- Is a heap lighter than another one, by how often they have each letter? -/
def Light (g : Nat → Nat) (n : Nat) (A B : Nat → Nat) : Prop :=
  (∃ x, x < n ∧ A x ≠ B x) ∧ ∀ x, x < n → B x < A x → ∃ y, y < n ∧ (g y).testBit x = true ∧ A y < B y
def mor (A B : Nat → Nat) (n : Nat) : Nat := setBy (fun x => decide (B x < A x)) n
/-- What stands below the first k of a list. -/
def ors (g : Nat → Nat) (l : List Nat) : Nat → Nat
  | 0 => 0
  | k + 1 => ors g l k ||| g (nth l k)
theorem ors_bit (g : Nat → Nat) (l : List Nat) (i : Nat) : ∀ k, (ors g l k).testBit i = true ↔ ∃ j, j < k ∧ (g (nth l j)).testBit i = true
  | 0 => by simp [ors]
  | k + 1 => by
    rw [ors, Nat.testBit_or, Bool.or_eq_true, ors_bit g l i k]
    constructor
    · rintro (⟨j, h1, h2⟩ | h)
      · exact ⟨j, by omega, h2⟩
      · exact ⟨k, by omega, h⟩
    · rintro ⟨j, h1, h2⟩
      by_cases e : j = k
      · subst e; exact .inr h2
      · exact .inl ⟨j, by omega, h2⟩
theorem ors_lt {g : Nat → Nat} {l : List Nat} (h : ∀ j, j < l.length → g (nth l j) < 1024) : ∀ k, k ≤ l.length → ors g l k < 1024
  | 0, _ => by simp [ors]
  | k + 1, hk => Nat.or_lt_two_pow (n := 10) (ors_lt h k (by omega)) (h k (by omega))
theorem mor_bit (A B : Nat → Nat) (n x : Nat) : (mor A B n).testBit x = true ↔ x < n ∧ B x < A x := by
  unfold mor; rw [setBy_bit]; simp
theorem mor_lt {A B : Nat → Nat} {n : Nat} (hn : n ≤ 10) : mor A B n < 1024 := Nat.lt_of_lt_of_le (setBy_lt _ _) (pw_le n hn)
def lightB (g : Nat → Nat) (n : Nat) (A B : Nat → Nat) : Bool :=
  (mor B A n != 0) && (lack (mor A B n) (ors g (pts (mor B A n) 10) (pts (mor B A n) 10).length) == 0)
theorem light_iff {g : Nat → Nat} {n : Nat} {A B : Nat → Nat} (hn : n ≤ 10) (hg : ∀ k, k < n → g k < 1024) : lightB g n A B = true ↔ Light g n A B := by
  have hm : ∀ j, j < (pts (mor B A n) 10).length → nth (pts (mor B A n) 10) j < n ∧ A (nth (pts (mor B A n) 10) j) < B (nth (pts (mor B A n) 10) j) := fun j hj => by
    have := (pts_mem _ _ _).1 (nth_mem.2 ⟨j, hj, rfl⟩)
    exact (mor_bit _ _ _ _).1 this.2
  have hor := ors_lt (g := g) (fun j hj => hg _ (hm j hj).1) _ (Nat.le_refl _)
  have hA : mor A B n < 1024 := mor_lt hn
  unfold lightB Light
  rw [Bool.and_eq_true, beq_iff_eq, bne_iff_ne, lack_zero _ _ (by omega) (by omega)]
  have hex : ∀ x, (ors g (pts (mor B A n) 10) (pts (mor B A n) 10).length).testBit x = true ↔ ∃ y, y < n ∧ (g y).testBit x = true ∧ A y < B y := fun x => by
    rw [ors_bit]
    constructor
    · rintro ⟨j, hj, h⟩
      exact ⟨_, (hm j hj).1, h, (hm j hj).2⟩
    · rintro ⟨y, hy, h1, h2⟩
      obtain ⟨j, hj, e⟩ := nth_mem.1 ((pts_mem (mor B A n) 10 y).2 ⟨by omega, (mor_bit _ _ _ _).2 ⟨hy, h2⟩⟩)
      exact ⟨j, hj, by rw [e]; exact h1⟩
  constructor
  · rintro ⟨h1, h2⟩
    refine ⟨?_, fun x hx h => (hex x).1 (h2 x ((mor_bit _ _ _ _).2 ⟨hx, h⟩))⟩
    obtain ⟨i, hi⟩ : ∃ i, (mor B A n).testBit i = true := by
      refine Classical.byContradiction fun hno => h1 (Nat.eq_of_testBit_eq fun i => ?_)
      cases e : (mor B A n).testBit i
      · simp
      · exact absurd ⟨i, e⟩ hno
    have := (mor_bit _ _ _ _).1 hi
    exact ⟨i, this.1, by omega⟩
  · rintro ⟨⟨x, hx, hne⟩, h2⟩
    have some_y : ∃ y, y < n ∧ A y < B y := by
      by_cases h : A x < B x
      · exact ⟨x, hx, h⟩
      · obtain ⟨y, h3, _, h4⟩ := h2 x hx (by omega)
        exact ⟨y, h3, h4⟩
    refine ⟨?_, fun i hi => (hex i).2 (h2 i ((mor_bit _ _ _ _).1 hi).1 ((mor_bit _ _ _ _).1 hi).2)⟩
    intro h0
    obtain ⟨y, h3, h4⟩ := some_y
    have := (mor_bit B A n y).2 ⟨h3, h4⟩
    rw [h0] at this; simp at this
/-- A row that has in no place more. -/
def divB (l : Nat) (f h : Nat → Int) : Bool := decide (∀ i, i < l → f i ≤ h i)
end Go.Proofs.YtimpgcmkdcmhkabDoor
