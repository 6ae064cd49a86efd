/-
  Rival's theorem: if just one point is left of an order, each monotone map leaves one where it is. Of a part of an order: how many cover a point in it and how many it covers, by the program's nearest points; which point goes next, by the part. No condition but that sets are of the order's points.
-/
import Derived.Test.YtfajgahofkcndaaDoorFBegun
namespace Go.Proofs.YtfajgahofkcndaaDoor
open Go.RowKit

def Cov (g : Nat → Nat) (n x y : Nat) : Prop := (g y).testBit x = true ∧ ∀ k, k < n → ¬ ((g k).testBit x = true ∧ (g y).testBit k = true)
def covQ (g : Nat → Nat) (n x y : Nat) : Bool := (g y).testBit x && (trn g n x &&& g y == 0)
theorem covQ_iff (g : Nat → Nat) (n x y : Nat) : covQ g n x y = true ↔ Cov g n x y := by
  unfold covQ Cov
  rw [Bool.and_eq_true, beq_iff_eq]
  refine and_congr Iff.rfl ⟨fun h k hk hh => ?_, fun h => ?_⟩
  · have := setBy_bit (fun z => (g z).testBit x) n k
    have h2 : (trn g n x &&& g y).testBit k = true := by
      rw [Nat.testBit_and, show (trn g n x).testBit k = (decide (k < n) && (g k).testBit x) from this]
      simp [hk, hh.1, hh.2]
    rw [h] at h2
    simp at h2
  · apply Nat.eq_of_testBit_eq
    intro k
    rw [Nat.testBit_and, show (trn g n x).testBit k = (decide (k < n) && (g k).testBit x) from setBy_bit _ n k]
    by_cases hk : k < n
    · cases h1 : (g k).testBit x
      · simp
      · cases h2 : (g y).testBit k
        · simp
        · exact absurd ⟨h1, h2⟩ (h k hk)
    · simp [hk]
theorem covQ_of {g : Nat → Nat} {n x y : Nat} (h : Cov g n x y) : covQ g n x y = true := (covQ_iff g n x y).2 h
theorem covQ_not {g : Nat → Nat} {n x y : Nat} (h : ¬ Cov g n x y) : covQ g n x y = false := by
  cases e : covQ g n x y
  · rfl
  · exact absurd ((covQ_iff g n x y).1 e) h
/-- A part of an order. -/
def prt (g : Nat → Nat) (L : List Nat) (i : Nat) : Nat := setBy (fun k => (g (nth L i)).testBit (nth L k)) L.length
theorem prt_bit (g : Nat → Nat) (L : List Nat) (i k : Nat) : (prt g L i).testBit k = (decide (k < L.length) && (g (nth L i)).testBit (nth L k)) := setBy_bit _ _ _
theorem pts_pcn (s : Nat) : ∀ k, (pts s k).length = pcn s k
  | 0 => rfl
  | k + 1 => by
    have ih := pts_pcn s k
    unfold pts pcn
    split
    · rw [List.length_append, ih]; rfl
    · exact ih
theorem pts_filter (s t : Nat) : ∀ n, (pts s n).filter t.testBit = pts (s &&& t) n
  | 0 => rfl
  | n + 1 => by
    have ih := pts_filter s t n
    unfold pts
    rw [Nat.testBit_and]
    cases h1 : s.testBit n <;> cases h2 : t.testBit n <;> simp [ih, h2]
theorem pts_sorted (s : Nat) : ∀ n, (pts s n).Pairwise (· < ·)
  | 0 => List.Pairwise.nil
  | n + 1 => by
    have ih := pts_sorted s n
    unfold pts
    split
    · refine List.pairwise_append.2 ⟨ih, List.pairwise_singleton _ _, fun a ha b hb => ?_⟩
      cases List.mem_singleton.1 hb
      exact pts_lt s n a ha
    · exact ih
theorem nth_mem {L : List Nat} {k : Nat} (h : k < L.length) : nth L k ∈ L := by
  unfold nth; rw [List.getD_eq_getElem?_getD, List.getElem?_eq_getElem h]; exact List.getElem_mem h
theorem nth_of_mem {L : List Nat} {x : Nat} (h : x ∈ L) : ∃ k, k < L.length ∧ nth L k = x := by
  obtain ⟨k, hk, e⟩ := List.mem_iff_getElem.1 h
  refine ⟨k, hk, ?_⟩
  unfold nth; rw [List.getD_eq_getElem?_getD, List.getElem?_eq_getElem hk]; exact e
theorem nth_rise {s n j i : Nat} (hi : i < (pts s n).length) (hj : j < (pts s n).length) (h : nth (pts s n) j < nth (pts s n) i) : j < i := by
  have hp := List.pairwise_iff_getElem.1 (pts_sorted s n)
  rcases Nat.lt_trichotomy j i with e | e | e
  · exact e
  · subst e; omega
  · have := hp i j hi hj e
    have e1 : nth (pts s n) i = (pts s n)[i] := by unfold nth; rw [List.getD_eq_getElem?_getD, List.getElem?_eq_getElem hi]; rfl
    have e2 : nth (pts s n) j = (pts s n)[j] := by unfold nth; rw [List.getD_eq_getElem?_getD, List.getElem?_eq_getElem hj]; rfl
    omega
theorem map_nth (L : List Nat) : (List.range L.length).map (nth L) = L := by
  apply List.ext_getElem
  · simp
  · intro i h1 h2
    simp [nth, List.getD_eq_getElem?_getD, h2]
/-- How many of the first k there are. -/
def cntQ (P : Nat → Bool) : Nat → Nat
  | 0 => 0
  | k + 1 => if P k = true then cntQ P k + 1 else cntQ P k
theorem cntQ_le (P : Nat → Bool) : ∀ k, cntQ P k ≤ k
  | 0 => Nat.le_refl _
  | k + 1 => by have := cntQ_le P k; unfold cntQ; split <;> omega
theorem cntQ_range (P : Nat → Bool) : ∀ k, cntQ P k = ((List.range k).filter P).length
  | 0 => rfl
  | k + 1 => by
    have ih := cntQ_range P k
    rw [List.range_succ, List.filter_append, List.length_append]
    unfold cntQ
    cases h : P k <;> simp [h, ih]
theorem cntQ_congr {P Q : Nat → Bool} : ∀ k, (∀ i, i < k → P i = Q i) → cntQ P k = cntQ Q k
  | 0, _ => rfl
  | k + 1, h => by
    have ih := cntQ_congr k (fun i hi => h i (by omega))
    unfold cntQ
    rw [h k (by omega), ih]
/-- Of the points of a set, those that are in another one. -/
theorem cnt_pts (s t n : Nat) (hn : n ≤ 10) (ht : ∀ x, t.testBit x = true → s.testBit x = true ∧ x < n) : cntQ (fun k => t.testBit (nth (pts s n) k)) (pts s n).length = pc t := by
  have e : (List.range (pts s n).length).filter (fun k => t.testBit (nth (pts s n) k)) = (List.range (pts s n).length).filter (t.testBit ∘ nth (pts s n)) := rfl
  rw [cntQ_range, e, ← List.length_map (f := nth (pts s n)), ← List.filter_map, map_nth, pts_filter, pts_pcn]
  have h1 : s &&& t = t := by
    apply Nat.eq_of_testBit_eq
    intro x
    rw [Nat.testBit_and]
    cases h : t.testBit x
    · simp
    · simp [(ht x h).1]
  rw [h1]
  have := pcn_stop (s := t) (k := n) (fun j hj => by
    cases h : t.testBit j
    · rfl
    · have := (ht j h).2; omega) (10 - n)
  rw [show n + (10 - n) = 10 by omega] at this
  exact this.symm
theorem orL_bit (g : Nat → Nat) (l : List Nat) (x : Nat) : ∀ k, (orL g l k).testBit x = true ↔ ∃ j, j < k ∧ (g (nth l j)).testBit x = true
  | 0 => by simp [orL]
  | k + 1 => by
    rw [orL, Nat.testBit_or, Bool.or_eq_true, orL_bit g l x k]
    constructor
    · rintro (⟨j, hj, h⟩ | h)
      · exact ⟨j, by omega, h⟩
      · exact ⟨k, by omega, h⟩
    · rintro ⟨j, hj, h⟩
      by_cases e : j = k
      · subst e; exact .inr h
      · exact .inl ⟨j, by omega, h⟩
/-- Which points are nearest. -/
theorem nst_bit {g : Nat → Nat} {left p q : Nat} (h10 : q ≤ 10) (hg : ∀ k, k < q → g k < pw q) (hl : left < pw q) (hp : p < q) (x : Nat) :
    (nst g left p).testBit x = true ↔ ((g p).testBit x = true ∧ left.testBit x = true) ∧ ∀ y, (g p).testBit y = true → left.testBit y = true → ¬ (g y).testBit x = true := by
  have hpw := pw_le q h10
  have hgp : g p < 1024 := Nat.lt_of_lt_of_le (hg p hp) hpw
  have hs : g p &&& left < 1024 := and_lt hgp
  have hm : ∀ y, y ∈ pts (g p &&& left) 10 ↔ (g p).testBit y = true ∧ left.testBit y = true := fun y => by
    rw [pts_mem, Nat.testBit_and, Bool.and_eq_true]
    exact ⟨fun h => h.2, fun h => ⟨bit_of_lt (n := 10) hgp h.1, h⟩⟩
  have ho : orL g (pts (g p &&& left) 10) (pts (g p &&& left) 10).length < 1024 := orL_lt (fun k hk => by
    have := (hm _).1 (nth_mem hk)
    have hy := bit_of_lt hl this.2
    exact Nat.lt_of_lt_of_le (hg _ hy) hpw) _ (Nat.le_refl _)
  unfold nst
  rw [lack_bit _ _ _ (by omega) (by omega), Bool.and_eq_true, Nat.testBit_and, Bool.and_eq_true, Bool.not_eq_true', ← Bool.not_eq_true, orL_bit]
  refine and_congr Iff.rfl ⟨fun h y h1 h2 h3 => ?_, fun h => ?_⟩
  · obtain ⟨k, hk, e⟩ := nth_of_mem ((hm y).2 ⟨h1, h2⟩)
    exact h ⟨k, hk, by rw [e]; exact h3⟩
  · rintro ⟨k, hk, h3⟩
    have := (hm _).1 (nth_mem hk)
    exact h _ this.1 this.2 h3
theorem trn_bit (g : Nat → Nat) (n x k : Nat) : (trn g n x).testBit k = (decide (k < n) && (g k).testBit x) := setBy_bit (fun z => (g z).testBit x) n k
/-- How many points of a part one covers. -/
theorem down_is {g : Nat → Nat} {left q i : Nat} (h10 : q ≤ 10) (hg : ∀ k, k < q → g k < pw q) (hl : left < pw q) (hi : i < (pts left q).length) :
    cntQ (fun k => covQ (prt g (pts left q)) (pts left q).length k i) (pts left q).length = pc (nst g left (nth (pts left q) i)) := by
  have hp := nth_pts_lt hi
  rw [← cnt_pts left (nst g left (nth (pts left q) i)) q h10 (fun x hx => by
    have := ((nst_bit h10 hg hl hp x).1 hx).1
    exact ⟨this.2, bit_of_lt hl this.2⟩)]
  refine cntQ_congr _ (fun k hk => ?_)
  rw [Bool.eq_iff_iff, covQ_iff, nst_bit h10 hg hl hp]
  have hm := (pts_mem left q (nth (pts left q) k)).1 (nth_mem hk)
  unfold Cov
  simp only [prt_bit, Bool.and_eq_true, decide_eq_true_iff]
  constructor
  · rintro ⟨⟨_, h1⟩, h2⟩
    refine ⟨⟨h1, hm.2⟩, fun y hy hy' hx => ?_⟩
    obtain ⟨j, hj, e⟩ := nth_of_mem ((pts_mem left q y).2 ⟨bit_of_lt hl hy', hy'⟩)
    exact h2 j hj ⟨⟨hk, by rw [e]; exact hx⟩, hj, by rw [e]; exact hy⟩
  · rintro ⟨⟨h1, _⟩, h2⟩
    refine ⟨⟨hk, h1⟩, fun j hj ⟨⟨_, h3⟩, _, h4⟩ => ?_⟩
    exact h2 _ h4 ((pts_mem left q _).1 (nth_mem hj)).2 h3
/-- How many cover one. -/
theorem up_is {g : Nat → Nat} {left q i : Nat} (h10 : q ≤ 10) (hl : left < pw q) (hi : i < (pts left q).length) :
    cntQ (fun k => covQ (prt g (pts left q)) (pts left q).length i k) (pts left q).length = pc (nst (trn g q) left (nth (pts left q) i)) := by
  have hp := nth_pts_lt hi
  have hh : ∀ k, k < q → trn g q k < pw q := fun k _ => trn_small g q k q (Nat.le_refl _)
  rw [← cnt_pts left (nst (trn g q) left (nth (pts left q) i)) q h10 (fun x hx => by
    have := ((nst_bit h10 hh hl hp x).1 hx).1
    exact ⟨this.2, bit_of_lt hl this.2⟩)]
  refine cntQ_congr _ (fun k hk => ?_)
  rw [Bool.eq_iff_iff, covQ_iff, nst_bit h10 hh hl hp]
  have hm := (pts_mem left q (nth (pts left q) k)).1 (nth_mem hk)
  unfold Cov
  simp only [prt_bit, trn_bit, Bool.and_eq_true, decide_eq_true_iff]
  constructor
  · rintro ⟨⟨_, h1⟩, h2⟩
    refine ⟨⟨⟨hm.1, h1⟩, hm.2⟩, fun y hy hy' hx => ?_⟩
    obtain ⟨j, hj, e⟩ := nth_of_mem ((pts_mem left q y).2 ⟨bit_of_lt hl hy', hy'⟩)
    exact h2 j hj ⟨⟨hi, by rw [e]; exact hy.2⟩, hj, by rw [e]; exact hx.2⟩
  · rintro ⟨⟨⟨_, h1⟩, _⟩, h2⟩
    refine ⟨⟨hi, h1⟩, fun j hj ⟨⟨_, h3⟩, _, h4⟩ => ?_⟩
    have hj' := (pts_mem left q _).1 (nth_mem hj)
    exact h2 _ ⟨hj'.1, h3⟩ hj'.2 ⟨hm.1, h4⟩
/-- May a point of the part go? -/
def mayP (g : Nat → Nat) (L : List Nat) (i : Nat) : Bool := cntQ (fun k => covQ (prt g L) L.length k i) L.length == 1 || cntQ (fun k => covQ (prt g L) L.length i k) L.length == 1
theorem mayP_is {g : Nat → Nat} {left q i : Nat} (h10 : q ≤ 10) (hg : ∀ k, k < q → g k < pw q) (hl : left < pw q) (hi : i < (pts left q).length) : mayP g (pts left q) i = mayB g (trn g q) left (nth (pts left q) i) := by
  unfold mayP mayB
  rw [down_is h10 hg hl hi, up_is h10 hl hi]
theorem find_no {g : Nat → Nat} {left q : Nat} (h10 : q ≤ 10) (hg : ∀ k, k < q → g k < pw q) (hl : left < pw q) (h : ∀ i, i < (pts left q).length → mayP g (pts left q) i = false) : findB (goB g (trn g q) left) q = none :=
  findB_none fun p hp => by
    unfold goB
    cases hb : left.testBit p
    · rfl
    · obtain ⟨i, hi, e⟩ := nth_of_mem ((pts_mem left q p).2 ⟨hp, hb⟩)
      have := h i hi
      rw [mayP_is h10 hg hl hi, e] at this
      simpa using this
theorem find_yes {g : Nat → Nat} {left q i : Nat} (h10 : q ≤ 10) (hg : ∀ k, k < q → g k < pw q) (hl : left < pw q) (hi : i < (pts left q).length) (h1 : mayP g (pts left q) i = true) (h : ∀ j, j < i → mayP g (pts left q) j = false) :
    findB (goB g (trn g q) left) q = some (nth (pts left q) i) := by
  have hm := (pts_mem left q _).1 (nth_mem hi)
  refine findB_some hm.1 ?_ fun p hp => ?_
  · unfold goB
    rw [hm.2, ← mayP_is h10 hg hl hi, h1]; rfl
  · unfold goB
    cases hb : left.testBit p
    · rfl
    · obtain ⟨j, hj, e⟩ := nth_of_mem ((pts_mem left q p).2 ⟨by omega, hb⟩)
      have := h j (nth_rise hi hj (by rw [e]; exact hp))
      rw [mayP_is h10 hg hl hj, e] at this
      simpa using this


/-- A strict order on the first q. -/
structure SO (R : Nat → Nat → Bool) (q : Nat) : Prop where
  irr : ∀ x, x < q → R x x = false
  tr : ∀ x y z, x < q → y < q → z < q → R x y = true → R y z = true → R x z = true
def leR (R : Nat → Nat → Bool) (x y : Nat) : Prop := x = y ∨ R x y = true
/-- Each monotone map leaves a point. -/
def FPP (R : Nat → Nat → Bool) (S : Nat → Prop) : Prop := ∀ f : Nat → Nat, (∀ x, S x → S (f x)) → (∀ x y, S x → S y → leR R x y → leR R (f x) (f y)) → ∃ k, S k ∧ f k = k
theorem rise {R : Nat → Nat → Bool} {q : Nat} (hO : SO R q) {S : Nat → Prop} (hS : ∀ x, S x → x < q) {f : Nat → Nat} (hf : ∀ x, S x → S (f x)) (hm : ∀ x y, S x → S y → leR R x y → leR R (f x) (f y)) :
    ∀ (c i : Nat), S i → q - cntB (fun x => R x i) q ≤ c → leR R i (f i) → ∃ k, S k ∧ f k = k := by
  have inc : ∀ i, S i → leR R i (f i) → f i ≠ i → cntB (fun x => R x i) q < cntB (fun x => R x (f i)) q := fun i hi h e => by
    have h1 : R i (f i) = true := by
      rcases h with h | h
      · exact absurd h.symm e
      · exact h
    exact cntB_lt q (fun x hx hp => hO.tr x i (f i) hx (hS i hi) (hS _ (hf i hi)) hp h1) ⟨i, hS i hi, hO.irr i (hS i hi), h1⟩
  intro c
  induction c with
  | zero =>
    intro i hi hc h
    by_cases e : f i = i
    · exact ⟨i, hi, e⟩
    · have h1 := inc i hi h e
      have h2 := cntB_le (fun x => R x (f i)) q
      omega
  | succ c ih =>
    intro i hi hc h
    by_cases e : f i = i
    · exact ⟨i, hi, e⟩
    · have h1 := inc i hi h e
      exact ih (f i) (hf i hi) (by omega) (hm i (f i) hi (hf i hi) h)
theorem one_step {R : Nat → Nat → Bool} {q : Nat} (hO : SO R q) {S : Nat → Prop} (hS : ∀ x, S x → x < q) {p c : Nat} (hp : S p) (hc : S c) (hcp : R c p = true) (hret : ∀ x, S x → R x p = true → leR R x c) (ih : FPP R (fun x => S x ∧ x ≠ p)) : FPP R S := by
  intro f hf hm
  have hcne : c ≠ p := fun e => by
    subst e
    rw [hO.irr c (hS c hc)] at hcp
    cases hcp
  have hA : ∀ x, f x = p → (if f x = p then c else f x) = c := fun x h => if_pos h
  have hB : ∀ x, f x ≠ p → (if f x = p then c else f x) = f x := fun x h => if_neg h
  obtain ⟨k, ⟨hk, hkp⟩, e⟩ := ih (fun x => if f x = p then c else f x) (fun x hx => by
      show S (if f x = p then c else f x) ∧ (if f x = p then c else f x) ≠ p
      by_cases e : f x = p
      · rw [hA x e]; exact ⟨hc, hcne⟩
      · rw [hB x e]; exact ⟨hf x hx.1, e⟩) (fun x y hx hy h => by
      show leR R (if f x = p then c else f x) (if f y = p then c else f y)
      have h1 := hm x y hx.1 hy.1 h
      by_cases ex : f x = p
      · by_cases ey : f y = p
        · rw [hA x ex, hA y ey]; exact .inl rfl
        · rw [hA x ex, hB y ey]
          rw [ex] at h1
          rcases h1 with h1 | h1
          · exact absurd h1.symm ey
          · exact .inr (hO.tr c p (f y) (hS c hc) (hS p hp) (hS _ (hf y hy.1)) hcp h1)
      · by_cases ey : f y = p
        · rw [hB x ex, hA y ey]
          rw [ey] at h1
          rcases h1 with h1 | h1
          · exact absurd h1 ex
          · exact hret _ (hf x hx.1) h1
        · rw [hB x ex, hB y ey]; exact h1)
  have e' : (if f k = p then c else f k) = k := e
  by_cases ek : f k = p
  · rw [hA k ek] at e'
    subst e'
    have h1 := hm c p hc hp (.inr hcp)
    rw [ek] at h1
    exact rise hO hS hf hm _ p hp (Nat.le_refl _) h1
  · rw [hB k ek] at e'
    exact ⟨k, hk, e'⟩
/-- Of an order that is told by sets. -/
def relG (g : Nat → Nat) (x y : Nat) : Bool := (g y).testBit x
theorem near_le {g : Nat → Nat} {q left p c : Nat} (hO : SO (relG g) q) (h10 : q ≤ 10) (hg : ∀ k, k < q → g k < pw q) (hl : left < pw q) (hp : p < q) (hc : c < q) (hone : ∀ x, (nst g left p).testBit x = true → x = c) :
    ∀ n x, left.testBit x = true → (g p).testBit x = true → q - cntB (fun z => relG g z x) q ≤ n → leR (relG g) x c := by
  have key : ∀ x, left.testBit x = true → (g p).testBit x = true → x = c ∨ ∃ y, left.testBit y = true ∧ (g p).testBit y = true ∧ relG g x y = true := fun x h1 h2 => by
    by_cases hx : (nst g left p).testBit x = true
    · exact .inl (hone x hx)
    · right
      rw [nst_bit h10 hg hl hp] at hx
      apply Classical.byContradiction
      intro hn
      exact hx ⟨⟨h2, h1⟩, fun y h3 h4 h5 => hn ⟨y, h4, h3, h5⟩⟩
  have inc : ∀ x y, left.testBit x = true → left.testBit y = true → relG g x y = true → cntB (fun z => relG g z x) q < cntB (fun z => relG g z y) q := fun x y h1 h2 h3 =>
    cntB_lt q (fun z hz hp' => hO.tr z x y hz (bit_of_lt hl h1) (bit_of_lt hl h2) hp' h3) ⟨x, bit_of_lt hl h1, hO.irr x (bit_of_lt hl h1), h3⟩
  intro n
  induction n with
  | zero =>
    intro x h1 h2 hn
    rcases key x h1 h2 with h | ⟨y, h3, h4, h5⟩
    · exact .inl h
    · have a := inc x y h1 h3 h5
      have b := cntB_le (fun z => relG g z y) q
      omega
  | succ n ih =>
    intro x h1 h2 hn
    rcases key x h1 h2 with h | ⟨y, h3, h4, h5⟩
    · exact .inl h
    · have a := inc x y h1 h3 h5
      rcases ih y h3 h4 (by omega) with h | h
      · subst h; exact .inr h5
      · exact .inr (hO.tr x y c (bit_of_lt hl h1) (bit_of_lt hl h3) hc h5 h)
theorem pcOk : ((List.range 1024).all fun t => !(pc t == 1) || (List.range 10).any fun c => t == 2 ^ c) = true := by decide +kernel
theorem pc_one {t : Nat} (ht : t < 1024) (h : pc t = 1) : ∃ c, ∀ x, t.testBit x = true ↔ x = c := by
  have h1 := List.all_eq_true.1 pcOk t (List.mem_range.2 ht)
  rw [h] at h1
  obtain ⟨c, _, e⟩ : ∃ x, x < 10 ∧ t = 2 ^ x := by simpa using h1
  refine ⟨c, fun x => ?_⟩
  rw [e, Nat.testBit_two_pow, decide_eq_true_iff]
  exact ⟨fun h => h.symm, fun h => h.symm⟩
theorem pwb_is (p x : Nat) : (pw p).testBit x = decide (p = x) := Nat.testBit_two_pow
theorem lack_mem {left p x : Nat} (hl : left < 1024) (hp : p < 10) : (lack left (pw p)).testBit x = true ↔ left.testBit x = true ∧ x ≠ p := by
  have hpw : pw p < 1024 := Nat.pow_lt_pow_right (by decide) hp
  rw [lack_bit _ _ _ (by omega) (by omega), pwb_is, Bool.and_eq_true, Bool.not_eq_true', decide_eq_false_iff_not]
  exact and_congr Iff.rfl ⟨fun h e => h e.symm, fun h e => h e.symm⟩
theorem fpp_step {g : Nat → Nat} {q left p : Nat} (hO : SO (relG g) q) (h10 : q ≤ 10) (hg : ∀ k, k < q → g k < pw q) (hl : left < pw q) (hb : left.testBit p = true) (h1 : pc (nst g left p) = 1) (ih : FPP (relG g) (fun x => (lack left (pw p)).testBit x = true)) :
    FPP (relG g) (fun x => left.testBit x = true) ∧ ∃ c, left.testBit c = true ∧ c ≠ p := by
  have hpw := pw_le q h10
  have hp : p < q := bit_of_lt hl hb
  obtain ⟨c, hc⟩ := pc_one (nst_lt (Nat.lt_of_lt_of_le (hg p hp) hpw)) h1
  have hcc := ((nst_bit h10 hg hl hp c).1 ((hc c).2 rfl)).1
  have hcq := bit_of_lt hl hcc.2
  have eS : (fun x => (lack left (pw p)).testBit x = true) = fun x => left.testBit x = true ∧ x ≠ p := by
    funext x
    exact propext (lack_mem (by omega) (by omega))
  rw [eS] at ih
  refine ⟨one_step hO (fun x hx => bit_of_lt hl hx) hb hcc.2 hcc.1 (fun x hx hxp => near_le hO h10 hg hl hp hcq (fun x hx => (hc x).1 hx) _ x hx hxp (Nat.le_refl _)) ih, c, hcc.2, fun e => ?_⟩
  subst e
  have := hO.irr c hp
  rw [show relG g c c = (g c).testBit c from rfl, hcc.1] at this
  cases this
theorem near_other {g : Nat → Nat} {q left p : Nat} (hO : SO (relG g) q) (h10 : q ≤ 10) (hg : ∀ k, k < q → g k < pw q) (hl : left < pw q) (hb : left.testBit p = true) (h1 : pc (nst g left p) = 1) : ∃ c, left.testBit c = true ∧ c ≠ p := by
  have hpw := pw_le q h10
  have hp : p < q := bit_of_lt hl hb
  obtain ⟨c, hc⟩ := pc_one (nst_lt (Nat.lt_of_lt_of_le (hg p hp) hpw)) h1
  have hcc := ((nst_bit h10 hg hl hp c).1 ((hc c).2 rfl)).1
  refine ⟨c, hcc.2, fun e => ?_⟩
  subst e
  have := hO.irr c hp
  rw [show relG g c c = (g c).testBit c from rfl, hcc.1] at this
  cases this
theorem rel_trn {g : Nat → Nat} {q x y : Nat} (hx : x < q) : relG (trn g q) x y = relG g y x := by
  unfold relG; rw [trn_bit]; simp [hx]
theorem SO.dual {g : Nat → Nat} {q : Nat} (hO : SO (relG g) q) : SO (relG (trn g q)) q :=
  ⟨fun x hx => by rw [rel_trn hx]; exact hO.irr x hx, fun x y z hx hy hz h1 h2 => by
    rw [rel_trn hx] at h1 ⊢
    rw [rel_trn hy] at h2
    exact hO.tr z y x hz hy hx h2 h1⟩
theorem le_trn {g : Nat → Nat} {q x y : Nat} (hx : x < q) : leR (relG (trn g q)) x y ↔ leR (relG g) y x := by
  unfold leR
  rw [rel_trn hx]
  exact or_congr ⟨fun h => h.symm, fun h => h.symm⟩ Iff.rfl
theorem fpp_dual {g : Nat → Nat} {q : Nat} {S : Nat → Prop} (hS : ∀ x, S x → x < q) : FPP (relG g) S ↔ FPP (relG (trn g q)) S := by
  constructor
  · intro h f hf hm
    exact h f hf fun x y hx hy hxy => (le_trn (hS _ (hf y hy))).1 (hm y x hy hx ((le_trn (hS y hy)).2 hxy))
  · intro h f hf hm
    exact h f hf fun x y hx hy hxy => (le_trn (hS _ (hf x hx))).2 (hm y x hy hx ((le_trn (hS x hx)).1 hxy))
theorem findB_get {P : Nat → Bool} {p : Nat} : ∀ {k : Nat}, findB P k = some p → p < k ∧ P p = true
  | 0, h => by simp [findB] at h
  | k + 1, h => by
    rw [findB] at h
    cases hf : findB P k with
    | some r =>
      rw [hf] at h
      have := findB_get hf
      cases h
      exact ⟨by omega, this.2⟩
    | none =>
      rw [hf] at h
      by_cases hk : P k = true
      · simp [hk] at h; subst h; exact ⟨by omega, hk⟩
      · simp [hk] at h
theorem ord_SO {g : Nat → Nat} {q : Nat} (h10 : q ≤ 10) (hg : ∀ k, k < q → g k < pw q) (ho : Ord q g) : SO (relG g) q :=
  ⟨fun x hx => (ho x hx).1, fun x y z _ hy hz h1 h2 => by
    have hpw := pw_le q h10
    have a := hg y hy
    have b := hg z hz
    exact (lack_zero _ _ (by omega) (by omega)).1 ((ho z hz).2 y hy h2) x h1⟩
theorem fpp_core {g : Nat → Nat} {q : Nat} (hO : SO (relG g) q) (h10 : q ≤ 10) (hg : ∀ k, k < q → g k < pw q) :
    ∀ fuel left, left < pw q → (FPP (relG g) (fun x => (core g (trn g q) q fuel left).testBit x = true) → FPP (relG g) (fun x => left.testBit x = true)) ∧ (left ≠ 0 → core g (trn g q) q fuel left ≠ 0) := by
  have hh : ∀ k, k < q → trn g q k < pw q := fun k _ => trn_small g q k q (Nat.le_refl _)
  have hpw := pw_le q h10
  intro fuel
  induction fuel with
  | zero => exact fun left _ => ⟨fun h => h, fun h => h⟩
  | succ fuel ih =>
    intro left hl
    rw [core]
    cases hf : findB (goB g (trn g q) left) q with
    | none => exact ⟨fun h => h, fun h => h⟩
    | some p =>
      obtain ⟨hp, hgo⟩ := findB_get hf
      unfold goB at hgo
      rw [Bool.and_eq_true] at hgo
      obtain ⟨hb, hmay⟩ := hgo
      have hl' : lack left (pw p) < pw q := Nat.lt_of_le_of_lt (lack_le _ _) hl
      obtain ⟨i1, i2⟩ := ih (lack left (pw p)) hl'
      have hother : ∃ c, left.testBit c = true ∧ c ≠ p := by
        unfold mayB at hmay
        rw [Bool.or_eq_true, beq_iff_eq, beq_iff_eq] at hmay
        rcases hmay with h | h
        · exact near_other hO h10 hg hl hb h
        · exact near_other hO.dual h10 hh hl hb h
      refine ⟨fun h => ?_, fun _ => i2 fun e => ?_⟩
      · have h2 := i1 h
        unfold mayB at hmay
        rw [Bool.or_eq_true, beq_iff_eq, beq_iff_eq] at hmay
        rcases hmay with h3 | h3
        · exact (fpp_step hO h10 hg hl hb h3 h2).1
        · exact (fpp_dual (q := q) (fun x hx => bit_of_lt hl hx)).2 (fpp_step hO.dual h10 hh hl hb h3 ((fpp_dual (q := q) (fun x hx => bit_of_lt hl' hx)).1 h2)).1
      · obtain ⟨c, hc, hne⟩ := hother
        have := (lack_mem (left := left) (p := p) (x := c) (by omega) (by omega)).2 ⟨hc, hne⟩
        rw [e] at this
        simp at this
theorem up_le {g : Nat → Nat} {x y : Nat} : upB g x y = true ↔ leR (relG g) x y := by
  rw [upB_eq, Bool.or_eq_true, decide_eq_true_iff]
  unfold leR relG
  exact ⟨fun h => h.elim .inr fun e => .inl e.symm, fun h => h.elim (fun e => .inr e.symm) .inl⟩
theorem core_lt {g h : Nat → Nat} {q : Nat} : ∀ fuel left, core g h q fuel left ≤ left
  | 0, _ => Nat.le_refl _
  | k + 1, left => by
    rw [core]
    cases findB (goB g h left) q with
    | none => exact Nat.le_refl _
    | some p => exact Nat.le_trans (core_lt k _) (lack_le _ _)
/-- Rival. -/
theorem rival {g f : Nat → Nat} {q : Nat} (h10 : q ≤ 10) (hg : ∀ k, k < q → g k < pw q) (ho : Ord q g) (h1 : pc (core g (trn g q) q (pw q - 1) (pw q - 1)) = 1) (hf : ∀ k, k < q → f k < q) (hm : MonP (upB g) (upB g) f q) : ∃ k, k < q ∧ f k = k := by
  have hpw := pw_le q h10
  have hp1 : 0 < pw q := Nat.two_pow_pos q
  have hb : ∀ x, (pw q - 1).testBit x = true ↔ x < q := fun x => by
    show (2 ^ q - 1).testBit x = true ↔ x < q
    rw [Nat.testBit_two_pow_sub_one, decide_eq_true_iff]
  have hC := (fpp_core (ord_SO h10 hg ho) h10 hg (pw q - 1) (pw q - 1) (by omega)).1
  have hlt := core_lt (g := g) (h := trn g q) (q := q) (pw q - 1) (pw q - 1)
  obtain ⟨c, hc⟩ := pc_one (t := core g (trn g q) q (pw q - 1) (pw q - 1)) (by omega) h1
  obtain ⟨k, hk, e⟩ := hC (fun f' hf' _ => ⟨c, (hc c).2 rfl, (hc _).1 (hf' c ((hc c).2 rfl))⟩) f (fun x hx => (hb _).2 (hf x ((hb x).1 hx))) (fun x y hx hy h => up_le.1 (hm y ((hb y).1 hy) x ((hb x).1 hx) (up_le.2 h)))
  exact ⟨k, (hb k).1 hk, e⟩
theorem core_some {g : Nat → Nat} {q : Nat} (h10 : q ≤ 10) (hg : ∀ k, k < q → g k < pw q) (ho : Ord q g) (hq : 0 < q) : core g (trn g q) q (pw q - 1) (pw q - 1) ≠ 0 := by
  have hp1 : 2 ≤ pw q := by
    have : 2 ^ 1 ≤ 2 ^ q := Nat.pow_le_pow_right (by decide) hq
    exact this
  exact (fpp_core (ord_SO h10 hg ho) h10 hg (pw q - 1) (pw q - 1) (by omega)).2 (by omega)
end Go.Proofs.YtfajgahofkcndaaDoor
