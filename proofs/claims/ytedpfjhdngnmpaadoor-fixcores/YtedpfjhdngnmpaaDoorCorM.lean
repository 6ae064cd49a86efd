/-
  Of a part of an order: how many cover a point in it and how many it covers, by the program's nearest points; which point goes next, by the part. No condition but that sets are of the order's points.
-/
import Derived.Test.YtedpfjhdngnmpaaDoorFBegun
namespace Go.Proofs.YtedpfjhdngnmpaaDoor
open Go.RowKit

def Cov (g : Nat → Nat) (n x y : Nat) : Prop := (g y).testBit x = true ∧ ∀ k, k < n → ¬ ((g k).testBit x = true ∧ (g y).testBit k = true)
def covQ (g : Nat → Nat) (n x y : Nat) : Bool := (g y).testBit x && (trn g n x &&& g y == 0)
theorem covQ_iff (g : Nat → Nat) (n x y : Nat) : covQ g n x y = true ↔ Cov g n x y := by
  unfold covQ Cov
  rw [Bool.and_eq_true, beq_iff_eq]
  refine and_congr Iff.rfl ⟨fun h k hk hh => ?_, fun h => ?_⟩
  · have := setBy_bit (fun z => (g z).testBit x) n k
    have h2 : (trn g n x &&& g y).testBit k = true := by
      rw [Nat.testBit_and, show (trn g n x).testBit k = (decide (k < n) && (g k).testBit x) from this]
      simp [hk, hh.1, hh.2]
    rw [h] at h2
    simp at h2
  · apply Nat.eq_of_testBit_eq
    intro k
    rw [Nat.testBit_and, show (trn g n x).testBit k = (decide (k < n) && (g k).testBit x) from setBy_bit _ n k]
    by_cases hk : k < n
    · cases h1 : (g k).testBit x
      · simp
      · cases h2 : (g y).testBit k
        · simp
        · exact absurd ⟨h1, h2⟩ (h k hk)
    · simp [hk]
theorem covQ_of {g : Nat → Nat} {n x y : Nat} (h : Cov g n x y) : covQ g n x y = true := (covQ_iff g n x y).2 h
theorem covQ_not {g : Nat → Nat} {n x y : Nat} (h : ¬ Cov g n x y) : covQ g n x y = false := by
  cases e : covQ g n x y
  · rfl
  · exact absurd ((covQ_iff g n x y).1 e) h
/-- A part of an order. -/
def prt (g : Nat → Nat) (L : List Nat) (i : Nat) : Nat := setBy (fun k => (g (nth L i)).testBit (nth L k)) L.length
theorem prt_bit (g : Nat → Nat) (L : List Nat) (i k : Nat) : (prt g L i).testBit k = (decide (k < L.length) && (g (nth L i)).testBit (nth L k)) := setBy_bit _ _ _
theorem pts_pcn (s : Nat) : ∀ k, (pts s k).length = pcn s k
  | 0 => rfl
  | k + 1 => by
    have ih := pts_pcn s k
    unfold pts pcn
    split
    · rw [List.length_append, ih]; rfl
    · exact ih
theorem pts_filter (s t : Nat) : ∀ n, (pts s n).filter t.testBit = pts (s &&& t) n
  | 0 => rfl
  | n + 1 => by
    have ih := pts_filter s t n
    unfold pts
    rw [Nat.testBit_and]
    cases h1 : s.testBit n <;> cases h2 : t.testBit n <;> simp [ih, h2]
theorem pts_sorted (s : Nat) : ∀ n, (pts s n).Pairwise (· < ·)
  | 0 => List.Pairwise.nil
  | n + 1 => by
    have ih := pts_sorted s n
    unfold pts
    split
    · refine List.pairwise_append.2 ⟨ih, List.pairwise_singleton _ _, fun a ha b hb => ?_⟩
      cases List.mem_singleton.1 hb
      exact pts_lt s n a ha
    · exact ih
theorem nth_mem {L : List Nat} {k : Nat} (h : k < L.length) : nth L k ∈ L := by
  unfold nth; rw [List.getD_eq_getElem?_getD, List.getElem?_eq_getElem h]; exact List.getElem_mem h
theorem nth_of_mem {L : List Nat} {x : Nat} (h : x ∈ L) : ∃ k, k < L.length ∧ nth L k = x := by
  obtain ⟨k, hk, e⟩ := List.mem_iff_getElem.1 h
  refine ⟨k, hk, ?_⟩
  unfold nth; rw [List.getD_eq_getElem?_getD, List.getElem?_eq_getElem hk]; exact e
theorem nth_rise {s n j i : Nat} (hi : i < (pts s n).length) (hj : j < (pts s n).length) (h : nth (pts s n) j < nth (pts s n) i) : j < i := by
  have hp := List.pairwise_iff_getElem.1 (pts_sorted s n)
  rcases Nat.lt_trichotomy j i with e | e | e
  · exact e
  · subst e; omega
  · have := hp i j hi hj e
    have e1 : nth (pts s n) i = (pts s n)[i] := by unfold nth; rw [List.getD_eq_getElem?_getD, List.getElem?_eq_getElem hi]; rfl
    have e2 : nth (pts s n) j = (pts s n)[j] := by unfold nth; rw [List.getD_eq_getElem?_getD, List.getElem?_eq_getElem hj]; rfl
    omega
theorem map_nth (L : List Nat) : (List.range L.length).map (nth L) = L := by
  apply List.ext_getElem
  · simp
  · intro i h1 h2
    simp [nth, List.getD_eq_getElem?_getD, h2]
/-- How many of the first k there are. -/
def cntQ (P : Nat → Bool) : Nat → Nat
  | 0 => 0
  | k + 1 => if P k = true then cntQ P k + 1 else cntQ P k
theorem cntQ_le (P : Nat → Bool) : ∀ k, cntQ P k ≤ k
  | 0 => Nat.le_refl _
  | k + 1 => by have := cntQ_le P k; unfold cntQ; split <;> omega
theorem cntQ_range (P : Nat → Bool) : ∀ k, cntQ P k = ((List.range k).filter P).length
  | 0 => rfl
  | k + 1 => by
    have ih := cntQ_range P k
    rw [List.range_succ, List.filter_append, List.length_append]
    unfold cntQ
    cases h : P k <;> simp [h, ih]
theorem cntQ_congr {P Q : Nat → Bool} : ∀ k, (∀ i, i < k → P i = Q i) → cntQ P k = cntQ Q k
  | 0, _ => rfl
  | k + 1, h => by
    have ih := cntQ_congr k (fun i hi => h i (by omega))
    unfold cntQ
    rw [h k (by omega), ih]
/-- Of the points of a set, those that are in another one. -/
theorem cnt_pts (s t n : Nat) (hn : n ≤ 10) (ht : ∀ x, t.testBit x = true → s.testBit x = true ∧ x < n) : cntQ (fun k => t.testBit (nth (pts s n) k)) (pts s n).length = pc t := by
  have e : (List.range (pts s n).length).filter (fun k => t.testBit (nth (pts s n) k)) = (List.range (pts s n).length).filter (t.testBit ∘ nth (pts s n)) := rfl
  rw [cntQ_range, e, ← List.length_map (f := nth (pts s n)), ← List.filter_map, map_nth, pts_filter, pts_pcn]
  have h1 : s &&& t = t := by
    apply Nat.eq_of_testBit_eq
    intro x
    rw [Nat.testBit_and]
    cases h : t.testBit x
    · simp
    · simp [(ht x h).1]
  rw [h1]
  have := pcn_stop (s := t) (k := n) (fun j hj => by
    cases h : t.testBit j
    · rfl
    · have := (ht j h).2; omega) (10 - n)
  rw [show n + (10 - n) = 10 by omega] at this
  exact this.symm
theorem orL_bit (g : Nat → Nat) (l : List Nat) (x : Nat) : ∀ k, (orL g l k).testBit x = true ↔ ∃ j, j < k ∧ (g (nth l j)).testBit x = true
  | 0 => by simp [orL]
  | k + 1 => by
    rw [orL, Nat.testBit_or, Bool.or_eq_true, orL_bit g l x k]
    constructor
    · rintro (⟨j, hj, h⟩ | h)
      · exact ⟨j, by omega, h⟩
      · exact ⟨k, by omega, h⟩
    · rintro ⟨j, hj, h⟩
      by_cases e : j = k
      · subst e; exact .inr h
      · exact .inl ⟨j, by omega, h⟩
/-- Which points are nearest. -/
theorem nst_bit {g : Nat → Nat} {left p q : Nat} (h10 : q ≤ 10) (hg : ∀ k, k < q → g k < pw q) (hl : left < pw q) (hp : p < q) (x : Nat) :
    (nst g left p).testBit x = true ↔ ((g p).testBit x = true ∧ left.testBit x = true) ∧ ∀ y, (g p).testBit y = true → left.testBit y = true → ¬ (g y).testBit x = true := by
  have hpw := pw_le q h10
  have hgp : g p < 1024 := Nat.lt_of_lt_of_le (hg p hp) hpw
  have hs : g p &&& left < 1024 := and_lt hgp
  have hm : ∀ y, y ∈ pts (g p &&& left) 10 ↔ (g p).testBit y = true ∧ left.testBit y = true := fun y => by
    rw [pts_mem, Nat.testBit_and, Bool.and_eq_true]
    exact ⟨fun h => h.2, fun h => ⟨bit_of_lt (n := 10) hgp h.1, h⟩⟩
  have ho : orL g (pts (g p &&& left) 10) (pts (g p &&& left) 10).length < 1024 := orL_lt (fun k hk => by
    have := (hm _).1 (nth_mem hk)
    have hy := bit_of_lt hl this.2
    exact Nat.lt_of_lt_of_le (hg _ hy) hpw) _ (Nat.le_refl _)
  unfold nst
  rw [lack_bit _ _ _ (by omega) (by omega), Bool.and_eq_true, Nat.testBit_and, Bool.and_eq_true, Bool.not_eq_true', ← Bool.not_eq_true, orL_bit]
  refine and_congr Iff.rfl ⟨fun h y h1 h2 h3 => ?_, fun h => ?_⟩
  · obtain ⟨k, hk, e⟩ := nth_of_mem ((hm y).2 ⟨h1, h2⟩)
    exact h ⟨k, hk, by rw [e]; exact h3⟩
  · rintro ⟨k, hk, h3⟩
    have := (hm _).1 (nth_mem hk)
    exact h _ this.1 this.2 h3
theorem trn_bit (g : Nat → Nat) (n x k : Nat) : (trn g n x).testBit k = (decide (k < n) && (g k).testBit x) := setBy_bit (fun z => (g z).testBit x) n k
/-- How many points of a part one covers. -/
theorem down_is {g : Nat → Nat} {left q i : Nat} (h10 : q ≤ 10) (hg : ∀ k, k < q → g k < pw q) (hl : left < pw q) (hi : i < (pts left q).length) :
    cntQ (fun k => covQ (prt g (pts left q)) (pts left q).length k i) (pts left q).length = pc (nst g left (nth (pts left q) i)) := by
  have hp := nth_pts_lt hi
  rw [← cnt_pts left (nst g left (nth (pts left q) i)) q h10 (fun x hx => by
    have := ((nst_bit h10 hg hl hp x).1 hx).1
    exact ⟨this.2, bit_of_lt hl this.2⟩)]
  refine cntQ_congr _ (fun k hk => ?_)
  rw [Bool.eq_iff_iff, covQ_iff, nst_bit h10 hg hl hp]
  have hm := (pts_mem left q (nth (pts left q) k)).1 (nth_mem hk)
  unfold Cov
  simp only [prt_bit, Bool.and_eq_true, decide_eq_true_iff]
  constructor
  · rintro ⟨⟨_, h1⟩, h2⟩
    refine ⟨⟨h1, hm.2⟩, fun y hy hy' hx => ?_⟩
    obtain ⟨j, hj, e⟩ := nth_of_mem ((pts_mem left q y).2 ⟨bit_of_lt hl hy', hy'⟩)
    exact h2 j hj ⟨⟨hk, by rw [e]; exact hx⟩, hj, by rw [e]; exact hy⟩
  · rintro ⟨⟨h1, _⟩, h2⟩
    refine ⟨⟨hk, h1⟩, fun j hj ⟨⟨_, h3⟩, _, h4⟩ => ?_⟩
    exact h2 _ h4 ((pts_mem left q _).1 (nth_mem hj)).2 h3
/-- How many cover one. -/
theorem up_is {g : Nat → Nat} {left q i : Nat} (h10 : q ≤ 10) (hl : left < pw q) (hi : i < (pts left q).length) :
    cntQ (fun k => covQ (prt g (pts left q)) (pts left q).length i k) (pts left q).length = pc (nst (trn g q) left (nth (pts left q) i)) := by
  have hp := nth_pts_lt hi
  have hh : ∀ k, k < q → trn g q k < pw q := fun k _ => trn_small g q k q (Nat.le_refl _)
  rw [← cnt_pts left (nst (trn g q) left (nth (pts left q) i)) q h10 (fun x hx => by
    have := ((nst_bit h10 hh hl hp x).1 hx).1
    exact ⟨this.2, bit_of_lt hl this.2⟩)]
  refine cntQ_congr _ (fun k hk => ?_)
  rw [Bool.eq_iff_iff, covQ_iff, nst_bit h10 hh hl hp]
  have hm := (pts_mem left q (nth (pts left q) k)).1 (nth_mem hk)
  unfold Cov
  simp only [prt_bit, trn_bit, Bool.and_eq_true, decide_eq_true_iff]
  constructor
  · rintro ⟨⟨_, h1⟩, h2⟩
    refine ⟨⟨⟨hm.1, h1⟩, hm.2⟩, fun y hy hy' hx => ?_⟩
    obtain ⟨j, hj, e⟩ := nth_of_mem ((pts_mem left q y).2 ⟨bit_of_lt hl hy', hy'⟩)
    exact h2 j hj ⟨⟨hi, by rw [e]; exact hy.2⟩, hj, by rw [e]; exact hx.2⟩
  · rintro ⟨⟨⟨_, h1⟩, _⟩, h2⟩
    refine ⟨⟨hi, h1⟩, fun j hj ⟨⟨_, h3⟩, _, h4⟩ => ?_⟩
    have hj' := (pts_mem left q _).1 (nth_mem hj)
    exact h2 _ ⟨hj'.1, h3⟩ hj'.2 ⟨hm.1, h4⟩
/-- May a point of the part go? -/
def mayP (g : Nat → Nat) (L : List Nat) (i : Nat) : Bool := cntQ (fun k => covQ (prt g L) L.length k i) L.length == 1 || cntQ (fun k => covQ (prt g L) L.length i k) L.length == 1
theorem mayP_is {g : Nat → Nat} {left q i : Nat} (h10 : q ≤ 10) (hg : ∀ k, k < q → g k < pw q) (hl : left < pw q) (hi : i < (pts left q).length) : mayP g (pts left q) i = mayB g (trn g q) left (nth (pts left q) i) := by
  unfold mayP mayB
  rw [down_is h10 hg hl hi, up_is h10 hl hi]
theorem find_no {g : Nat → Nat} {left q : Nat} (h10 : q ≤ 10) (hg : ∀ k, k < q → g k < pw q) (hl : left < pw q) (h : ∀ i, i < (pts left q).length → mayP g (pts left q) i = false) : findB (goB g (trn g q) left) q = none :=
  findB_none fun p hp => by
    unfold goB
    cases hb : left.testBit p
    · rfl
    · obtain ⟨i, hi, e⟩ := nth_of_mem ((pts_mem left q p).2 ⟨hp, hb⟩)
      have := h i hi
      rw [mayP_is h10 hg hl hi, e] at this
      simpa using this
theorem find_yes {g : Nat → Nat} {left q i : Nat} (h10 : q ≤ 10) (hg : ∀ k, k < q → g k < pw q) (hl : left < pw q) (hi : i < (pts left q).length) (h1 : mayP g (pts left q) i = true) (h : ∀ j, j < i → mayP g (pts left q) j = false) :
    findB (goB g (trn g q) left) q = some (nth (pts left q) i) := by
  have hm := (pts_mem left q _).1 (nth_mem hi)
  refine findB_some hm.1 ?_ fun p hp => ?_
  · unfold goB
    rw [hm.2, ← mayP_is h10 hg hl hi, h1]; rfl
  · unfold goB
    cases hb : left.testBit p
    · rfl
    · obtain ⟨j, hj, e⟩ := nth_of_mem ((pts_mem left q p).2 ⟨by omega, hb⟩)
      have := h j (nth_rise hi hj (by rw [e]; exact hp))
      rw [mayP_is h10 hg hl hj, e] at this
      simpa using this
end Go.Proofs.YtedpfjhdngnmpaaDoor
