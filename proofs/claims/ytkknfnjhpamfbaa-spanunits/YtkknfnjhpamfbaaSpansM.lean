/-
  Plain facts on the stretches that the sets Below count out: how the kinds of sets are counted; first numbers are no greater than last ones.
-/
import Derived.Test.YtkknfnjhpamfbaaKinds
import Derived.Test.YtkknfnjhpamfbaaSpOf
import Derived.Test.YtkknfnjhpamfbaaMSize
import Derived.Test.YtkknfnjhpamfbaaGood
namespace Go.Proofs.Ytkknfnjhpamfbaa
open Go.RowKit

/-- Of how many of the first numbers something is so. -/
def cn (P : Nat → Bool) : Nat → Nat
  | 0 => 0
  | k + 1 => cn P k + (if P k = true then 1 else 0)
theorem cn_le (P : Nat → Bool) : ∀ k, cn P k ≤ k
  | 0 => Nat.le_refl _
  | k + 1 => by have := cn_le P k; unfold cn; split <;> omega
theorem cn_yes {P : Nat → Bool} {k : Nat} (h : P k = true) : cn P (k + 1) = cn P k + 1 := by simp [cn, h]
theorem cn_no {P : Nat → Bool} {k : Nat} (h : P k = false) : cn P (k + 1) = cn P k := by simp [cn, h]
theorem cn_congr {P Q : Nat → Bool} : ∀ k, (∀ j, j < k → P j = Q j) → cn P k = cn Q k
  | 0, _ => rfl
  | k + 1, h => by simp only [cn]; rw [cn_congr k (fun j hj => h j (by omega)), h k (by omega)]
theorem cn_mono {P Q : Nat → Bool} : ∀ k, (∀ j, j < k → P j = true → Q j = true) → cn P k ≤ cn Q k
  | 0, _ => Nat.le_refl _
  | k + 1, h => by
    have ih := cn_mono k (fun j hj => h j (by omega))
    have hk := h k (by omega)
    simp only [cn]
    by_cases e : P k = true
    · rw [if_pos e, if_pos (hk e)]; omega
    · rw [if_neg e]; omega
theorem cn_strict {P Q : Nat → Bool} : ∀ k, (∀ j, j < k → P j = true → Q j = true) → (∃ j, j < k ∧ P j = false ∧ Q j = true) → cn P k < cn Q k
  | 0, _, ⟨j, hj, _⟩ => absurd hj (Nat.not_lt_zero _)
  | k + 1, h, ⟨j, hj, h1, h2⟩ => by
    have hm := cn_mono k (fun i hi => h i (by omega))
    have hk := h k (by omega)
    simp only [cn]
    by_cases e : j = k
    · subst e; rw [if_neg (by simp [h1]), if_pos h2]; omega
    · have ih := cn_strict k (fun i hi => h i (by omega)) ⟨j, by omega, h1, h2⟩
      by_cases e2 : P k = true
      · rw [if_pos e2, if_pos (hk e2)]; omega
      · rw [if_neg e2]; omega
/-- Is s one of the sets? -/
def inB (g : Nat → Nat) (n s : Nat) : Bool := (List.range n).any fun k => g k == s
theorem inB_iff {g : Nat → Nat} {n s : Nat} : inB g n s = true ↔ Mem g n s := by simp [inB, Mem]
theorem cn_kinds {h g : Nat → Nat} {m n : Nat} (P : Nat → Bool) (hs : Str h m) (hM : ∀ v, Mem h m v ↔ Mem g n v) :
    ∀ T k, k ≤ m → (∀ j, j < k → h j < T) → (∀ j, k ≤ j → j < m → T ≤ h j) → cn (fun s => inB g n s && P s) T = cn (fun j => P (h j)) k
  | 0, k, _, h1, _ => by
    have : k = 0 := by
      rcases Nat.eq_zero_or_pos k with e | e
      · exact e
      · exact absurd (h1 0 e) (Nat.not_lt_zero _)
    subst this; rfl
  | T + 1, k, hk, h1, h2 => by
    by_cases e : Mem h m T
    · obtain ⟨j, hj, rfl⟩ := e
      have hjk : j + 1 = k := by
        have a1 : j < k := by
          rcases Nat.lt_or_ge j k with a | a
          · exact a
          · have := h2 j a hj; omega
        rcases Nat.lt_or_ge (j + 1) k with a | a
        · have b1 := h1 (j + 1) a
          have b2 := hs j (j + 1) (by omega) (by omega)
          omega
        · omega
      subst hjk
      have hin : inB g n (h j) = true := inB_iff.2 ((hM _).1 ⟨j, hj, rfl⟩)
      have ih := cn_kinds P hs hM (h j) j (by omega) (fun i hi => hs i j hi hj) (fun i hi hm => by
        rcases Nat.eq_or_lt_of_le hi with b | b
        · subst b; exact Nat.le_refl _
        · exact Nat.le_of_lt (hs j i b hm))
      rcases Bool.eq_false_or_eq_true (P (h j)) with hp | hp
      · rw [cn_yes (by rw [hin, hp]; rfl), ih]; simp only [cn]; rw [if_pos hp]
      · rw [cn_no (by rw [hin, hp]; rfl), ih]; simp only [cn]; rw [if_neg (by simp [hp])]; rfl
    · have hin : inB g n T = false := by
        rcases Bool.eq_false_or_eq_true (inB g n T) with b | b
        · exact absurd ((hM T).2 (inB_iff.1 b)) e
        · exact b
      have ih := cn_kinds P hs hM T k hk (fun j hj => by
        have := h1 j hj
        have h3 : h j ≠ T := fun b => e ⟨j, by omega, b⟩
        omega) (fun j hj hm => by have := h2 j hj hm; omega)
      rw [cn_no (by rw [hin, Bool.false_and])]
      exact ih

/-- First number of a point's stretch, and one beyond its last. -/
def fi (g : Nat → Nat) (n i : Nat) : Nat := cn (fun s => inB g n s && decide (pc s < pc (g i))) (pw n)
def la (g : Nat → Nat) (n i : Nat) : Nat := cn (fun s => inB g n s && !s.testBit i) (pw n)
def spn (g : Nat → Nat) (n i : Nat) : Int × Int := ((fi g n i : Nat), ((la g n i : Nat) : Int) - 1)
/-- The stretches say the order. -/
def Fits (g : Nat → Nat) (n : Nat) : Prop := ∀ k, k < n → sp (spn g n) n k = g k

theorem pcn_mono {s t : Nat} : ∀ k, (∀ j, j < k → s.testBit j = true → t.testBit j = true) → pcn s k ≤ pcn t k
  | 0, _ => Nat.le_refl _
  | k + 1, h => by
    have ih := pcn_mono (s := s) (t := t) k (fun j hj => h j (by omega))
    have hk := h k (by omega)
    simp only [pcn]
    by_cases e : s.testBit k = true
    · rw [if_pos e, if_pos (hk e)]; omega
    · rw [if_neg e]; split <;> omega
theorem pcn_strict {s t : Nat} : ∀ k, (∀ j, j < k → s.testBit j = true → t.testBit j = true) → (∃ j, j < k ∧ s.testBit j = false ∧ t.testBit j = true) → pcn s k < pcn t k
  | 0, _, ⟨j, hj, _⟩ => absurd hj (Nat.not_lt_zero _)
  | k + 1, h, ⟨j, hj, h1, h2⟩ => by
    have hm := pcn_mono (s := s) (t := t) k (fun i hi => h i (by omega))
    have hk := h k (by omega)
    simp only [pcn]
    by_cases e : j = k
    · subst e; rw [if_neg (by simp [h1]), if_pos h2]; omega
    · have ih := pcn_strict (s := s) (t := t) k (fun i hi => h i (by omega)) ⟨j, by omega, h1, h2⟩
      by_cases e2 : s.testBit k = true
      · rw [if_pos e2, if_pos (hk e2)]; omega
      · rw [if_neg e2]; split <;> omega
/-- One set in another, and not all of it. -/
theorem pc_strict {s t : Nat} (h : ∀ j, s.testBit j = true → t.testBit j = true) {i : Nat} (hi : i < 10) (h1 : s.testBit i = false) (h2 : t.testBit i = true) : pc s < pc t :=
  pcn_strict 10 (fun j _ => h j) ⟨i, hi, h1, h2⟩
theorem ord_tr {n : Nat} {g : Nat → Nat} (hn : n ≤ 10) (hg : Sm n n g) (h : Ord n g) {a b c : Nat} (hb : b < n) (hc : c < n) (h1 : (g b).testBit a = true) (h2 : (g c).testBit b = true) : (g c).testBit a = true := by
  have hl := pw_le n hn
  have e := (h c hc).2 b hb h2
  exact (lack_zero _ _ (by have := hg b hb; omega) (by have := hg c hc; omega)).1 e a h1
theorem fi_lt_la {n : Nat} {g : Nat → Nat} (hn : n ≤ 10) (hg : Sm n n g) (h : Ord n g) {i : Nat} (hi : i < n) : fi g n i < la g n i := by
  refine cn_strict _ (fun s hs h1 => ?_) ⟨g i, hg i hi, ?_, ?_⟩
  · simp only [Bool.and_eq_true, decide_eq_true_eq, Bool.not_eq_true'] at h1 ⊢
    refine ⟨h1.1, ?_⟩
    obtain ⟨k, hk, rfl⟩ := inB_iff.1 h1.1
    rcases Bool.eq_false_or_eq_true ((g k).testBit i) with hb | hb
    · exfalso
      have := pc_strict (s := g i) (t := g k) (fun j hj => ord_tr hn hg h hi hk hj hb) (Nat.lt_of_lt_of_le hi hn) (h i hi).1 hb
      omega
    · exact hb
  · simp
  · simp only [Bool.and_eq_true, Bool.not_eq_true']
    exact ⟨inB_iff.2 ⟨i, hi, rfl⟩, (h i hi).1⟩
theorem spn_ok {n : Nat} {g : Nat → Nat} (hn : n ≤ 10) (hg : Sm n n g) (h : Ord n g) {i : Nat} (hi : i < n) : (spn g n i).1 ≤ (spn g n i).2 := by
  have := fi_lt_la hn hg h hi
  simp only [spn]; omega

/-- Pairs as values. -/
def ipv (p : Nat → Int × Int) : Nat → List Value
  | 0 => []
  | k + 1 => ipv p k ++ [.int .i64 (p k).1, .int .i64 (p k).2]
theorem ipv_len (p : Nat → Int × Int) : ∀ k, (ipv p k).length = 2 * k
  | 0 => rfl
  | k + 1 => by simp [ipv, ipv_len p k]; omega
theorem ipv_at (p : Nat → Int × Int) : ∀ n k, k < n → (ipv p n)[k * 2]? = some (.int .i64 (p k).1) ∧ (ipv p n)[k * 2 + 1]? = some (.int .i64 (p k).2)
  | n + 1, k, hk => by
    have hl := ipv_len p n
    simp only [ipv]
    by_cases e : k = n
    · subst e
      rw [List.getElem?_append_right (by omega), List.getElem?_append_right (by omega), hl]
      simp [show k * 2 - 2 * k = 0 by omega, show k * 2 + 1 - 2 * k = 1 by omega]
    · rw [List.getElem?_append_left (by omega), List.getElem?_append_left (by omega)]
      exact ipv_at p n k (by omega)
theorem owns_ipv {w : World} {base n : Nat} {v : Value} {p : Nat → Int × Int} (h : w.ownsRow base 49 2 v n (ipv p n)) : ∃ a cap, v = .slice a n cap ∧ PRow w a n p := by
  by_cases hn : 0 < n
  · obtain ⟨g, cap, rfl⟩ := owns_form h hn
    refine ⟨_, cap, rfl, fun k hk => ⟨g, 0, rfl, ?_, ?_⟩⟩
    · rw [Nat.zero_add, h.cellAt _ (by omega)]; exact (ipv_at p n k hk).1
    · rw [Nat.zero_add, h.cellAt _ (by omega)]; exact (ipv_at p n k hk).2
  · have h0 : n = 0 := by omega
    subst h0
    rcases h.2 with ⟨rfl, _⟩ | ⟨g, cap, cur, rfl, _⟩
    · exact ⟨none, 0, rfl, fun k hk => absurd hk (Nat.not_lt_zero _)⟩
    · exact ⟨_, cap, rfl, fun k hk => absurd hk (Nat.not_lt_zero _)⟩
end Go.Proofs.Ytkknfnjhpamfbaa
