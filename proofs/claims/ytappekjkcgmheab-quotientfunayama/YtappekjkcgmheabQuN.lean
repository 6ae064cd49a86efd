/-
  How classes are numbered: those that come first have the least numbers; classes that are the same have the same numbers. Plain facts on numbers.
-/
import Derived.Test.YtappekjkcgmheabQuM
namespace Go.Proofs.Ytappekjkcgmheab
open Go.RowKit

/-- The classes of the first k elements, as they come. -/
def seenL (c : Nat → Nat) : Nat → List Nat
  | 0 => []
  | k + 1 => if frst c k = true then seenL c k ++ [c k] else seenL c k
theorem seenL_yes {c : Nat → Nat} {k : Nat} (h : frst c k = true) : seenL c (k + 1) = seenL c k ++ [c k] := by rw [seenL, if_pos h]
theorem seenL_no {c : Nat → Nat} {k : Nat} (h : frst c k = false) : seenL c (k + 1) = seenL c k := by rw [seenL, if_neg (by rw [h]; decide)]
theorem seenL_len (c : Nat → Nat) : ∀ k, (seenL c k).length = clsN c k
  | 0 => rfl
  | k + 1 => by
    have ih := seenL_len c k
    unfold clsN at ih ⊢
    cases h : frst c k
    · rw [seenL_no h, cntB_no h, ih]
    · rw [seenL_yes h, cntB_yes h, List.length_append, ih]; rfl
theorem seenL_mem (c : Nat → Nat) (v : Nat) : ∀ k, v ∈ seenL c k ↔ ∃ i, i < k ∧ c i = v
  | 0 => by simp [seenL]
  | k + 1 => by
    have ih := seenL_mem c v k
    cases h : frst c k
    · rw [seenL_no h, ih]
      constructor
      · rintro ⟨i, hi, e⟩; exact ⟨i, by omega, e⟩
      · rintro ⟨i, hi, e⟩
        by_cases k' : i = k
        · subst k'
          obtain ⟨a, ha, e1, e2⟩ := first_of c v i e
          refine ⟨a, ?_, e1⟩
          rcases Nat.lt_or_eq_of_le ha with hl | hl
          · exact hl
          · subst hl; rw [h] at e2; cases e2
        · exact ⟨i, by omega, e⟩
    · rw [seenL_yes h, List.mem_append, ih, List.mem_singleton]
      constructor
      · rintro (⟨i, hi, e⟩ | e)
        · exact ⟨i, by omega, e⟩
        · exact ⟨k, by omega, e.symm⟩
      · rintro ⟨i, hi, e⟩
        by_cases k' : i = k
        · subst k'; exact .inr e.symm
        · exact .inl ⟨i, by omega, e⟩
/-- The number of an element's class. -/
def nbr (c : Nat → Nat) (x : Nat) : Nat := (seenL c (x + 1)).idxOf (c x)
theorem seen_idx {c : Nat → Nat} {a : Nat} (h : frst c a = true) : ∀ d, (seenL c (a + 1 + d)).idxOf (c a) = clsN c a
  | 0 => by
    have hn : c a ∉ seenL c a := fun hm => by
      obtain ⟨i, hi, e⟩ := (seenL_mem c (c a) a).1 hm
      exact frst_iff.1 h i hi e
    show (seenL c (a + 1)).idxOf (c a) = _
    rw [seenL_yes h, List.idxOf_append, if_neg hn, seenL_len]
    simp
  | d + 1 => by
    have ih := seen_idx h d
    have hm : c a ∈ seenL c (a + 1 + d) := (seenL_mem c (c a) _).2 ⟨a, by omega, rfl⟩
    rw [show a + 1 + (d + 1) = (a + 1 + d) + 1 by omega]
    cases h' : frst c (a + 1 + d)
    · rw [seenL_no h']; exact ih
    · rw [seenL_yes h', List.idxOf_append, if_pos hm]; exact ih
theorem seen_at {c : Nat → Nat} {a n : Nat} (h : frst c a = true) (hn : a < n) : (seenL c n).idxOf (c a) = clsN c a := by
  have := seen_idx h (n - (a + 1))
  rw [show a + 1 + (n - (a + 1)) = n by omega] at this
  exact this
theorem nbr_first {c : Nat → Nat} {a x : Nat} (h : frst c a = true) (hax : a ≤ x) (e : c a = c x) : nbr c x = clsN c a := by
  unfold nbr
  rw [← e]
  exact seen_at h (by omega)
theorem nbr_new {c : Nat → Nat} {x : Nat} (h : frst c x = true) : nbr c x = clsN c x := nbr_first h (Nat.le_refl _) rfl
theorem cls_less {c : Nat → Nat} {a b : Nat} (ha : frst c a = true) (h : a < b) : clsN c a < clsN c b := by
  have : ∀ d, clsN c (a + 1) ≤ clsN c (a + 1 + d) := fun d => by
    induction d with
    | zero => exact Nat.le_refl _
    | succ d ih =>
      refine Nat.le_trans ih ?_
      show cntB (frst c) (a + 1 + d) ≤ cntB (frst c) ((a + 1 + d) + 1)
      cases h' : frst c (a + 1 + d)
      · rw [cntB_no h']; exact Nat.le_refl _
      · rw [cntB_yes h']; omega
  have h1 := this (b - (a + 1))
  rw [show a + 1 + (b - (a + 1)) = b by omega] at h1
  have h2 : clsN c (a + 1) = clsN c a + 1 := cntB_yes ha
  omega
/-- The numbers tell the classes. -/
theorem nbr_ker {c : Nat → Nat} {x y : Nat} : nbr c x = nbr c y ↔ c x = c y := by
  obtain ⟨a, ha, ea, fa⟩ := first_of c (c x) x rfl
  obtain ⟨b, hb, eb, fb⟩ := first_of c (c y) y rfl
  rw [nbr_first fa ha ea, nbr_first fb hb eb]
  constructor
  · intro h
    rcases Nat.lt_trichotomy a b with hl | hl | hl
    · have := cls_less fa hl; omega
    · rw [← ea, hl, eb]
    · have := cls_less fb hl; omega
  · intro h
    rcases Nat.lt_trichotomy a b with hl | hl | hl
    · exact absurd (ea.trans (h.trans eb.symm)) (frst_iff.1 fb a hl)
    · rw [hl]
    · exact absurd (eb.trans (h.symm.trans ea.symm)) (frst_iff.1 fa b hl)
/-- The same classes, the same numbers. -/
theorem nbr_same {q : Nat} {c d : Nat → Nat} (h1 : Ker q c d) (h2 : Ker q d c) : ∀ x, x < q → nbr c x = nbr d x := fun x hx => by
  have hf : ∀ k, k < q → frst c k = frst d k := fun k hk => by
    rw [Bool.eq_iff_iff, frst_iff, frst_iff]
    exact ⟨fun h i hi e => h i hi (h2 i k (by omega) hk e), fun h i hi e => h i hi (h1 i k (by omega) hk e)⟩
  have hc : ∀ k, k ≤ q → clsN c k = clsN d k := fun k => by
    induction k with
    | zero => exact fun _ => rfl
    | succ k ih =>
      intro hk
      have ih' := ih (by omega)
      have e := hf k (by omega)
      unfold clsN at ih' ⊢
      cases hb : frst c k
      · rw [cntB_no hb, cntB_no (by rw [← e]; exact hb), ih']
      · rw [cntB_yes hb, cntB_yes (by rw [← e]; exact hb), ih']
  obtain ⟨a, ha, ea, fa⟩ := first_of c (c x) x rfl
  rw [nbr_first fa ha ea, nbr_first (by rw [← hf a (by omega)]; exact fa) ha (h1 a x (by omega) hx ea), hc a (by omega)]
/-- Numbers as they must be: none but the next new one is above those that have come. -/
theorem nbr_rise (c : Nat → Nat) (x : Nat) : nbr c x ≤ clsN c x := by
  obtain ⟨a, ha, ea, fa⟩ := first_of c (c x) x rfl
  rw [nbr_first fa ha ea]
  rcases Nat.lt_or_eq_of_le ha with h | h
  · exact Nat.le_of_lt (cls_less fa h)
  · rw [h]; exact Nat.le_refl _
end Go.Proofs.Ytappekjkcgmheab
