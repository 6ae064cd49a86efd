/-
  Hall: everyone on the left has somebody just if no set has too few, and just if some matching of all is counted. Plain facts: no Go text here. Conditions: at most ten points on either side.
-/
import Derived.Test.YtahnkmdhhdgfhabMMated
import Derived.Test.YtahnkmdhhdgfhabMMat
namespace Go.Proofs.Ytahnkmdhhdgfhab
open Go.RowKit

/-- The d from 'left' on have somebody each, none of them taken, no two the same. -/
def Full (t : Nat → Nat) (r : Nat) (f : Nat → Int) (left d taken : Nat) : Prop := ∀ i, left ≤ i → i < left + d → ∃ j : Nat, j < r ∧ f i = (j : Nat) ∧ (t i).testBit j = true ∧ taken.testBit j = false ∧ ∀ i', left ≤ i' → i' < i → f i' ≠ (j : Nat)
theorem mat_pos {t : Nat → Nat} {r : Nat} {f : Nat → Int} : ∀ d left taken, Full t r f left d taken → 0 < mat t r d left taken
  | 0, _, _, _ => by simp [mat]
  | d + 1, left, taken, h => by
    obtain ⟨k, hk, hf, hb, ht, _⟩ := h left (Nat.le_refl _) (by omega)
    have hfre : fre t left taken k = true := by simp [fre, hb, ht]
    have ih := mat_pos d (left + 1) (taken + pw k) (fun i h1 h2 => by
      obtain ⟨j, hj, hfj, hbj, htj, hn⟩ := h i (by omega) (by omega)
      have hne : j ≠ k := fun e => hn left (Nat.le_refl _) (by omega) (by rw [hf, e])
      refine ⟨j, hj, hfj, hbj, ?_, fun i' a b => hn i' (by omega) b⟩
      rw [← or_free ht, or_other hne]; exact htj)
    have h1 := le_sumTo (φ := mone t r d left taken) r hk
    rw [mone_yes hfre] at h1
    rw [mat_succ]
    omega
theorem sumTo_pos {φ : Nat → Nat} : ∀ n, 0 < sumTo φ n → ∃ k, k < n ∧ 0 < φ k
  | 0, h => by simp [sumTo] at h
  | n + 1, h => by
    by_cases e : 0 < φ n
    · exact ⟨n, by omega, e⟩
    · rw [sumTo] at h
      obtain ⟨k, hk, hp⟩ := sumTo_pos (φ := φ) n (by omega)
      exact ⟨k, by omega, hp⟩
theorem full_of_mat {t : Nat → Nat} {r : Nat} : ∀ d left taken, 0 < mat t r d left taken → ∃ f, Full t r f left d taken
  | 0, left, _, _ => ⟨fun _ => 0, fun i h1 h2 => by omega⟩
  | d + 1, left, taken, h => by
    rw [mat_succ] at h
    obtain ⟨k, hk, hp⟩ := sumTo_pos r h
    cases hfre : fre t left taken k
    · rw [mone_no hfre] at hp; omega
    · rw [mone_yes hfre] at hp
      obtain ⟨f, hf⟩ := full_of_mat d (left + 1) (taken + pw k) hp
      simp only [fre, Bool.and_eq_true, Bool.not_eq_true'] at hfre
      obtain ⟨hb, ht⟩ := hfre
      refine ⟨updI f left (k : Nat), fun i h1 h2 => ?_⟩
      by_cases e : i = left
      · subst e
        exact ⟨k, hk, updI_same _ _ _, hb, ht, fun i' a b => by omega⟩
      · obtain ⟨j, hj, hfj, hbj, htj, hn⟩ := hf i (by omega) (by omega)
        rw [← or_free ht] at htj
        have hne : j ≠ k := fun e => by rw [e, or_self] at htj; cases htj
        rw [or_other hne] at htj
        refine ⟨j, hj, by rw [updI_other e, hfj], hbj, htj, fun i' a b => ?_⟩
        by_cases e2 : i' = left
        · rw [e2, updI_same]; omega
        · rw [updI_other e2]; exact hn i' (by omega) b
theorem cnt2_full {P : Nat → Bool} : ∀ n, cnt2 P n = n → ∀ k, k < n → P k = true
  | 0, _, k, hk => absurd hk (Nat.not_lt_zero _)
  | n + 1, h, k, hk => by
    have h1 := cnt2_le P n
    cases hp : P n
    · rw [cnt2_no hp] at h; omega
    · rw [cnt2_yes hp] at h
      by_cases e : k = n
      · rw [e, hp]
      · exact cnt2_full n (by omega) k (by omega)
theorem cnt2_all {P : Nat → Bool} : ∀ n, (∀ k, k < n → P k = true) → cnt2 P n = n
  | 0, _ => rfl
  | n + 1, h => by rw [cnt2_yes (h n (by omega)), cnt2_all n (fun k hk => h k (by omega))]
theorem full_mok {t : Nat → Nat} {l r : Nat} {f : Nat → Int} (h : Full t r f 0 l 0) : MOK t l r f ∧ cntM f l = l := by
  constructor
  · intro i hi
    obtain ⟨j, hj, hf, hb, _, hn⟩ := h i (Nat.zero_le _) (by omega)
    exact .inr ⟨j, hj, hf, hb, fun i' hi' => hn i' (Nat.zero_le _) hi'⟩
  · refine cnt2_all l fun i hi => ?_
    obtain ⟨j, hj, hf, _⟩ := h i (Nat.zero_le _) (by omega)
    have : f i ≠ -1 := by omega
    simpa [goB] using this
theorem mok_full {t : Nat → Nat} {l r : Nat} {f : Nat → Int} (h : MOK t l r f) (hc : cntM f l = l) : Full t r f 0 l 0 := by
  intro i _ hi
  have hg := cnt2_full l hc i (by omega)
  rcases h i (by omega) with h1 | ⟨j, hj, hf, hb, hn⟩
  · simp [goB, h1] at hg
  · exact ⟨j, hj, hf, hb, by simp, fun i' _ hi' => hn i' hi'⟩
theorem firstT_is {P : Nat → Bool} : ∀ n s, firstT P n = some s → s < n ∧ P s = true
  | 0, s, h => by simp [firstT] at h
  | n + 1, s, h => by
    rw [firstT] at h
    cases e : firstT P n with
    | some s' =>
      rw [e] at h
      simp at h
      subst h
      obtain ⟨h1, h2⟩ := firstT_is n _ e
      exact ⟨by omega, h2⟩
    | none =>
      rw [e] at h
      simp at h
      obtain ⟨h1, rfl⟩ := h
      exact ⟨by omega, h1⟩
theorem firstT_not {P : Nat → Bool} : ∀ n, firstT P n = none → ∀ k, k < n → P k = false
  | 0, _, k, hk => absurd hk (Nat.not_lt_zero _)
  | n + 1, h, k, hk => by
    rw [firstT] at h
    cases e : firstT P n with
    | some s' => rw [e] at h; simp at h
    | none =>
      rw [e] at h
      simp at h
      by_cases e2 : k = n
      · rw [e2]; exact h
      · exact firstT_not n e k (by omega)
theorem hall {t : Nat → Nat} {l r : Nat} {G : Nat → Int} (hl : l ≤ 10) (hr : r ≤ 10) (ht : Sm r l t) (hm : Mates t l r G) :
    (∃ s, firstT (lks t l) (pw l) = some s ∧ s < pw l ∧ pc (orTo t s l) < pc s ∧ mat t r l 0 0 = 0 ∧ ¬ Mtd t l r l G (l : Int)) ∨
    (firstT (lks t l) (pw l) = none ∧ 0 < mat t r l 0 0 ∧ Mtd t l r l G (l : Int) ∧ ∀ s, s < pw l → pc s ≤ pc (orTo t s l)) := by
  have hcl : cntM G l ≤ l := cnt2_le _ l
  cases e : firstT (lks t l) (pw l) with
  | some s =>
    left
    obtain ⟨h1, h2⟩ := firstT_is _ _ e
    have h3 : pc (orTo t s l) < pc s := by simpa [lks] using h2
    refine ⟨s, rfl, h1, h3, ?_, ?_⟩
    · refine Nat.eq_zero_of_not_pos fun hp => ?_
      obtain ⟨f, hf⟩ := full_of_mat _ _ _ hp
      obtain ⟨h4, h5⟩ := full_mok hf
      have := upper hl hr ht h4 h1
      omega
    · rintro ⟨_, h4, h5⟩
      have := upper hl hr ht h4 h1
      omega
  | none =>
    right
    have h1 := firstT_not _ e
    have h2 : ∀ s, s < pw l → pc s ≤ pc (orTo t s l) := fun s hs => by
      have := h1 s hs
      simpa [lks] using this
    obtain ⟨s, hs, h3⟩ := lower hl hr ht hm
    have h4 := h2 s hs
    have h5 : cntM G l = l := by omega
    exact ⟨rfl, mat_pos _ _ _ (mok_full hm.ok h5), ⟨rfl, hm.ok, by omega⟩, h2⟩
end Go.Proofs.Ytahnkmdhhdgfhab
