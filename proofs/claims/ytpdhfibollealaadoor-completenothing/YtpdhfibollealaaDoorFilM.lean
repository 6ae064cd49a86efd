/-
  Lists of numbers that a test lets by: they rise; where each stands. Conditions: as each theorem says.
-/
import Derived.Test.YtpdhfibollealaaDoorCutsP
import Derived.Test.YtpdhfibollealaaDoorPlace
namespace Go.Proofs.YtpdhfibollealaaDoor

theorem fil_mem (I : Nat → Bool) : ∀ k s, s ∈ fil I k ↔ s < k ∧ I s = true
  | 0, s => by simp [fil]
  | k + 1, s => by
    have ih := fil_mem I k s
    cases h : I k
    · rw [fil_no h, ih]
      constructor
      · rintro ⟨a, b⟩; exact ⟨by omega, b⟩
      · rintro ⟨a, b⟩
        have : s ≠ k := fun e => by subst e; rw [h] at b; cases b
        exact ⟨by omega, b⟩
    · rw [fil_yes h, List.mem_append, ih, List.mem_singleton]
      constructor
      · rintro (⟨a, b⟩ | rfl)
        · exact ⟨by omega, b⟩
        · exact ⟨by omega, h⟩
      · rintro ⟨a, b⟩
        by_cases e : s = k
        · exact .inr e
        · exact .inl ⟨by omega, b⟩
theorem nth_mem {l : List Nat} {k : Nat} (hk : k < l.length) : nth l k ∈ l := by
  unfold nth; rw [List.getD_eq_getElem?_getD, List.getElem?_eq_getElem hk]; exact List.getElem_mem hk
theorem nth_app_l {l r : List Nat} {k : Nat} (hk : k < l.length) : nth (l ++ r) k = nth l k := by
  unfold nth; rw [List.getD_eq_getElem?_getD, List.getD_eq_getElem?_getD, List.getElem?_append_left hk]
theorem nth_app_r (l : List Nat) (s : Nat) : nth (l ++ [s]) l.length = s := by
  unfold nth; simp
theorem fil_rises (I : Nat → Bool) : ∀ k, Rises (fil I k)
  | 0 => fun i j _ hj => by simp [fil] at hj
  | k + 1 => by
    have ih := fil_rises I k
    cases h : I k
    · rw [fil_no h]; exact ih
    · rw [fil_yes h]
      intro i j hij hj
      rw [List.length_append, List.length_singleton] at hj
      by_cases e : j = (fil I k).length
      · subst e
        rw [nth_app_l hij, nth_app_r]
        exact ((fil_mem I k _).1 (nth_mem hij)).1
      · rw [nth_app_l (by omega), nth_app_l (by omega)]
        exact ih i j hij (by omega)
/-- Where s stands in a list. -/
def plc (l : List Nat) (s : Nat) : Nat := l.idxOf s
theorem plc_is {l : List Nat} {s : Nat} (h : s ∈ l) : plc l s < l.length ∧ nth l (plc l s) = s := by
  have h1 : l.idxOf s < l.length := List.idxOf_lt_length_of_mem h
  refine ⟨h1, ?_⟩
  unfold nth plc
  rw [List.getD_eq_getElem?_getD, List.getElem?_eq_getElem h1]
  exact List.getElem_idxOf h1
theorem Rises.plc {l : List Nat} (h : Rises l) {k : Nat} (hk : k < l.length) : plc l (nth l k) = k := by
  obtain ⟨h1, h2⟩ := plc_is (nth_mem hk)
  exact h.one h1 hk h2

end Go.Proofs.YtpdhfibollealaaDoor
