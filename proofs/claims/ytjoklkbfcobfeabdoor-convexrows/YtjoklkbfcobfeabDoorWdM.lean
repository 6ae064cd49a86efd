/-
  Words, set by set: what the ways are when the first sets were looked at. Plain facts: no Go text here. Conditions: as each theorem says.
-/
import Derived.Test.YtjoklkbfcobfeabDoorCrn
namespace Go.Proofs.YtjoklkbfcobfeabDoor
open Go.RowKit

theorem nth_append {l : List Nat} {x k : Nat} (h : k < l.length) : nth (l ++ [x]) k = nth l k := by
  unfold nth; rw [List.getD_eq_getElem?_getD, List.getD_eq_getElem?_getD, List.getElem?_append_left h]
theorem nth_last (l : List Nat) (x : Nat) : nth (l ++ [x]) l.length = x := by
  unfold nth; rw [List.getD_eq_getElem?_getD, List.getElem?_append_right (Nat.le_refl _)]; simp
theorem psum {s : Nat} {φ : Nat → Nat} : ∀ K, sumTo (fun t => φ (nth (pts s K) t)) (pts s K).length = sumTo (fun p => if s.testBit p = true then φ p else 0) K
  | 0 => rfl
  | K + 1 => by
    cases h : s.testBit K
    · rw [pts_no h, psum K]
      show _ = _ + _
      simp [h]
    · rw [pts_yes h, List.length_append]
      show sumTo _ ((pts s K).length + 1) = _ + _
      rw [sumTo, nth_last]
      have : sumTo (fun t => φ (nth (pts s K ++ [K]) t)) (pts s K).length = sumTo (fun t => φ (nth (pts s K) t)) (pts s K).length := sumTo_congr _ fun k hk => by rw [nth_append hk]
      rw [this, psum K]; simp [h]
/-- The ways, when the first k sets were looked at. -/
def wv (g : Nat → Nat) (len k j : Nat) : Nat := if j = 0 then 1 else if mem g k j = true then wy (mem g len) j else 0
/-- The sets rise. -/
def RisN (g : Nat → Nat) (len : Nat) : Prop := ∀ i k, i < k → k < len → g i < g k
theorem ris_nat {n len : Nat} {f : Nat → Int} (h1 : FIn n len f) (h2 : Ris len f) : RisN (nat f) len := by
  have step : ∀ k, k + 1 < len → nat f k < nat f (k + 1) := fun k hk => by
    have := h2 (k + 1) hk (by omega)
    rw [Nat.add_sub_cancel] at this
    have := h1 k (by omega)
    have := h1 (k + 1) hk
    unfold nat; omega
  intro i k hik
  induction k with
  | zero => omega
  | succ k ih =>
    intro hk
    by_cases e : i = k
    · subst e; exact step i hk
    · have := ih (by omega) (by omega); have := step k hk; omega
theorem mem_more {g : Nat → Nat} {k m s : Nat} (h : k ≤ m) (hm : mem g k s = true) : mem g m s = true := by
  obtain ⟨j, h1, h2⟩ := mem_iff.1 hm
  exact mem_iff.2 ⟨j, by omega, h2⟩
theorem mem_new {g : Nat → Nat} {len k : Nat} (hR : RisN g len) (hk : k < len) : mem g k (g k) = false := by
  cases e : mem g k (g k)
  · rfl
  · obtain ⟨j, h1, h2⟩ := mem_iff.1 e
    have := hR j k h1 hk
    omega
theorem wv_less {g : Nat → Nat} {len k j : Nat} (hR : RisN g len) (hk : k < len) (hj : j < g k) : wv g len k j = wy (mem g len) j := by
  unfold wv
  by_cases h0 : j = 0
  · rw [if_pos h0, h0, wy_zero]
  · rw [if_neg h0]
    cases hm : mem g len j
    · have : mem g k j = false := by
        cases e : mem g k j
        · rfl
        · rw [mem_more (by omega) e] at hm; cases hm
      rw [this, if_neg (by decide), wy_no h0 hm]
    · obtain ⟨i, hi, e⟩ := mem_iff.1 hm
      have hik : i < k := by
        rcases Nat.lt_trichotomy i k with h | h | h
        · exact h
        · subst h; omega
        · have := hR k i h hi; omega
      rw [mem_iff.2 ⟨i, hik, e⟩, if_pos rfl]
theorem wv_first {g : Nat → Nat} {len k : Nat} (hR : RisN g len) (hk : k < len) : wv g len k (g k) = if g k = 0 then 1 else 0 := by
  unfold wv
  rw [mem_new hR hk]
  by_cases h0 : g k = 0
  · rw [if_pos h0, if_pos h0]
  · rw [if_neg h0, if_neg h0, if_neg (by decide)]
theorem wv_succ (g : Nat → Nat) (len k : Nat) : wv g len (k + 1) = upd (wv g len k) (g k) (wy (mem g len) (g k)) := by
  funext j
  unfold wv
  rw [mem_succ]
  by_cases e : j = g k
  · subst e
    rw [upd_same, updB_same]
    by_cases h0 : g k = 0
    · rw [if_pos h0, h0, wy_zero]
    · rw [if_neg h0, if_pos rfl]
  · rw [upd_other _ _ _ _ e, updB_other _ e]
theorem wv_zero (g : Nat → Nat) (len : Nat) : wv g len 0 = upd (fun _ => 0) 0 1 := by
  funext j
  unfold wv
  by_cases e : j = 0
  · subst e; rw [upd_same, if_pos rfl]
  · rw [upd_other _ _ _ _ e, if_neg e, mem_zero]; simp
theorem wv_end {g : Nat → Nat} {len j : Nat} : wv g len len j = wy (mem g len) j := by
  unfold wv
  by_cases h0 : j = 0
  · rw [if_pos h0, h0, wy_zero]
  · rw [if_neg h0]
    cases hm : mem g len j
    · rw [if_neg (by decide), wy_no h0 hm]
    · rw [if_pos rfl]
/-- The ways of s, when the first i of its points were looked at. -/
def wi (M : Nat → Bool) (s i : Nat) : Nat := (if s = 0 then 1 else 0) + sumTo (fun t => wy M (s - pw (nth (pts s 10) t))) i
theorem wi_zero {g : Nat → Nat} {len k : Nat} (hR : RisN g len) (hk : k < len) : wv g len k (g k) = wi (mem g len) (g k) 0 := by
  rw [wv_first hR hk]; rfl
theorem wi_succ (M : Nat → Bool) (s i : Nat) : wi M s (i + 1) = wi M s i + wy M (s - pw (nth (pts s 10) i)) := by
  unfold wi; rw [sumTo, Nat.add_assoc]
theorem wi_end {g : Nat → Nat} {len k : Nat} (hk : k < len) (hs : g k < 1024) : wi (mem g len) (g k) (pts (g k) 10).length = wy (mem g len) (g k) := by
  unfold wi
  by_cases h0 : g k = 0
  · rw [if_pos h0, h0, wy_zero, pts_zero]; rfl
  · rw [if_neg h0, Nat.zero_add, wy_yes hs h0 (mem_at hk)]
    exact psum (φ := fun p => wy (mem g len) (g k - pw p)) 10
theorem wi_small {M : Nat → Bool} {s i : Nat} (hs : s < 1024) (hi : i ≤ 10) : wi M s i ≤ 100000000001 := by
  have h := sumTo_le (φ := fun t => wy M (s - pw (nth (pts s 10) t))) (B := 10000000000) i (fun j _ => wy_small (by omega))
  unfold wi
  have : (if s = 0 then 1 else 0) ≤ 1 := by split <;> omega
  omega
end Go.Proofs.YtjoklkbfcobfeabDoor
