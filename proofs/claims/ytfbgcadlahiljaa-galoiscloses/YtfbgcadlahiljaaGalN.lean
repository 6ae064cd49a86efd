/-
  How many elements are closed: as many as elements to which something goes. Plain facts: no Go text here. No condition but those of each theorem.
-/
import Derived.Test.YtfbgcadlahiljaaGalM
namespace Go.Proofs.Ytfbgcadlahiljaa

/-- How many of the first k P lets by. -/
def cnt2 (P : Nat → Bool) : Nat → Nat
  | 0 => 0
  | k + 1 => if P k = true then cnt2 P k + 1 else cnt2 P k
theorem cnt2_yes {P : Nat → Bool} {k : Nat} (h : P k = true) : cnt2 P (k + 1) = cnt2 P k + 1 := by simp [cnt2, h]
theorem cnt2_no {P : Nat → Bool} {k : Nat} (h : P k = false) : cnt2 P (k + 1) = cnt2 P k := by simp [cnt2, h]
theorem cnt2_le (P : Nat → Bool) : ∀ k, cnt2 P k ≤ k
  | 0 => Nat.le_refl _
  | k + 1 => by have := cnt2_le P k; unfold cnt2; split <;> omega
theorem cnt2_congr {P Q : Nat → Bool} : ∀ n, (∀ k, k < n → P k = Q k) → cnt2 P n = cnt2 Q n
  | 0, _ => rfl
  | n + 1, h => by rw [cnt2, cnt2, cnt2_congr n (fun k hk => h k (by omega)), h n (by omega)]
theorem cnt2_imp {P Q : Nat → Bool} : ∀ n, (∀ k, k < n → P k = true → Q k = true) → cnt2 P n ≤ cnt2 Q n
  | 0, _ => Nat.le_refl _
  | n + 1, h => by
    have ih := cnt2_imp n (fun k hk => h k (by omega))
    cases hp : P n
    · rw [cnt2_no hp]
      cases hq : Q n
      · rw [cnt2_no hq]; exact ih
      · rw [cnt2_yes hq]; omega
    · rw [cnt2_yes hp, cnt2_yes (h n (by omega) hp)]; omega
theorem cnt2_split (P Q : Nat → Bool) : ∀ n, cnt2 P n = cnt2 (fun k => P k && Q k) n + cnt2 (fun k => P k && !Q k) n
  | 0 => rfl
  | n + 1 => by
    have ih := cnt2_split P Q n
    cases hp : P n <;> cases hq : Q n <;> simp [cnt2, hp, hq, ih] <;> omega
theorem cnt2_not (P : Nat → Bool) : ∀ n, cnt2 P n + cnt2 (fun k => !P k) n = n
  | 0 => rfl
  | n + 1 => by
    have ih := cnt2_not P n
    cases hp : P n <;> simp [cnt2, hp] <;> omega
theorem cnt2_remove {Q : Nat → Bool} {j : Nat} : ∀ m, j < m → Q j = true → cnt2 Q m = cnt2 (fun k => Q k && decide (k ≠ j)) m + 1
  | 0, h, _ => absurd h (Nat.not_lt_zero _)
  | m + 1, h, hq => by
    by_cases e : j = m
    · subst e
      rw [cnt2_yes hq, cnt2_no (by simp)]
      congr 1
      exact cnt2_congr j fun k hk => by
        have : decide (k ≠ j) = true := by simp; omega
        rw [this, Bool.and_true]
    · have ih := cnt2_remove (Q := Q) m (by omega) hq
      have e2 : (Q m && decide (m ≠ j)) = Q m := by
        have : decide (m ≠ j) = true := by simp; omega
        rw [this, Bool.and_true]
      cases hm : Q m
      · rw [cnt2_no hm, cnt2_no (by rw [e2]; exact hm)]; exact ih
      · rw [cnt2_yes hm, cnt2_yes (P := fun k => Q k && decide (k ≠ j)) (by rw [e2]; exact hm), ih]
theorem cnt2_inj (f : Nat → Nat) : ∀ n (P : Nat → Bool) m (Q : Nat → Bool), (∀ i, i < n → P i = true → f i < m ∧ Q (f i) = true) → (∀ i j, i < n → j < n → P i = true → P j = true → f i = f j → i = j) → cnt2 P n ≤ cnt2 Q m
  | 0, _, _, _, _, _ => Nat.zero_le _
  | n + 1, P, m, Q, h1, h2 => by
    cases hp : P n
    · rw [cnt2_no hp]
      exact cnt2_inj f n P m Q (fun i hi => h1 i (by omega)) (fun i j hi hj => h2 i j (by omega) (by omega))
    · obtain ⟨hlt, hq⟩ := h1 n (by omega) hp
      rw [cnt2_yes hp, cnt2_remove m hlt hq]
      have := cnt2_inj f n P m (fun k => Q k && decide (k ≠ f n)) (fun i hi hpi => by
        obtain ⟨a, b⟩ := h1 i (by omega) hpi
        refine ⟨a, ?_⟩
        have : f i ≠ f n := fun e => by have := h2 i n (by omega) (by omega) hpi hp e; omega
        simp [b, this]) (fun i j hi hj => h2 i j (by omega) (by omega))
      omega
theorem filt_cnt (P : Nat → Bool) : ∀ n, (filt P n).length = cnt2 P n
  | 0 => rfl
  | n + 1 => by
    rcases h : P n with _ | _
    · rw [filt_no h, cnt2_no h]; exact filt_cnt P n
    · rw [filt_yes h, cnt2_yes h, List.length_append, filt_cnt P n]; rfl
/-- Has something of the first k gone to y? -/
def sn (f : Nat → Nat) : Nat → Nat → Bool
  | 0, _ => false
  | k + 1, y => sn f k y || y == f k
theorem sn_iff {f : Nat → Nat} {y : Nat} : ∀ k, sn f k y = true ↔ ∃ i, i < k ∧ f i = y
  | 0 => by simp [sn]
  | k + 1 => by
    rw [sn, Bool.or_eq_true, sn_iff k, beq_iff_eq]
    constructor
    · rintro (⟨i, hi, e⟩ | e)
      · exact ⟨i, by omega, e⟩
      · exact ⟨k, by omega, e.symm⟩
    · rintro ⟨i, hi, e⟩
      by_cases q : i = k
      · subst q; exact .inr e.symm
      · exact .inl ⟨i, by omega, e⟩
theorem sn_old {f : Nat → Nat} {k : Nat} (h : sn f k (f k) = true) (y : Nat) : sn f (k + 1) y = sn f k y := by
  rw [sn]
  by_cases e : y = f k
  · subst e; simp [h]
  · simp [e]
theorem sn_cnt_new {f : Nat → Nat} {k m : Nat} (hm : f k < m) (h : sn f k (f k) = false) : cnt2 (sn f (k + 1)) m = cnt2 (sn f k) m + 1 := by
  rw [cnt2_remove (Q := sn f (k + 1)) m hm (by simp [sn])]
  congr 1
  refine cnt2_congr m fun y _ => ?_
  rw [sn]
  by_cases e : y = f k
  · subst e; simp [h]
  · simp [e]
theorem closed_cnt {n n' : Nat} {m j m' j' : Nat → Nat → Nat} {f : Nat → Nat} (h : Lat n m j) (h1 : 1 ≤ n) (h' : Lat n' m' j') (h1' : 1 ≤ n') (hf : Mp n n' f) (hK : Keep n m j n' m' j' f) :
    cnt2 (fun x => bk n m j m' f (f x) == x) n = cnt2 (sn f n) n' := by
  apply Nat.le_antisymm
  · refine cnt2_inj f n _ n' _ (fun i hi _ => ⟨hf i hi, (sn_iff n).2 ⟨i, hi, rfl⟩⟩) fun i k _ _ pi pk e => ?_
    have a : bk n m j m' f (f i) = i := by simpa using pi
    have b : bk n m j m' f (f k) = k := by simpa using pk
    rw [← a, ← b, e]
  · refine cnt2_inj (bk n m j m' f) n' _ n _ (fun y hy _ => ⟨bk_lt h h1 y, ?_⟩) fun y z hy hz py pz e => ?_
    · have := bk_back h h1 h' h1' hf hK hy
      simpa using this
    · obtain ⟨i, hi, rfl⟩ := (sn_iff n).1 py
      obtain ⟨k, hk, rfl⟩ := (sn_iff n).1 pz
      rw [← bk_there h h1 h' h1' hf hK hi, e, bk_there h h1 h' h1' hf hK hk]
end Go.Proofs.Ytfbgcadlahiljaa
