/-
  Plain facts on rows that have each point once: each once, or each at all, of as many places as points. No condition.
-/
import Derived.Test.YtklfnghgpmjnmaaDoorBuild
namespace Go.Proofs.YtklfnghgpmjnmaaDoor
open Go.RowKit

/-- Of how many of the first numbers something is so. -/
def cn (P : Nat → Bool) : Nat → Nat
  | 0 => 0
  | k + 1 => cn P k + (if P k = true then 1 else 0)
theorem cn_le (P : Nat → Bool) : ∀ k, cn P k ≤ k
  | 0 => Nat.le_refl _
  | k + 1 => by have := cn_le P k; unfold cn; split <;> omega
theorem cn_yes {P : Nat → Bool} {k : Nat} (h : P k = true) : cn P (k + 1) = cn P k + 1 := by simp [cn, h]
theorem cn_no {P : Nat → Bool} {k : Nat} (h : P k = false) : cn P (k + 1) = cn P k := by simp [cn, h]
theorem cn_congr {P Q : Nat → Bool} : ∀ k, (∀ j, j < k → P j = Q j) → cn P k = cn Q k
  | 0, _ => rfl
  | k + 1, h => by simp only [cn]; rw [cn_congr k (fun j hj => h j (by omega)), h k (by omega)]
theorem cn_all {P : Nat → Bool} : ∀ k, cn P k = k → ∀ j, j < k → P j = true
  | k + 1, h, j, hj => by
    have h1 := cn_le P k
    rcases Bool.eq_false_or_eq_true (P k) with e | e
    · rw [cn_yes e] at h
      by_cases q : j = k
      · subst q; exact e
      · exact cn_all k (by omega) j (by omega)
    · rw [cn_no e] at h; omega
theorem cn_full {P : Nat → Bool} : ∀ k, (∀ j, j < k → P j = true) → cn P k = k
  | 0, _ => rfl
  | k + 1, h => by rw [cn_yes (h k (by omega)), cn_full k (fun j hj => h j (by omega))]
/-- One more is so at most. -/
theorem cn_one_more {P Q : Nat → Bool} (c : Nat) (h : ∀ j, j ≠ c → P j = Q j) (hp : P c = false) (hq : Q c = true) : ∀ k, cn Q k = cn P k + (if c < k then 1 else 0)
  | 0 => by simp [cn]
  | k + 1 => by
    have ih := cn_one_more c h hp hq k
    by_cases e : k = c
    · subst e
      rw [cn_yes hq, cn_no hp, ih, if_neg (Nat.lt_irrefl _), if_pos (Nat.lt_succ_self _)]
    · rcases Bool.eq_false_or_eq_true (P k) with q | q
      · rw [cn_yes q, cn_yes (by rw [← h k e]; exact q), ih]
        by_cases l : c < k
        · rw [if_pos l, if_pos (by omega)]
        · rw [if_neg l, if_neg (by omega)]
      · rw [cn_no q, cn_no (by rw [← h k e]; exact q), ih]
        by_cases l : c < k
        · rw [if_pos l, if_pos (by omega)]
        · rw [if_neg l, if_neg (by omega)]
/-- Was i met among the first k? -/
def sn (f : Nat → Int) (i : Nat) : Nat → Bool
  | 0 => false
  | k + 1 => sn f i k || decide (f k = i)
theorem sn_iff {f : Nat → Int} {i : Nat} : ∀ k, sn f i k = true ↔ ∃ j, j < k ∧ f j = i
  | 0 => by simp [sn]
  | k + 1 => by
    rw [sn, Bool.or_eq_true, sn_iff k, decide_eq_true_eq]
    constructor
    · rintro (⟨j, hj, h⟩ | h)
      · exact ⟨j, by omega, h⟩
      · exact ⟨k, by omega, h⟩
    · rintro ⟨j, hj, h⟩
      by_cases e : j = k
      · subst e; exact .inr h
      · exact .inl ⟨j, by omega, h⟩
/-- Each once. -/
def Once (f : Nat → Int) (n k : Nat) : Prop := ∀ j, j < k → (0 ≤ f j ∧ f j < n) ∧ ∀ i, i < j → f i ≠ f j
def ct (f : Nat → Int) (n k : Nat) : Nat := cn (fun i => sn f i k) n
theorem ct_zero (f : Nat → Int) (n : Nat) : ct f n 0 = 0 := by
  unfold ct
  have : ∀ m, cn (fun i => sn f i 0) m = 0 := fun m => by
    induction m with
    | zero => rfl
    | succ m ih => rw [cn_no rfl]; exact ih
  exact this n
theorem ct_new {f : Nat → Int} {n k : Nat} (h : 0 ≤ f k ∧ f k < n) (hn : ∀ i, i < k → f i ≠ f k) : ct f n (k + 1) = ct f n k + 1 := by
  obtain ⟨c, hc⟩ := Int.eq_ofNat_of_zero_le h.1
  have h1 : sn f c k = false := by
    rcases Bool.eq_false_or_eq_true (sn f c k) with e | e
    · obtain ⟨j, hj, q⟩ := (sn_iff k).1 e
      exact absurd (by rw [q, hc]) (hn j hj)
    · exact e
  have := cn_one_more (P := fun i => sn f i k) (Q := fun i => sn f i (k + 1)) c (fun j hj => by
    show sn f j k = (sn f j k || decide (f k = j))
    rw [decide_eq_false (by rw [hc]; omega), Bool.or_false]) h1 (by show (sn f c k || decide (f k = c)) = true; rw [decide_eq_true hc, Bool.or_true]) n
  unfold ct
  rw [this, if_pos (by omega)]
theorem ct_old {f : Nat → Int} {n k : Nat} (h : ¬ (0 ≤ f k ∧ f k < n) ∨ ∃ i, i < k ∧ f i = f k) : ct f n (k + 1) = ct f n k := by
  unfold ct
  refine cn_congr n (fun i hi => ?_)
  show (sn f i k || decide (f k = i)) = sn f i k
  by_cases e : f k = i
  · rcases h with h | ⟨j, hj, q⟩
    · exact absurd ⟨by omega, by omega⟩ h
    · rw [(sn_iff k).2 ⟨j, hj, by rw [q, e]⟩]; rfl
  · rw [decide_eq_false e, Bool.or_false]
theorem ct_le (f : Nat → Int) (n : Nat) : ∀ k, ct f n k ≤ k
  | 0 => by rw [ct_zero]; exact Nat.le_refl _
  | k + 1 => by
    have ih := ct_le f n k
    by_cases h : (0 ≤ f k ∧ f k < n) ∧ ∀ i, i < k → f i ≠ f k
    · rw [ct_new h.1 h.2]; omega
    · rw [ct_old (by
        by_cases q : 0 ≤ f k ∧ f k < n
        · refine .inr (Classical.byContradiction (fun hc => h ⟨q, fun i hi e => hc ⟨i, hi, e⟩⟩))
        · exact .inl q)]; omega
theorem once_ct {f : Nat → Int} {n : Nat} : ∀ k, Once f n k ↔ ct f n k = k
  | 0 => ⟨fun _ => ct_zero f n, fun _ j hj => absurd hj (Nat.not_lt_zero _)⟩
  | k + 1 => by
    have hle := ct_le f n k
    by_cases h : (0 ≤ f k ∧ f k < n) ∧ ∀ i, i < k → f i ≠ f k
    · rw [ct_new h.1 h.2]
      constructor
      · intro q
        have := (once_ct k).1 (fun j hj => q j (by omega)); omega
      · intro q j hj
        by_cases e : j = k
        · subst e; exact h
        · exact (once_ct k).2 (by omega) j (by omega)
    · have e := ct_old (f := f) (n := n) (k := k) (by
        by_cases q : 0 ≤ f k ∧ f k < n
        · refine .inr (Classical.byContradiction (fun hc => h ⟨q, fun i hi e => hc ⟨i, hi, e⟩⟩))
        · exact .inl q)
      rw [e]
      constructor
      · intro q; exact absurd (q k (by omega)) h
      · intro q; omega
/-- Of as many places as points: each once just if each is there. -/
theorem once_all {f : Nat → Int} {n : Nat} : Once f n n ↔ ∀ i, i < n → sn f i n = true := by
  rw [once_ct]
  exact ⟨fun h i hi => cn_all n h i hi, fun h => cn_full n h⟩
/-- Who stands in the first k places. -/
def pl (f : Nat → Int) (n k : Nat) : Nat := setBy (fun i => sn f i k) n
theorem pl_lt (f : Nat → Int) (n k : Nat) : pl f n k < pw n := setBy_lt _ n
theorem pl_bit {f : Nat → Int} {n k i : Nat} (hi : i < n) : (pl f n k).testBit i = sn f i k := by
  unfold pl; rw [setBy_bit, decide_eq_true hi, Bool.true_and]
theorem pl_zero (f : Nat → Int) (n : Nat) : pl f n 0 = 0 :=
  eq_of_bits (n := n) (pl_lt f n 0) (pw_pos n) (fun i hi => by rw [pl_bit hi, Nat.zero_testBit]; rfl)
theorem pl_next {f : Nat → Int} {n k x : Nat} (hx : x < n) (h : f k = (x : Nat)) : pl f n (k + 1) = pl f n k ||| pw x :=
  eq_of_bits (n := n) (pl_lt f n _) (Nat.or_lt_two_pow (pl_lt f n k) (Nat.pow_lt_pow_right (by decide) hx)) (fun i hi => by
    rw [pl_bit hi, Nat.testBit_or, pl_bit hi, pw_bit, sn]
    congr 1
    rw [h, Bool.eq_iff_iff]
    simp only [decide_eq_true_eq]
    omega)
/-- Of each point who stands ahead of it, as far as the first k places go. -/
def bf (f : Nat → Int) (n : Nat) : Nat → Nat → Nat
  | 0 => fun _ => 0
  | k + 1 => upd (bf f n k) (f k).toNat (pl f n k)
theorem bf_at {f : Nat → Int} {n j : Nat} : ∀ k, Once f n k → j < k → bf f n k (f j).toNat = pl f n j
  | k + 1, ho, hj => by
    have hok : Once f n k := fun i hi => ho i (by omega)
    by_cases e : j = k
    · subst e; rw [bf, upd_same]
    · have h1 := (ho k (by omega)).2 j (by omega)
      have h2 := (ho k (by omega)).1
      have h3 := (ho j (by omega)).1
      rw [bf, upd_other _ _ _ _ (fun q => h1 (by omega))]
      exact bf_at k hok (by omega)
theorem bf_lt {f : Nat → Int} {n : Nat} : ∀ k y, bf f n k y < pw n
  | 0, _ => pw_pos n
  | k + 1, y => by
    rw [bf]
    unfold upd
    split
    · exact pl_lt f n k
    · exact bf_lt k y
end Go.Proofs.YtklfnghgpmjnmaaDoor
