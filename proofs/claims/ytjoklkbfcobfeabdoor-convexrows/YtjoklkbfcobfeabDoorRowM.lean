/-
  Rows and words: as many ways lead to all points by ideals, counted from the last step, as go on from no points, counted from the first. Plain facts: no Go text here. Conditions: as each theorem says.
-/
import Derived.Test.YtjoklkbfcobfeabDoorMinM
import Derived.Test.YtjoklkbfcobfeabDoorIdeals
namespace Go.Proofs.YtjoklkbfcobfeabDoor
open Go.RowKit

theorem sumTo_zero (n : Nat) : sumTo (fun _ => 0) n = 0 := by
  induction n with
  | zero => rfl
  | succ n ih => rw [sumTo, ih]
theorem sumTo_swap (φ : Nat → Nat → Nat) (n : Nat) : ∀ m, sumTo (fun i => sumTo (fun j => φ i j) n) m = sumTo (fun j => sumTo (fun i => φ i j) m) n
  | 0 => by
    show 0 = sumTo (fun _ => 0) n
    rw [sumTo_zero]
  | m + 1 => by
    rw [sumTo, sumTo_swap φ n m, ← sumTo_add]; rfl
/-- How many paths of k steps go from s to t, each step one point more that may come. -/
def pth (u : Nat → Nat) (n : Nat) : Nat → Nat → Nat → Nat
  | 0, s, t => if s = t then 1 else 0
  | k + 1, s, t => sumTo (fun i => if may u s i = true then pth u n k (s + pw i) t else 0) n
/-- May p have been the last that came to t? -/
def lst (u : Nat → Nat) (t p : Nat) : Bool := t.testBit p && may u (t - pw p) p
theorem lst_iff {u : Nat → Nat} {n s t i : Nat} (_h10 : n ≤ 10) (_ht : t < pw n) (_hi : i < n) : (may u s i = true ∧ s + pw i = t) ↔ (lst u t i = true ∧ s = t - pw i) := by
  constructor
  · rintro ⟨h1, h2⟩
    have h3 := may_out h1
    have h4 : t.testBit i = true := by rw [← h2, add_bit h3]; simp
    have h5 : s = t - pw i := by omega
    refine ⟨?_, h5⟩
    unfold lst
    rw [h4, ← h5, h1]; rfl
  · rintro ⟨h1, h2⟩
    unfold lst at h1
    rw [Bool.and_eq_true] at h1
    have := pw_le_bit h1.1
    exact ⟨by rw [h2]; exact h1.2, by omega⟩
theorem pth_last {u : Nat → Nat} {n : Nat} (h10 : n ≤ 10) : ∀ k s t, t < pw n → pth u n (k + 1) s t = sumTo (fun p => if lst u t p = true then pth u n k s (t - pw p) else 0) n
  | 0, s, t, ht => by
    refine sumTo_congr n fun i hi => ?_
    have h := lst_iff (u := u) (s := s) h10 ht hi
    show (if may u s i = true then (if s + pw i = t then 1 else 0) else 0) = (if lst u t i = true then (if s = t - pw i then 1 else 0) else 0)
    by_cases e : may u s i = true ∧ s + pw i = t
    · have e2 := h.1 e
      rw [if_pos e.1, if_pos e.2, if_pos e2.1, if_pos e2.2]
    · have e2 : ¬ (lst u t i = true ∧ s = t - pw i) := fun x => e (h.2 x)
      have l : (if may u s i = true then (if s + pw i = t then 1 else 0) else 0) = 0 := by
        by_cases a : may u s i = true
        · rw [if_pos a, if_neg (fun b => e ⟨a, b⟩)]
        · rw [if_neg a]
      have r : (if lst u t i = true then (if s = t - pw i then 1 else 0) else 0) = 0 := by
        by_cases a : lst u t i = true
        · rw [if_pos a, if_neg (fun b => e2 ⟨a, b⟩)]
        · rw [if_neg a]
      rw [l, r]
  | k + 1, s, t, ht => by
    have e1 : pth u n (k + 1 + 1) s t = sumTo (fun i => sumTo (fun p => if may u s i = true then (if lst u t p = true then pth u n k (s + pw i) (t - pw p) else 0) else 0) n) n := by
      refine sumTo_congr n fun i _ => ?_
      by_cases a : may u s i = true
      · rw [if_pos a, pth_last h10 k (s + pw i) t ht]
        refine sumTo_congr n fun p _ => ?_
        rw [if_pos a]
      · rw [if_neg a]
        have : sumTo (fun p => if may u s i = true then (if lst u t p = true then pth u n k (s + pw i) (t - pw p) else 0) else 0) n = sumTo (fun _ => 0) n := sumTo_congr n fun p _ => if_neg a
        rw [this, sumTo_zero]
    rw [e1, sumTo_swap]
    refine sumTo_congr n fun p _ => ?_
    by_cases b : lst u t p = true
    · rw [if_pos b]
      refine sumTo_congr n fun i _ => ?_
      by_cases a : may u s i = true
      · rw [if_pos a, if_pos a, if_pos b]
      · rw [if_neg a, if_neg a]
    · rw [if_neg b]
      have : sumTo (fun i => if may u s i = true then (if lst u t p = true then pth u n k (s + pw i) (t - pw p) else 0) else 0) n = sumTo (fun _ => 0) n := sumTo_congr n fun i _ => by
        by_cases a : may u s i = true
        · rw [if_pos a, if_neg b]
        · rw [if_neg a]
      rw [this, sumTo_zero]
theorem pth_ways {u : Nat → Nat} {n : Nat} : ∀ m s, s < pw n → miss n s = m → ways u n s = pth u n m s (pw n - 1)
  | 0, s, hs, hm => by
    have e : s = pw n - 1 := by
      rcases Nat.lt_or_ge (s + 1) (pw n) with h | h
      · exfalso
        have hb : ∃ i, i < n ∧ s.testBit i = false := by
          cases e : allB (fun i => s.testBit i) n
          · have : ¬ ∀ i, i < n → s.testBit i = true := fun h => by rw [allB_iff.2 h] at e; cases e
            exact Classical.byContradiction fun hc => this fun i hi => by
              cases e2 : s.testBit i
              · exact absurd ⟨i, hi, e2⟩ hc
              · rfl
          · have h1 := allB_iff.1 e
            have : s = pw n - 1 := eq_of_bits hs (by omega) fun i hi => by rw [h1 i hi, full_bit]; simp [hi]
            omega
        obtain ⟨i, hi, hb⟩ := hb
        have := miss_add hb n hi
        omega
      · omega
    rw [e, ways_all]
    show 1 = if pw n - 1 = pw n - 1 then 1 else 0
    rw [if_pos rfl]
  | m + 1, s, hs, hm => by
    have hne : s + 1 < pw n := by
      rcases Nat.lt_or_ge (s + 1) (pw n) with h | h
      · exact h
      · exfalso
        have e : s = pw n - 1 := by omega
        have : miss n s = 0 := by
          unfold miss
          have : sumTo (fun i => if s.testBit i = true then 0 else 1) n = sumTo (fun _ => 0) n := sumTo_congr n fun i hi => by rw [e, full_bit]; simp [hi]
          rw [this, sumTo_zero]
        omega
    rw [ways_eq hne]
    refine sumTo_congr n fun i hi => ?_
    by_cases a : may u s i = true
    · rw [if_pos a, goes_yes a]
      have h1 := may_out a
      exact pth_ways m (s + pw i) (add_lt hs hi h1) (by have := miss_add h1 n hi; omega)
    · rw [if_neg a]
      exact goes_no (by simpa using a)

/-- Is s an ideal of n points? -/
def Idl (g : Nat → Nat) (n s : Nat) : Prop := s < pw n ∧ ∀ p, p < n → s.testBit p = true → ∀ i, (g p).testBit i = true → s.testBit i = true
theorem lack_small {g : Nat → Nat} {n : Nat} (h10 : n ≤ 10) (hg : ∀ k, k < n → g k < pw n) {p s : Nat} (hp : p < n) (hs : s < pw n) : lack (g p) s = 0 ↔ ∀ i, (g p).testBit i = true → s.testBit i = true := by
  have h1 := pw_le n h10
  have h2 := hg p hp
  exact lack_zero _ _ (by omega) (by omega)
theorem Idl.add {g : Nat → Nat} {n : Nat} (h10 : n ≤ 10) (hg : ∀ k, k < n → g k < pw n) {s i : Nat} (h : Idl g n s) (hi : i < n) (hm : may g s i = true) : Idl g n (s + pw i) := by
  have hb := may_out hm
  have hl : lack (g i) s = 0 := by
    unfold may at hm
    rw [Bool.and_eq_true] at hm
    simpa using hm.2
  refine ⟨add_lt h.1 hi hb, fun p hp hpb j hj => ?_⟩
  rw [add_bit hb] at hpb ⊢
  by_cases e : i = p
  · subst e
    rw [(lack_small h10 hg hi h.1).1 hl j hj]; rfl
  · have hpb2 : s.testBit p = true := by simpa [e] using hpb
    rw [h.2 p hp hpb2 j hj]; rfl
theorem pth_out {g : Nat → Nat} {n : Nat} (h10 : n ≤ 10) (hg : ∀ k, k < n → g k < pw n) : ∀ k s t, Idl g n s → ¬ Idl g n t → pth g n k s t = 0
  | 0, s, t, hs, ht => by
    show (if s = t then 1 else 0) = 0
    rw [if_neg (fun e => ht (by rw [← e]; exact hs))]
  | k + 1, s, t, hs, ht => by
    show sumTo _ n = 0
    have : sumTo (fun i => if may g s i = true then pth g n k (s + pw i) t else 0) n = sumTo (fun _ => 0) n := sumTo_congr n fun i hi => by
      by_cases a : may g s i = true
      · rw [if_pos a, pth_out h10 hg k (s + pw i) t (hs.add h10 hg hi a) ht]
      · rw [if_neg a]
    rw [this, sumTo_zero]
theorem wsum_more {M : Nat → Bool} {s n : Nat} (hs : s < pw n) : ∀ d, sumTo (wpt M s) (n + d) = sumTo (wpt M s) n
  | 0 => rfl
  | d + 1 => by
    have hb : s.testBit (n + d) = false := by
      cases e : s.testBit (n + d)
      · rfl
      · have := bit_of_lt hs e; omega
    have h0 : wpt M s (n + d) = 0 := by unfold wpt; rw [hb]; simp
    rw [← Nat.add_assoc, sumTo, h0, wsum_more hs d]; rfl
theorem wsum_ten {M : Nat → Bool} {s n : Nat} (h10 : n ≤ 10) (hs : s < pw n) : sumTo (wpt M s) 10 = sumTo (wpt M s) n := by
  have := wsum_more (M := M) hs (10 - n)
  rw [show n + (10 - n) = 10 by omega] at this; exact this
theorem pth_words {g : Nat → Nat} {n : Nat} {M : Nat → Bool} (h10 : n ≤ 10) (hg : ∀ k, k < n → g k < pw n) (hO : Ord n g) (hM : ∀ s, M s = true ↔ Idl g n s) (h0 : Idl g n 0) : ∀ m t, t < pw n → n - miss n t = m → M t = true → wy M t = pth g n m 0 t
  | 0, t, ht, hm, hMt => by
    have hle := miss_le n t
    have e : t = 0 := by
      refine eq_of_bits ht (pw_pos n) fun i hi => ?_
      rw [Nat.zero_testBit]
      cases e : t.testBit i
      · rfl
      · exfalso
        have hs1 : t < 1024 := Nat.lt_of_lt_of_le ht (pw_le n h10)
        have hz : (t - pw i).testBit i = false := by rw [sub_bit hs1 (by omega) e]; simp
        have h1 := miss_add hz n hi
        have h2 := pw_le_bit e
        rw [show t - pw i + pw i = t by omega] at h1
        have h3 := miss_le n (t - pw i)
        omega
    subst e
    rw [wy_zero]
    show 1 = if 0 = 0 then 1 else 0
    rw [if_pos rfl]
  | m + 1, t, ht, hm, hMt => by
    have hs1 : t < 1024 := Nat.lt_of_lt_of_le ht (pw_le n h10)
    have hne : t ≠ 0 := fun e => by
      subst e
      have : miss n 0 = n := by
        unfold miss
        have h1 : sumTo (fun i => if (0 : Nat).testBit i = true then 0 else 1) n = sumTo (fun _ => 1) n := sumTo_congr n fun i _ => by simp
        rw [h1]
        clear h1 hm hMt ht hs1 h0 hM hO hg h10
        induction n with
        | zero => rfl
        | succ n ih => rw [sumTo, ih]
      omega
    rw [wy_yes hs1 hne hMt, wsum_ten h10 ht, pth_last h10 m 0 t ht]
    refine sumTo_congr n fun p hp => ?_
    unfold wpt
    by_cases hb : t.testBit p = true
    · have hI := (hM t).1 hMt
      have hsub := sub_bit hs1 (show p < 10 by omega) hb
      have hlt := sub_lt' hs1 (show p < 10 by omega) hb
      have hle := pw_le_bit hb
      have hz : (t - pw p).testBit p = false := by rw [hsub]; simp
      have hmay : may g (t - pw p) p = true := by
        refine may_yes hz ((lack_small h10 hg hp (by omega)).2 fun i hi => ?_)
        rw [hsub, hI.2 p hp hb i hi]
        have : p ≠ i := fun e => by rw [← e, (hO p hp).1] at hi; cases hi
        simp [this]
      have hl : lst g t p = true := by unfold lst; rw [hb, hmay]; rfl
      rw [if_pos hb, if_pos hl]
      have hms := miss_add hz n hp
      rw [show t - pw p + pw p = t by omega] at hms
      have hml := miss_le n (t - pw p)
      cases hM2 : M (t - pw p)
      · have hnI : ¬ Idl g n (t - pw p) := fun h => by rw [(hM _).2 h] at hM2; cases hM2
        rw [pth_out h10 hg m 0 (t - pw p) h0 hnI, wy_no (fun e => hnI (by rw [e]; exact h0)) hM2]
      · exact pth_words h10 hg hO hM h0 m (t - pw p) (by omega) (by omega) hM2
    · have hl : ¬ lst g t p = true := fun h => by
        unfold lst at h
        rw [Bool.and_eq_true] at h
        exact hb h.1
      rw [if_neg hb, if_neg hl]
/-- The words of the ideals are the rows. -/
theorem words_rows {g : Nat → Nat} {n : Nat} {M : Nat → Bool} (h10 : n ≤ 10) (hg : ∀ k, k < n → g k < pw n) (hO : Ord n g) (hM : ∀ s, M s = true ↔ Idl g n s) : wy M (pw n - 1) = ways g n 0 := by
  have hpp := pw_pos n
  have h0 : Idl g n 0 := ⟨hpp, fun p _ h => by simp at h⟩
  have hf : Idl g n (pw n - 1) := ⟨by omega, fun p hp _ i hi => by rw [full_bit]; simp; exact bit_of_lt (hg p hp) hi⟩
  have m0 : miss n 0 = n := by
    unfold miss
    have h1 : sumTo (fun i => if (0 : Nat).testBit i = true then 0 else 1) n = sumTo (fun _ => 1) n := sumTo_congr n fun i _ => by simp
    rw [h1]
    clear h1 h0 hf hM hO hg h10 hpp
    induction n with
    | zero => rfl
    | succ n ih => rw [sumTo, ih]
  have m1 : miss n (pw n - 1) = 0 := by
    unfold miss
    have : sumTo (fun i => if (pw n - 1).testBit i = true then 0 else 1) n = sumTo (fun _ => 0) n := sumTo_congr n fun i hi => by rw [full_bit]; simp [hi]
    rw [this, sumTo_zero]
  rw [pth_words h10 hg hO hM h0 n (pw n - 1) (by omega) (by omega) ((hM _).2 hf), pth_ways n 0 hpp m0]
end Go.Proofs.YtjoklkbfcobfeabDoor
