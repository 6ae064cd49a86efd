/-
  Families of sets as plain facts: which sets there are, what is accessible, hulls, corners, words. No Go text here. Conditions: as each theorem says.
-/
import Derived.Test.YtglkjeidkjkdaaaDoorExtM
import Derived.Test.YtglkjeidkjkdaaaDoorBuild
import Derived.Test.YtglkjeidkjkdaaaDoorNats
namespace Go.Proofs.YtglkjeidkjkdaaaDoor
set_option maxRecDepth 100000
open Go.RowKit

def anyB (P : Nat → Bool) : Nat → Bool
  | 0 => false
  | k + 1 => anyB P k || P k
theorem anyB_iff {P : Nat → Bool} : ∀ {k : Nat}, anyB P k = true ↔ ∃ j, j < k ∧ P j = true
  | 0 => by simp [anyB]
  | k + 1 => by
    rw [anyB, Bool.or_eq_true, anyB_iff]
    constructor
    · rintro (⟨j, h1, h2⟩ | h)
      · exact ⟨j, by omega, h2⟩
      · exact ⟨k, by omega, h⟩
    · rintro ⟨j, h1, h2⟩
      by_cases e : j = k
      · subst e; exact .inr h2
      · exact .inl ⟨j, by omega, h2⟩
theorem anyB_no {P : Nat → Bool} {k : Nat} (h : ∀ j, j < k → P j = false) : anyB P k = false := by
  cases e : anyB P k
  · rfl
  · obtain ⟨j, h1, h2⟩ := anyB_iff.1 e
    rw [h j h1] at h2; cases h2
theorem anyB_congr {P Q : Nat → Bool} : ∀ k, (∀ j, j < k → P j = Q j) → anyB P k = anyB Q k
  | 0, _ => rfl
  | k + 1, h => by rw [anyB, anyB, anyB_congr k (fun j hj => h j (by omega)), h k (by omega)]
theorem eq_of_iff {a b : Bool} (h : a = true ↔ b = true) : a = b := Bool.eq_iff_iff.2 h

/-- Is s one of the first k sets? -/
def mem (g : Nat → Nat) (k s : Nat) : Bool := anyB (fun j => g j == s) k
theorem mem_iff {g : Nat → Nat} {k s : Nat} : mem g k s = true ↔ ∃ j, j < k ∧ g j = s := by
  unfold mem; rw [anyB_iff]; simp
theorem mem_zero (g : Nat → Nat) : mem g 0 = fun _ => false := rfl
theorem mem_at {g : Nat → Nat} {k j : Nat} (h : j < k) : mem g k (g j) = true := mem_iff.2 ⟨j, h, rfl⟩
def updB (M : Nat → Bool) (u : Nat) (k : Nat) : Bool := if k = u then true else M k
theorem updB_same (M : Nat → Bool) (u : Nat) : updB M u u = true := by simp [updB]
theorem updB_other (M : Nat → Bool) {u k : Nat} (h : k ≠ u) : updB M u k = M k := by simp [updB, h]
theorem mem_succ (g : Nat → Nat) (k : Nat) : mem g (k + 1) = updB (mem g k) (g k) := by
  funext s
  show (mem g k s || (g k == s)) = _
  by_cases e : s = g k
  · subst e; rw [updB_same]; simp
  · rw [updB_other _ e]
    have : (g k == s) = false := by simpa using fun h : g k = s => e h.symm
    rw [this, Bool.or_false]

theorem lack_pw {s p : Nat} (hs : s < 1024) (hp : p < 10) (h : s.testBit p = true) : lack s (pw p) = s - pw p := by
  have h1 : pw p < 1024 := Nat.lt_of_lt_of_le (Nat.pow_lt_pow_right (by decide) hp) (Nat.le_refl (2 ^ 10))
  have hb : ∀ i, (lack s (pw p)).testBit i = (s.testBit i && !decide (p = i)) := fun i => by rw [lack_bit _ _ _ (by omega) (by omega), pw_bit]
  have hz : (lack s (pw p)).testBit p = false := by rw [hb]; simp
  have e : lack s (pw p) + pw p = s := by
    rw [← or_free hz]
    apply Nat.eq_of_testBit_eq
    intro i
    rw [Nat.testBit_or, hb, pw_bit]
    by_cases e : p = i
    · subst e; simp [h]
    · simp [e]
  omega
theorem sub_bit {s p : Nat} (hs : s < 1024) (hp : p < 10) (h : s.testBit p = true) (i : Nat) : (s - pw p).testBit i = (s.testBit i && !decide (p = i)) := by
  have h1 : pw p < 1024 := Nat.lt_of_lt_of_le (Nat.pow_lt_pow_right (by decide) hp) (Nat.le_refl (2 ^ 10))
  rw [← lack_pw hs hp h, lack_bit _ _ _ (by omega) (by omega), pw_bit]
theorem pw_le_bit {s p : Nat} (h : s.testBit p = true) : pw p ≤ s := by
  rcases Nat.lt_or_ge s (pw p) with h3 | h3
  · rw [Nat.testBit_lt_two_pow h3] at h; cases h
  · exact h3
theorem sub_lt' {s p : Nat} (_hs : s < 1024) (_hp : p < 10) (h : s.testBit p = true) : s - pw p < s := by
  have h1 := pw_pos p
  have h2 := pw_le_bit h
  omega

/-- Has one of the first k points less than s a set? -/
def stp (M : Nat → Bool) (s k : Nat) : Bool := anyB (fun p => s.testBit p && M (s - pw p)) k
theorem stp_iff {M : Nat → Bool} {s k : Nat} : stp M s k = true ↔ ∃ p, p < k ∧ s.testBit p = true ∧ M (s - pw p) = true := by
  unfold stp; rw [anyB_iff]; simp
theorem stp_more {M : Nat → Bool} {s n : Nat} (hs : s < pw n) : ∀ d, stp M s (n + d) = stp M s n
  | 0 => rfl
  | d + 1 => by
    have hb : s.testBit (n + d) = false := by
      cases e : s.testBit (n + d)
      · rfl
      · have := bit_of_lt hs e; omega
    have : stp M s (n + d + 1) = (stp M s (n + d) || (s.testBit (n + d) && M (s - pw (n + d)))) := rfl
    rw [← Nat.add_assoc, this, hb, stp_more hs d]; simp
theorem stp_ten {M : Nat → Bool} {s n : Nat} (h10 : n ≤ 10) (hs : s < pw n) : stp M s 10 = stp M s n := by
  have := stp_more (M := M) hs (10 - n)
  rw [show n + (10 - n) = 10 by omega] at this; exact this
/-- What accessible is. -/
def Acc (M : Nat → Bool) (g : Nat → Nat) (len : Nat) : Prop :=
  M 0 = true ∧ (∀ k, k < len → g k = 0 ∨ stp M (g k) 10 = true) ∧ ∀ k j, k < len → j < len → M (g k ||| g j) = true

def allB (P : Nat → Bool) : Nat → Bool
  | 0 => true
  | k + 1 => allB P k && P k
theorem allB_iff {P : Nat → Bool} : ∀ {k : Nat}, allB P k = true ↔ ∀ j, j < k → P j = true
  | 0 => by simp [allB]
  | k + 1 => by
    rw [allB, Bool.and_eq_true, allB_iff]
    constructor
    · rintro ⟨h1, h2⟩; exact upto_succ h1 h2
    · intro h; exact ⟨fun j hj => h j (by omega), h k (by omega)⟩
def acc (g : Nat → Nat) (len : Nat) : Bool :=
  mem g len 0 && (allB (fun k => g k == 0 || stp (mem g len) (g k) 10) len && allB (fun k => allB (fun j => mem g len (g k ||| g j)) len) len)
theorem acc_iff {g : Nat → Nat} {len : Nat} : acc g len = true ↔ Acc (mem g len) g len := by
  unfold acc Acc
  rw [Bool.and_eq_true, Bool.and_eq_true, allB_iff, allB_iff]
  constructor
  · rintro ⟨h1, h2, h3⟩
    exact ⟨h1, fun k hk => by simpa using h2 k hk, fun k j hk hj => allB_iff.1 (h3 k hk) j hj⟩
  · rintro ⟨h1, h2, h3⟩
    exact ⟨h1, fun k hk => by simpa using h2 k hk, fun k hk => allB_iff.2 fun j hj => h3 k j hk hj⟩
theorem acc_no {g : Nat → Nat} {len : Nat} (h : ¬ Acc (mem g len) g len) : acc g len = false := by
  cases e : acc g len
  · rfl
  · exact absurd (acc_iff.1 e) h

/-- All points of those of the first k sets that have none of x. -/
def tog (g : Nat → Nat) (x : Nat) : Nat → Nat
  | 0 => 0
  | k + 1 => if g k &&& x = 0 then tog g x k ||| g k else tog g x k
theorem tog_yes {g : Nat → Nat} {x k : Nat} (h : g k &&& x = 0) : tog g x (k + 1) = tog g x k ||| g k := by rw [tog, if_pos h]
theorem tog_no {g : Nat → Nat} {x k : Nat} (h : g k &&& x ≠ 0) : tog g x (k + 1) = tog g x k := by rw [tog, if_neg h]
theorem tog_lt {g : Nat → Nat} {x n : Nat} : ∀ k, (∀ j, j < k → g j < pw n) → tog g x k < pw n
  | 0, _ => pw_pos n
  | k + 1, h => by
    have ih := tog_lt (x := x) k (fun j hj => h j (by omega))
    by_cases e : g k &&& x = 0
    · rw [tog_yes e]; exact Nat.or_lt_two_pow ih (h k (by omega))
    · rw [tog_no e]; exact ih
theorem tog_bit {g : Nat → Nat} {x i : Nat} : ∀ {k : Nat}, (tog g x k).testBit i = true ↔ ∃ j, j < k ∧ g j &&& x = 0 ∧ (g j).testBit i = true
  | 0 => by simp [tog]
  | k + 1 => by
    by_cases e : g k &&& x = 0
    · rw [tog_yes e, Nat.testBit_or, Bool.or_eq_true, tog_bit]
      constructor
      · rintro (⟨j, h1, h2⟩ | h)
        · exact ⟨j, by omega, h2⟩
        · exact ⟨k, by omega, e, h⟩
      · rintro ⟨j, h1, h2, h3⟩
        by_cases e2 : j = k
        · subst e2; exact .inr h3
        · exact .inl ⟨j, by omega, h2, h3⟩
    · rw [tog_no e, tog_bit]
      constructor
      · rintro ⟨j, h1, h2⟩; exact ⟨j, by omega, h2⟩
      · rintro ⟨j, h1, h2, h3⟩
        by_cases e2 : j = k
        · subst e2; exact absurd h2 e
        · exact ⟨j, by omega, h2, h3⟩
/-- The hull. -/
def hul (g : Nat → Nat) (len n s : Nat) : Nat := lack (pw n - 1) (tog g s len)
theorem cfull_bit (n i : Nat) : (pw n - 1).testBit i = decide (i < n) := Nat.testBit_two_pow_sub_one n i
theorem full_lt {n : Nat} (h10 : n ≤ 10) : pw n - 1 < 1024 := by have := pw_le n h10; have := pw_pos n; omega
theorem hul_bit {g : Nat → Nat} {len n s : Nat} (h10 : n ≤ 10) (hg : ∀ k, k < len → g k < pw n) (i : Nat) : (hul g len n s).testBit i = (decide (i < n) && !(tog g s len).testBit i) := by
  have h1 := full_lt h10
  have h2 := tog_lt (x := s) len hg
  have h3 := pw_le n h10
  unfold hul
  rw [lack_bit _ _ _ (by omega) (by omega), cfull_bit]
theorem hul_lt (g : Nat → Nat) (len n s : Nat) : hul g len n s < pw n := by
  have h1 := lack_le (pw n - 1) (tog g s len)
  have h2 := pw_pos n
  unfold hul; omega
/-- The corners. -/
def crn (g : Nat → Nat) (len n s : Nat) : Nat := setBy (fun p => s.testBit p && !(hul g len n (s - pw p)).testBit p) n
theorem crn_lt (g : Nat → Nat) (len n s : Nat) : crn g len n s < pw n := setBy_lt _ n
theorem crn_bit (g : Nat → Nat) (len n s i : Nat) : (crn g len n s).testBit i = (decide (i < n) && (s.testBit i && !(hul g len n (s - pw i)).testBit i)) := setBy_bit _ n i

/-- In how many ways a set is come to, by sets that M lets by; with so much fuel. -/
def wyF (M : Nat → Bool) : Nat → Nat → Nat
  | 0, _ => 0
  | f + 1, s => if s = 0 then 1 else if M s = true then sumTo (fun p => if s.testBit p = true then wyF M f (s - pw p) else 0) 10 else 0
theorem wyF_eq (M : Nat → Bool) : ∀ f f' s, s < f → s < f' → s < 1024 → wyF M f s = wyF M f' s
  | 0, _, s, h, _, _ => absurd h (Nat.not_lt_zero _)
  | _ + 1, 0, s, _, h, _ => absurd h (Nat.not_lt_zero _)
  | f + 1, f' + 1, s, h, h', hs => by
    unfold wyF
    by_cases e : s = 0
    · rw [if_pos e, if_pos e]
    · rw [if_neg e, if_neg e]
      have : sumTo (fun p => if s.testBit p = true then wyF M f (s - pw p) else 0) 10 = sumTo (fun p => if s.testBit p = true then wyF M f' (s - pw p) else 0) 10 := sumTo_congr 10 fun p hp => by
        by_cases hb : s.testBit p = true
        · have := sub_lt' hs hp hb
          rw [if_pos hb, if_pos hb, wyF_eq M f f' _ (by omega) (by omega) (by omega)]
        · rw [if_neg hb, if_neg hb]
      rw [this]
def wy (M : Nat → Bool) (s : Nat) : Nat := wyF M (s + 1) s
theorem wy_zero (M : Nat → Bool) : wy M 0 = 1 := rfl
theorem wy_no {M : Nat → Bool} {s : Nat} (h0 : s ≠ 0) (h : M s = false) : wy M s = 0 := by unfold wy wyF; rw [if_neg h0, if_neg (by rw [h]; decide)]
/-- One of the ways' parts. -/
def wpt (M : Nat → Bool) (s p : Nat) : Nat := if s.testBit p = true then wy M (s - pw p) else 0
theorem wy_yes {M : Nat → Bool} {s : Nat} (hs : s < 1024) (h0 : s ≠ 0) (h : M s = true) : wy M s = sumTo (wpt M s) 10 := by
  have e : wy M s = sumTo (fun p => if s.testBit p = true then wyF M s (s - pw p) else 0) 10 := by
    show wyF M (s + 1) s = _
    unfold wyF
    rw [if_neg h0, if_pos h]
    cases s <;> rfl
  rw [e]
  refine sumTo_congr 10 fun p hp => ?_
  unfold wpt wy
  by_cases hb : s.testBit p = true
  · have := sub_lt' hs hp hb
    rw [if_pos hb, if_pos hb]
    exact wyF_eq M _ _ _ (by omega) (by omega) (by omega)
  · rw [if_neg hb, if_neg hb]
theorem miss_sub {s p : Nat} (hs : s < 1024) (hp : p < 10) (h : s.testBit p = true) : miss 10 s + 1 = miss 10 (s - pw p) := by
  have hz : (s - pw p).testBit p = false := by rw [sub_bit hs hp h]; simp
  have := miss_add hz 10 hp
  have h1 : s - pw p + pw p = s := by
    have h2 := pw_le_bit h
    omega
  rw [h1] at this; exact this
theorem wy_le {M : Nat → Bool} : ∀ m s, s < m → s < 1024 → wy M s ≤ 10 ^ (10 - miss 10 s)
  | 0, s, h, _ => absurd h (Nat.not_lt_zero _)
  | m + 1, s, h, hs => by
    by_cases h0 : s = 0
    · subst h0; rw [wy_zero]; exact Nat.pow_pos (by decide)
    · cases hM : M s
      · rw [wy_no h0 hM]; exact Nat.zero_le _
      · rw [wy_yes hs h0 hM]
        by_cases z : ∃ i, i < 10 ∧ s.testBit i = true
        · obtain ⟨i, hi, hb⟩ := z
          have h1 := miss_sub hs hi hb
          have h2 := miss_le 10 (s - pw i)
          have h3 := sumTo_le (φ := wpt M s) (B := 10 ^ (10 - miss 10 s - 1)) 10 (fun p hp => by
            unfold wpt
            by_cases hb2 : s.testBit p = true
            · rw [if_pos hb2]
              have h4 := sub_lt' hs hp hb2
              have h5 := wy_le (M := M) m (s - pw p) (by omega) (by omega)
              have h6 := miss_sub hs hp hb2
              rw [show 10 - miss 10 s - 1 = 10 - miss 10 (s - pw p) by omega]; exact h5
            · rw [if_neg hb2]; exact Nat.zero_le _)
          rw [show 10 - miss 10 s = (10 - miss 10 s - 1) + 1 by omega, Nat.pow_succ, Nat.mul_comm]
          exact h3
        · have h3 := sumTo_le (φ := wpt M s) (B := 0) 10 (fun p hp => by
            unfold wpt
            by_cases hb2 : s.testBit p = true
            · exact absurd ⟨p, hp, hb2⟩ z
            · rw [if_neg hb2]; exact Nat.le_refl _)
          exact Nat.le_trans (by omega) (Nat.zero_le _)
theorem wy_small {M : Nat → Bool} {s : Nat} (hs : s < 1024) : wy M s ≤ 10000000000 :=
  Nat.le_trans (wy_le (s + 1) s (by omega) hs) (Nat.le_trans (Nat.pow_le_pow_right (by decide) (show 10 - miss 10 s ≤ 10 by omega)) (by decide))
theorem wpt_small {M : Nat → Bool} {s p : Nat} (hs : s < 1024) : wpt M s p ≤ 10000000000 := by
  unfold wpt; split
  · exact wy_small (by omega)
  · exact Nat.zero_le _
theorem wsum_small {M : Nat → Bool} {s k : Nat} (hs : s < 1024) (hk : k ≤ 10) : sumTo (wpt M s) k ≤ 100000000000 := by
  have := sumTo_le (φ := wpt M s) (B := 10000000000) k (fun j _ => wpt_small hs)
  omega
end Go.Proofs.YtglkjeidkjkdaaaDoor
