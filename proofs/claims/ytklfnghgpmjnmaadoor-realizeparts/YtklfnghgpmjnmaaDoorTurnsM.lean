/-
  The row with a number, and the number of a row: plain facts. No Go text here. Conditions: at most ten points.
-/
import Derived.Test.YtklfnghgpmjnmaaDoorRankM
namespace Go.Proofs.YtklfnghgpmjnmaaDoor
open Go.RowKit

theorem sB_nP (u : Nat → Nat) (n k : Nat) : ∀ t, sB (nP u n k) t = nS u n k t
  | 0 => rfl
  | t + 1 => by rw [sB_succ, sB_nP u n k t, nS_succ]
theorem nat_cast (P : Nat → Nat) : nat (fun j => ((P j : Nat) : Int)) = P := by funext j; simp [nat]
theorem nth_isRw {u : Nat → Nat} {n k : Nat} (hk : k < ways u n 0) : IsRw u n n (fun j => ((nP u n k j : Nat) : Int)) := by
  refine ⟨rfl, fun j hj => ?_⟩
  have pt := (nok hk j (by omega)).pt hj
  refine ⟨Int.natCast_nonneg _, Int.ofNat_lt.2 pt.lt, ?_⟩
  rw [nat_cast, sB_nP]; exact pt.may
theorem rk_nK {u : Nat → Nat} {n k : Nat} (hk : k < ways u n 0) : ∀ t, t ≤ n → rk u n (nP u n k) t + nK u n k t = k
  | 0, _ => by simp [rk, sumTo, nK_zero]
  | t + 1, ht => by
    have ih := rk_nK hk t (by omega)
    have pt := (nok hk t (by omega)).pt (by omega)
    have h1 := pt.le
    rw [rk_succ, sB_nP, nK_succ]
    omega
theorem nK_end {u : Nat → Nat} {n k : Nat} (hk : k < ways u n 0) : nK u n k n = 0 := by
  have ok := nok hk n (Nat.le_refl _)
  have h1 := (miss_zero_iff ok.lt).1 (by have := ok.miss; omega)
  have h2 := ok.rest
  rw [h1, ways_all] at h2
  omega
theorem rk_nth {u : Nat → Nat} {n k : Nat} (hk : k < ways u n 0) : rk u n (nP u n k) n = k := by
  have h1 := rk_nK hk n (Nat.le_refl _)
  rw [nK_end hk] at h1
  exact h1
theorem pick_le {φ : Nat → Nat} {k k' n : Nat} (h : k ≤ k') (hk : k < sumTo φ n) (hk' : k' < sumTo φ n) : pick φ k n ≤ pick φ k' n := by
  obtain ⟨a1, a2, a3⟩ := pick_spec n hk
  obtain ⟨b1, b2, b3⟩ := pick_spec n hk'
  rcases Nat.lt_or_ge (pick φ k' n) (pick φ k n) with h1 | h1
  · have := sumTo_mono (φ := φ) (pick φ k n) (show pick φ k' n + 1 ≤ pick φ k n from h1); omega
  · exact h1
/-- Rows rise with their numbers. -/
theorem nth_rise {u : Nat → Nat} {n k k' : Nat} (hlt : k < k') (hk' : k' < ways u n 0) : ∃ t, t < n ∧ (∀ j, j < t → nP u n k j = nP u n k' j) ∧ nP u n k t < nP u n k' t := by
  have hk : k < ways u n 0 := by omega
  have key : ∀ t, t ≤ n → (∃ s, s < t ∧ (∀ j, j < s → nP u n k j = nP u n k' j) ∧ nP u n k s < nP u n k' s) ∨ ((∀ j, j < t → nP u n k j = nP u n k' j) ∧ nS u n k t = nS u n k' t ∧ nK u n k t < nK u n k' t) := by
    intro t
    induction t with
    | zero => intro _; exact .inr ⟨fun j hj => absurd hj (Nat.not_lt_zero _), rfl, hlt⟩
    | succ t ih =>
      intro ht
      rcases ih (by omega) with ⟨s, h1, h2, h3⟩ | ⟨h1, h2, h3⟩
      · exact .inl ⟨s, by omega, h2, h3⟩
      · have p := (nok hk t (by omega)).pt (by omega)
        have p' := (nok hk' t (by omega)).pt (by omega)
        have e1 := p.all
        have e2 := p'.all
        rw [h2] at e1
        have hle : nP u n k t ≤ nP u n k' t := by
          unfold nP
          rw [h2]
          exact pick_le (Nat.le_of_lt h3) e1 e2
        rcases Nat.lt_or_ge (nP u n k t) (nP u n k' t) with h4 | h4
        · exact .inl ⟨t, by omega, h1, h4⟩
        · have he : nP u n k t = nP u n k' t := by omega
          refine .inr ⟨fun j hj => ?_, ?_, ?_⟩
          · rcases Nat.lt_or_ge j t with h5 | h5
            · exact h1 j h5
            · rw [show j = t by omega]; exact he
          · rw [nS_succ, nS_succ, h2, he]
          · rw [nK_succ, nK_succ, h2, he]
            have l1 := p.le
            rw [h2, he] at l1
            omega
  rcases key n (Nat.le_refl _) with ⟨s, h1, h2, h3⟩ | ⟨_, _, h3⟩
  · exact ⟨s, h1, h2, h3⟩
  · rw [nK_end hk'] at h3; omega
/-- Has a set with each point all below it? -/
def Down (u : Nat → Nat) (n s : Nat) : Prop := ∀ i, i < n → s.testBit i = true → lack (u i) s = 0
theorem lack_not {x s : Nat} (hx : x < 18446744073709551616) (hs : s < 18446744073709551616) (h : lack x s ≠ 0) : ∃ j, x.testBit j = true ∧ s.testBit j = false := by
  refine Classical.byContradiction fun hn => h ((lack_zero x s hx hs).2 fun i hi => ?_)
  cases hb : s.testBit i
  · exact absurd ⟨i, hi, hb⟩ hn
  · rfl
theorem sub_lt {x y j : Nat} (hy : y < 18446744073709551616) (hx : x < 18446744073709551616) (h : lack x y = 0) (hj : y.testBit j = true) (hjx : x.testBit j = false) : x < y := by
  have hs := (lack_zero x y hx hy).1 h
  have hle : x ≤ y := by
    have : x &&& y = x := Nat.eq_of_testBit_eq fun i => by
      rw [Nat.testBit_and]
      cases hb : x.testBit i
      · rfl
      · rw [hs i hb]; rfl
    rw [← this]; exact Nat.and_le_right
  rcases Nat.lt_or_ge x y with h1 | h1
  · exact h1
  · have : x = y := by omega
    rw [this, hj] at hjx; cases hjx
/-- Of the points that do not stand one may stand next. -/
theorem next_may {u : Nat → Nat} {n s : Nat} (hn : n ≤ 10) (hu : Sm n n u) (ho : Ord n u) (hs : s < pw n) : ∀ m i, u i ≤ m → i < n → s.testBit i = false → ∃ j, j < n ∧ may u s j = true := by
  have hp := pw_le n hn
  have hb : ∀ i, i < n → u i < 18446744073709551616 := fun i hi => by have := hu i hi; omega
  intro m
  induction m with
  | zero =>
    intro i hm hi hb0
    refine ⟨i, hi, may_yes hb0 ?_⟩
    rw [show u i = 0 by omega]; simp [lack]
  | succ m ih =>
    intro i hm hi hb0
    by_cases h : lack (u i) s = 0
    · exact ⟨i, hi, may_yes hb0 h⟩
    · obtain ⟨j, h1, h2⟩ := lack_not (hb i hi) (by omega) h
      have hj : j < n := bit_of_lt (hu i hi) h1
      have hlt : u j < u i := sub_lt (hb i hi) (hb j hj) ((ho i hi).2 j hj h1) h1 (ho j hj).1
      exact ih j (by omega) hj h2
theorem Down.add {u : Nat → Nat} {n s i : Nat} (hn : n ≤ 10) (hu : Sm n n u) (hs : s < pw n) (hd : Down u n s) (hi : i < n) (hm : may u s i = true) : Down u n (s + pw i) := by
  have hp := pw_le n hn
  have hlt := add_lt hs hi (may_out hm)
  have key : ∀ k, k < n → lack (u k) s = 0 → lack (u k) (s + pw i) = 0 := fun k hk h => by
    have hk2 := hu k hk
    refine (lack_zero _ _ (by omega) (by omega)).2 fun j hj => ?_
    rw [add_bit (may_out hm), (lack_zero _ _ (by omega) (by omega)).1 h j hj]; rfl
  intro k hk hb
  rw [add_bit (may_out hm)] at hb
  refine key k hk ?_
  cases hs2 : s.testBit k
  · rw [hs2] at hb
    have : i = k := by simpa using hb
    subst this
    unfold may at hm
    rw [may_out (u := u) (by unfold may; exact hm)] at hm
    simpa using hm
  · exact hd k hk hs2
theorem ways_pos {u : Nat → Nat} {n : Nat} (hn : n ≤ 10) (hu : Sm n n u) (ho : Ord n u) : ∀ m s, pw n - s ≤ m → s < pw n → Down u n s → 0 < ways u n s
  | 0, s, hm, hs, _ => by omega
  | m + 1, s, hm, hs, hd => by
    by_cases e : s + 1 < pw n
    · rw [ways_eq e]
      have hfree : ∃ i, i < n ∧ s.testBit i = false := by
        refine Classical.byContradiction fun hno => ?_
        have h0 : miss n s = 0 := by
          have := sumTo_le (φ := fun i => if s.testBit i = true then 0 else 1) (B := 0) n (fun i hi => by
            cases hb : s.testBit i
            · exact absurd ⟨i, hi, hb⟩ hno
            · simp)
          unfold miss; omega
        have := (miss_zero_iff hs).1 h0
        omega
      obtain ⟨i, hi, hb⟩ := hfree
      obtain ⟨j, hj, hmay⟩ := next_may hn hu ho hs (u i) i (Nat.le_refl _) hi hb
      have h1 := le_sumTo (φ := goes u n s) n hj
      rw [goes_yes hmay] at h1
      have h2 := ways_pos hn hu ho m (s + pw j) (by have := pw_pos j; omega) (add_lt hs hj (may_out hmay)) (hd.add hn hu hs hj hmay)
      omega
    · rw [show s = pw n - 1 by omega, ways_all]; decide
theorem ways_some {u : Nat → Nat} {n : Nat} (hn : n ≤ 10) (hu : Sm n n u) (ho : Ord n u) : 0 < ways u n 0 :=
  ways_pos hn hu ho (pw n) 0 (by omega) (pw_pos n) (fun i _ h => by simp at h)
end Go.Proofs.YtklfnghgpmjnmaaDoor
