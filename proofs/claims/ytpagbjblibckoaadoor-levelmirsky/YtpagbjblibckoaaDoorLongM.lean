/-
  The first of the longest chains: plain facts. No Go text here. Conditions: at most ten points.
-/
import Derived.Test.YtpagbjblibckoaaDoorLevelM
import Derived.Test.YtpagbjblibckoaaDoorTz
import Derived.Test.YtpagbjblibckoaaDoorDual
namespace Go.Proofs.YtpagbjblibckoaaDoor
open Go.RowKit

theorem trn_bit (g : Nat → Nat) (n l x : Nat) : (trn g n l).testBit x = (decide (x < n) && (g x).testBit l) := by rw [trn, setBy_bit]
theorem trn_sm (g : Nat → Nat) (n : Nat) : Sm n n (trn g n) := fun k _ => by rw [trn]; exact setBy_lt _ n
theorem trn_lt (g : Nat → Nat) (n k : Nat) : trn g n k < pw n := by rw [trn]; exact setBy_lt _ n
theorem trn_ord {g : Nat → Nat} {n : Nat} (hn : n ≤ 10) (hg : Sm n n g) (ho : Ord n g) : Ord n (trn g n) := by
  have hp := pw_le n hn
  intro u hu
  refine ⟨by rw [trn_bit, (ho u hu).1]; simp, fun p hp2 hb => ?_⟩
  rw [trn_bit] at hb
  simp only [Bool.and_eq_true, decide_eq_true_eq] at hb
  have h1 := trn_lt g n p
  have h2 := trn_lt g n u
  refine (lack_zero _ _ (by omega) (by omega)).2 fun j hj => ?_
  rw [trn_bit] at hj ⊢
  simp only [Bool.and_eq_true, decide_eq_true_eq] at hj ⊢
  have h3 := hg p hp2
  have h4 := hg j hj.1
  exact ⟨hj.1, (lack_zero _ _ (by omega) (by omega)).1 ((ho j hj.1).2 p hp2 hj.2) u hb.2⟩
def okLo (c : Nat) : Bool := c == 0 || (c.testBit (lo c) && (List.range (lo c)).all (fun i => !c.testBit i))
theorem lo_all : ((List.range 1024).all okLo) = true := by decide +kernel
theorem lo_bit {c : Nat} (hc : c < 1024) (h0 : c ≠ 0) : c.testBit (lo c) = true ∧ ∀ i, i < lo c → c.testBit i = false := by
  have h := List.all_eq_true.1 lo_all c (List.mem_range.2 hc)
  unfold okLo at h
  have e : (c == 0) = false := by simpa using h0
  rw [e, Bool.false_or, Bool.and_eq_true] at h
  refine ⟨h.1, fun i hi => ?_⟩
  have := List.all_eq_true.1 h.2 i (List.mem_range.2 hi)
  simpa using this
/-- Which points may come next: all, and then those above the last one. -/
def lcx (t : Nat → Nat) (n T : Nat) : Nat → Nat
  | 0 => pw n - 1
  | j + 1 => t (lo (lvS t n (T - 1 - j) &&& lcx t n T j))
/-- The point at a place. -/
def lcp (t : Nat → Nat) (n j : Nat) : Nat := lo (lvS t n (tops t n - 1 - j) &&& lcx t n (tops t n) j)
theorem lcx_succ (t : Nat → Nat) (n j : Nat) : lcx t n (tops t n) (j + 1) = t (lcp t n j) := rfl
theorem lvS_bt {g : Nat → Nat} {n h i : Nat} (hi : i < n) : (lvS g n h).testBit i = (ht g n i == h) := by rw [lvS, setBy_bit]; simp [hi]
/-- Is a point one that may come at a place? -/
def Cnd (t : Nat → Nat) (n j i : Nat) : Prop := i < n ∧ (j = 0 ∨ ∃ q, j = q + 1 ∧ (t (lcp t n q)).testBit i = true)
structure LcOk (t : Nat → Nat) (n j : Nat) : Prop where
  some : lvS t n (tops t n - 1 - j) &&& lcx t n (tops t n) j ≠ 0
  small : lvS t n (tops t n - 1 - j) &&& lcx t n (tops t n) j < 1024
  lt : lcp t n j < n
  ht : ht t n (lcp t n j) = tops t n - 1 - j
  cnd : Cnd t n j (lcp t n j)
  max : ∀ i, Cnd t n j i → Go.Proofs.YtpagbjblibckoaaDoor.ht t n i ≤ tops t n - 1 - j
  first : ∀ i, Cnd t n j i → i < lcp t n j → Go.Proofs.YtpagbjblibckoaaDoor.ht t n i < tops t n - 1 - j
theorem all_bit {n i : Nat} (hi : i < n) : (pw n - 1).testBit i = true := by
  have := Nat.testBit_two_pow_sub_one n i
  unfold pw; rw [this]; simp [hi]
theorem cnd_bit {t : Nat → Nat} {n j i : Nat} (hi : i < n) : Cnd t n j i ↔ (lcx t n (tops t n) j).testBit i = true := by
  cases j with
  | zero => exact ⟨fun _ => all_bit hi, fun _ => ⟨hi, .inl rfl⟩⟩
  | succ q =>
    rw [lcx_succ]
    constructor
    · rintro ⟨_, h | ⟨q', h, hb⟩⟩
      · omega
      · have : q = q' := by omega
        subst this; exact hb
    · intro h; exact ⟨hi, .inr ⟨q, rfl, h⟩⟩
theorem lc_of {t : Nat → Nat} {n j : Nat} (hn : n ≤ 10) (hx : lcx t n (tops t n) j < pw n) (hmax : ∀ i, Cnd t n j i → ht t n i ≤ tops t n - 1 - j) (hex : ∃ i, Cnd t n j i ∧ ht t n i = tops t n - 1 - j) : LcOk t n j := by
  have hp := pw_le n hn
  have hlt : lvS t n (tops t n - 1 - j) &&& lcx t n (tops t n) j < pw n := Nat.lt_of_le_of_lt Nat.and_le_right hx
  have hbit : ∀ i, i < n → ((lvS t n (tops t n - 1 - j) &&& lcx t n (tops t n) j).testBit i = true ↔ (ht t n i = tops t n - 1 - j ∧ Cnd t n j i)) := fun i hi => by
    rw [Nat.testBit_and, lvS_bt hi, Bool.and_eq_true, cnd_bit hi, beq_iff_eq]
  obtain ⟨i, hc, he⟩ := hex
  have hne : lvS t n (tops t n - 1 - j) &&& lcx t n (tops t n) j ≠ 0 := fun e => by
    have := (hbit i hc.1).2 ⟨he, hc⟩
    rw [e] at this; simp at this
  obtain ⟨b1, b2⟩ := lo_bit (by omega) hne
  have hl : lcp t n j < n := bit_of_lt hlt b1
  have hb := (hbit (lcp t n j) hl).1 b1
  refine ⟨hne, by omega, hl, hb.1, hb.2, hmax, fun k hk hkl => ?_⟩
  have h1 := hmax k hk
  rcases Nat.lt_or_ge (ht t n k) (tops t n - 1 - j) with h2 | h2
  · exact h2
  · have h3 := (hbit k hk.1).2 ⟨by omega, hk⟩
    rw [b2 k hkl] at h3; cases h3
theorem lc_ok {t : Nat → Nat} {n : Nat} (hn : n ≤ 10) (hg : Sm n n t) (ho : Ord n t) : ∀ j, j < tops t n → LcOk t n j
  | 0, h => by
    refine lc_of hn (by show pw n - 1 < pw n; have := pw_pos n; omega) (fun i hi => by have := ht_lt_tops (g := t) hi.1; omega) ?_
    have hne : lvS t n (tops t n - 1) ≠ 0 := fun e => by have := (lvS_none hn hg ho (tops t n - 1)).1 e; omega
    have hp := pw_le n hn
    have hl := lvS_lt t n (tops t n - 1)
    obtain ⟨b1, _⟩ := lo_bit (by omega) hne
    have hi := bit_of_lt hl b1
    rw [lvS_bt hi, beq_iff_eq] at b1
    exact ⟨_, ⟨hi, .inl rfl⟩, b1⟩
  | j + 1, h => by
    have ih := lc_ok hn hg ho j (by omega)
    have key : ∀ i, Cnd t n (j + 1) i → (t (lcp t n j)).testBit i = true := fun i hi => by
      rcases hi.2 with h1 | ⟨q, h1, h2⟩
      · omega
      · have : q = j := by omega
        subst this; exact h2
    refine lc_of hn (by rw [lcx_succ]; exact hg _ ih.lt) (fun i hi => ?_) ?_
    · have h1 := (ht_ge hn hg ho ih.lt (ht t n i)).2 ⟨i, hi.1, key i hi, Nat.le_refl _⟩
      rw [ih.ht] at h1; omega
    · obtain ⟨i, hi, hb, hle⟩ := (ht_ge hn hg ho ih.lt (tops t n - 1 - (j + 1))).1 (by rw [ih.ht]; omega)
      have hc : Cnd t n (j + 1) i := ⟨hi, .inr ⟨j, rfl, hb⟩⟩
      have h1 := (ht_ge hn hg ho ih.lt (ht t n i)).2 ⟨i, hi, hb, Nat.le_refl _⟩
      rw [ih.ht] at h1
      exact ⟨i, hc, by omega⟩
theorem lc_end {t : Nat → Nat} {n : Nat} (hn : n ≤ 10) (hg : Sm n n t) (ho : Ord n t) : ∀ i, ¬ Cnd t n (tops t n) i := fun i hi => by
  rcases hi.2 with h | ⟨q, h, hb⟩
  · have := ht_lt_tops (g := t) hi.1; omega
  · have ok := lc_ok hn hg ho q (by omega)
    have h1 := (ht_ge hn hg ho ok.lt 0).2 ⟨i, hi.1, hb, Nat.zero_le _⟩
    rw [ok.ht] at h1; omega
/-- The first of the best so far: none is -1. -/
def bst (C : Nat → Bool) (D : Nat → Nat) : Nat → Int
  | 0 => -1
  | k + 1 => if C k = true ∧ (bst C D k < 0 ∨ D (bst C D k).toNat < D k) then (k : Int) else bst C D k
theorem bst_spec (C : Nat → Bool) (D : Nat → Nat) : ∀ k, (bst C D k = -1 ∧ ∀ i, i < k → C i = false) ∨ ∃ b : Nat, b < k ∧ bst C D k = b ∧ C b = true ∧ (∀ i, i < k → C i = true → D i ≤ D b) ∧ ∀ i, i < b → C i = true → D i < D b
  | 0 => .inl ⟨rfl, fun i hi => absurd hi (Nat.not_lt_zero _)⟩
  | k + 1 => by
    rcases bst_spec C D k with ⟨h1, h2⟩ | ⟨b, hb, h1, h2, h3, h4⟩
    · cases hc : C k
      · refine .inl ⟨?_, fun i hi => ?_⟩
        · rw [bst, if_neg (fun h => by rw [hc] at h; cases h.1)]; exact h1
        · rcases Nat.lt_or_ge i k with h | h
          · exact h2 i h
          · rw [show i = k by omega]; exact hc
      · refine .inr ⟨k, by omega, ?_, hc, fun i hi hi2 => ?_, fun i hi hi2 => ?_⟩
        · rw [bst, if_pos ⟨hc, .inl (by omega)⟩]
        · rcases Nat.lt_or_ge i k with h | h
          · rw [h2 i h] at hi2; cases hi2
          · rw [show i = k by omega]; exact Nat.le_refl _
        · rw [h2 i hi] at hi2; cases hi2
    · by_cases hn : C k = true ∧ D b < D k
      · refine .inr ⟨k, by omega, ?_, hn.1, fun i hi hi2 => ?_, fun i hi hi2 => ?_⟩
        · rw [bst, if_pos ⟨hn.1, .inr (by rw [h1, Int.toNat_natCast]; exact hn.2)⟩]
        · rcases Nat.lt_or_ge i k with h | h
          · have := h3 i h hi2; omega
          · rw [show i = k by omega]; exact Nat.le_refl _
        · have := h3 i hi hi2; omega
      · refine .inr ⟨b, by omega, ?_, h2, fun i hi hi2 => ?_, h4⟩
        · rw [bst, if_neg]
          · exact h1
          · rintro ⟨a1, a2 | a2⟩
            · omega
            · rw [h1, Int.toNat_natCast] at a2; exact hn ⟨a1, a2⟩
        · rcases Nat.lt_or_ge i k with h | h
          · exact h3 i h hi2
          · have e : i = k := by omega
            subst e
            rcases Nat.lt_or_ge (D b) (D i) with h5 | h5
            · exact absurd ⟨hi2, h5⟩ hn
            · exact h5
theorem bst_lc {t : Nat → Nat} {n j : Nat} {C : Nat → Bool} (ok : LcOk t n j) (hC : ∀ i, i < n → (C i = true ↔ Cnd t n j i)) : bst C (ht t n) n = (lcp t n j : Nat) := by
  rcases bst_spec C (ht t n) n with ⟨_, h2⟩ | ⟨b, hb, h1, h2, h3, h4⟩
  · have := h2 _ ok.lt
    rw [(hC _ ok.lt).2 ok.cnd] at this; cases this
  · rw [h1]
    have hcb := (hC b hb).1 h2
    have hcl := (hC _ ok.lt).2 ok.cnd
    have m1 := h3 _ ok.lt hcl
    have m2 := ok.max b hcb
    rw [ok.ht] at m1
    rcases Nat.lt_trichotomy b (lcp t n j) with h | h | h
    · have := ok.first b hcb h; omega
    · rw [h]
    · have := h4 _ h hcl
      rw [ok.ht] at this; omega
theorem bst_none {C : Nat → Bool} {D : Nat → Nat} {n : Nat} (h : ∀ i, i < n → C i = false) : bst C D n = -1 := by
  rcases bst_spec C D n with ⟨h1, _⟩ | ⟨b, hb, _, h2, _⟩
  · exact h1
  · rw [h b hb] at h2; cases h2
end Go.Proofs.YtpagbjblibckoaaDoor
