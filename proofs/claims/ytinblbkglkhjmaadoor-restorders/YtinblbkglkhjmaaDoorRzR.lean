/-
  Rows by their numbers and rows by places: each row that keeps to an order has a number; which rows have a pair; how few rows have all pairs. Plain facts: no Go text here. Conditions: an order of at most seven points.
-/
import Derived.Test.YtinblbkglkhjmaaDoorRzLay
import Derived.Test.YtinblbkglkhjmaaDoorPacked
import Derived.Test.YtinblbkglkhjmaaDoorGolM
namespace Go.Proofs.YtinblbkglkhjmaaDoor
open Go.RowKit

section
variable {u : Nat → Nat} {n : Nat}
theorem nS_bit {k : Nat} (hk : k < ways u n 0) (i : Nat) : ∀ t, t ≤ n → ((nS u n k t).testBit i = true ↔ ∃ j, j < t ∧ nP u n k j = i)
  | 0, _ => by
    rw [nS_zero, Nat.zero_testBit]
    exact ⟨fun h => (by cases h), fun ⟨j, hj, _⟩ => absurd hj (Nat.not_lt_zero _)⟩
  | t + 1, ht => by
    have pt := (nok hk t (by omega)).pt (by omega)
    rw [nS_succ, add_bit (may_out pt.may), Bool.or_eq_true, decide_eq_true_eq, nS_bit hk i t (by omega)]
    constructor
    · rintro (⟨j, hj, e⟩ | e)
      · exact ⟨j, by omega, e⟩
      · exact ⟨t, by omega, e⟩
    · rintro ⟨j, hj, e⟩
      by_cases q : j = t
      · subst q; exact .inr e
      · exact .inl ⟨j, by omega, e⟩
theorem nP_lt {k j : Nat} (hk : k < ways u n 0) (hj : j < n) : nP u n k j < n := ((nok hk j (by omega)).pt hj).lt
theorem nP_inj {k i j : Nat} (hk : k < ways u n 0) (hi : i < j) (hj : j < n) : nP u n k i ≠ nP u n k j := fun e => by
  have pt := (nok hk j (by omega)).pt hj
  have h1 := (nS_bit hk (nP u n k j) j (by omega)).2 ⟨i, hi, e⟩
  rw [may_out pt.may] at h1; cases h1
theorem nP_once {k : Nat} (hk : k < ways u n 0) : Once (fun j => ((nP u n k j : Nat) : Int)) n n := fun _ hj =>
  ⟨⟨Int.natCast_nonneg _, Int.ofNat_lt.2 (nP_lt hk hj)⟩, fun _ hi e => nP_inj hk hi hj (Int.ofNat_inj.1 e)⟩
/-- Each point has a place. -/
theorem nP_all {k p : Nat} (hk : k < ways u n 0) (hp : p < n) : ∃ j, j < n ∧ nP u n k j = p := by
  have := once_all.1 (nP_once hk) p hp
  obtain ⟨j, hj, e⟩ := (sn_iff n).1 this
  exact ⟨j, hj, Int.ofNat_inj.1 e⟩
/-- Does one stand ahead of the other one in row k? -/
def ahB (u : Nat → Nat) (n k a b : Nat) : Bool := (bf (fun j => ((nP u n k j : Nat) : Int)) n n b).testBit a
theorem ahB_at {k i j : Nat} (hk : k < ways u n 0) (hi : i < n) (hj : j < n) : ahB u n k (nP u n k i) (nP u n k j) = true ↔ i < j := by
  have ho := nP_once (u := u) (n := n) hk
  unfold ahB
  have hb := bf_at n ho hj
  have e : (((nP u n k j : Nat) : Int)).toNat = nP u n k j := by simp
  rw [e] at hb
  rw [hb, pl_bit (nP_lt hk hi), sn_iff]
  constructor
  · rintro ⟨i', hi', e⟩
    have e2 : nP u n k i' = nP u n k i := Int.ofNat_inj.1 e
    rcases Nat.lt_trichotomy i i' with h | h | h
    · omega
    · omega
    · exact absurd e2 (nP_inj hk (show i < i' from by
        rcases Nat.lt_trichotomy i' i with h1 | h1 | h1
        · exact absurd e2 (nP_inj hk h1 hi)
        · omega
        · exact h1) (by omega)).symm
  · intro h; exact ⟨i, h, rfl⟩
/-- A row by its places. -/
theorem row_rank (hn : n ≤ 10) (hu : Sm n n u) {k : Nat} (hk : k < ways u n 0) : ∃ r : Nat → Nat, LxS (· < n) (fun p q => decide (q < n) && (u q).testBit p) r ∧ ∀ a b, a < n → b < n → (ahB u n k a b = true ↔ r a < r b) := by
  obtain ⟨r, hr⟩ := Classical.axiomOfChoice (r := fun p j => p < n → j < n ∧ nP u n k j = p) fun p => by
    rcases Nat.lt_or_ge p n with h | h
    · obtain ⟨j, hj, e⟩ := nP_all (u := u) hk h; exact ⟨j, fun _ => ⟨hj, e⟩⟩
    · exact ⟨0, fun h2 => by omega⟩
  refine ⟨r, ⟨fun p q hp hq e => ?_, fun p q hp hq hl => ?_⟩, fun a b ha hb => ?_⟩
  · rw [← (hr p hp).2, ← (hr q hq).2, e]
  · rw [Bool.and_eq_true, decide_eq_true_eq] at hl
    obtain ⟨h1, h2⟩ := hr q hq
    have pt := (nok hk (r q) (by omega)).pt h1
    have hm := pt.may
    unfold may at hm
    rw [Bool.and_eq_true, decide_eq_true_eq, h2] at hm
    have hs := (nok hk (r q) (by omega)).lt
    have hpn := pw_le n hn
    have hq2 := hu q hq
    have := (lack_zero _ _ (by omega) (by omega)).1 hm.2 p hl.2
    obtain ⟨j, hj, e⟩ := (nS_bit hk p (r q) (by omega)).1 this
    have hpr := hr p hp
    have : r p = j := by
      rcases Nat.lt_trichotomy (r p) j with h | h | h
      · exact absurd (hpr.2.trans e.symm) (nP_inj hk h (by omega))
      · exact h
      · exact absurd (e.trans hpr.2.symm) (nP_inj hk h hpr.1)
    omega
  · have h1 := hr a ha
    have h2 := hr b hb
    have := ahB_at (u := u) hk h1.1 h2.1
    rw [h1.2, h2.2] at this
    exact this
theorem sB_bits {f : Nat → Nat} (hf : ∀ i j, i < j → j < n → f i ≠ f j) (i : Nat) : ∀ t, t ≤ n → ((sB f t).testBit i = true ↔ ∃ j, j < t ∧ f j = i)
  | 0, _ => by
    show (0 : Nat).testBit i = true ↔ _
    rw [Nat.zero_testBit]
    exact ⟨fun h => (by cases h), fun ⟨j, hj, _⟩ => absurd hj (Nat.not_lt_zero _)⟩
  | t + 1, ht => by
    have hfree : (sB f t).testBit (f t) = false := by
      rw [Bool.eq_false_iff]; intro h
      obtain ⟨j, hj, e⟩ := (sB_bits hf (f t) t (by omega)).1 h
      exact hf j t hj (by omega) e
    rw [sB_succ, add_bit hfree, Bool.or_eq_true, decide_eq_true_eq, sB_bits hf i t (by omega)]
    constructor
    · rintro (⟨j, hj, e⟩ | e)
      · exact ⟨j, by omega, e⟩
      · exact ⟨t, by omega, e⟩
    · rintro ⟨j, hj, e⟩
      by_cases q : j = t
      · subst q; exact .inr e
      · exact .inl ⟨j, by omega, e⟩
/-- What is left of a row's number from a place on. -/
def tl (u : Nat → Nat) (n : Nat) (f : Nat → Nat) (t : Nat) : Nat → Nat
  | 0 => 0
  | d + 1 => sumTo (goes u n (sB f t)) (f t) + tl u n f (t + 1) d
/-- Each row has a number. -/
theorem row_number {f : Nat → Nat} (hf : ∀ j, j < n → f j < n ∧ may u (sB f j) (f j) = true) (hi : ∀ i j, i < j → j < n → f i ≠ f j) : ∃ k, k < ways u n 0 ∧ ∀ j, j < n → nP u n k j = f j := by
  have hlt : ∀ t, t ≤ n → sB f t < pw n := fun t ht => by
    refine Nat.lt_pow_two_of_testBit _ fun i hin => ?_
    rw [Bool.eq_false_iff]; intro h
    obtain ⟨j, hj, e⟩ := (sB_bits hi i t ht).1 h
    have := (hf j (by omega)).1; omega
  have hne : ∀ t, t < n → sB f t + 1 < pw n := fun t ht => by
    have h1 := hlt t (by omega)
    rcases Nat.lt_or_ge (sB f t + 1) (pw n) with h | h
    · exact h
    · have h2 := may_out (hf t ht).2
      rw [show sB f t = pw n - 1 by omega, all_bit (hf t ht).1] at h2; cases h2
  have hfull : sB f n = pw n - 1 := by
    refine eq_of_bits (n := n) (hlt n (Nat.le_refl _)) (by have := pw_pos n; omega) fun i hin => ?_
    rw [all_bit hin]
    have ho : Once (fun j => ((f j : Nat) : Int)) n n := fun j hj => ⟨⟨Int.natCast_nonneg _, Int.ofNat_lt.2 (hf j hj).1⟩, fun i hi' e => hi i j hi' hj (Int.ofNat_inj.1 e)⟩
    obtain ⟨j, hj, e⟩ := (sn_iff n).1 (once_all.1 ho i hin)
    exact (sB_bits hi i n (Nat.le_refl _)).2 ⟨j, hj, Int.ofNat_inj.1 e⟩
  have bd : ∀ d t, t + d = n → tl u n f t d < ways u n (sB f t) := by
    intro d
    induction d with
    | zero =>
      intro t ht
      obtain rfl : t = n := by omega
      rw [hfull, ways_all]; exact Nat.one_pos
    | succ d ih =>
      intro t ht
      have h1 := ih (t + 1) (by omega)
      obtain ⟨h2, h3⟩ := hf t (by omega)
      have e1 : goes u n (sB f t) (f t) = ways u n (sB f (t + 1)) := by rw [goes_yes h3]; rfl
      rw [ways_eq (hne t (by omega)), tl]
      have h4 := sumTo_mono (φ := goes u n (sB f t)) n (show f t + 1 ≤ n from h2)
      rw [sumTo, e1] at h4
      omega
  refine ⟨tl u n f 0 n, bd n 0 (by omega), ?_⟩
  have key : ∀ t, t ≤ n → nS u n (tl u n f 0 n) t = sB f t ∧ nK u n (tl u n f 0 n) t = tl u n f t (n - t) := by
    intro t
    induction t with
    | zero => intro _; exact ⟨rfl, rfl⟩
    | succ t ih =>
      intro ht
      obtain ⟨e1, e2⟩ := ih (by omega)
      obtain ⟨h2, h3⟩ := hf t (by omega)
      obtain ⟨d, hd⟩ : ∃ d, n - t = d + 1 := ⟨n - t - 1, by omega⟩
      have e3 : nP u n (tl u n f 0 n) t = f t := by
        unfold nP
        rw [e1, e2, hd]
        refine pick_uniq ?_ ?_ h2
        · rw [tl]; omega
        · rw [tl, sumTo, goes_yes h3]
          have := bd d (t + 1) (by omega)
          have e4 : sB f (t + 1) = sB f t + pw (f t) := rfl
          rw [e4] at this; omega
      rw [nS_succ, nK_succ, e1, e2, e3, hd]
      refine ⟨rfl, ?_⟩
      rw [tl, show n - (t + 1) = d by omega]; omega
  intro j hj
  obtain ⟨e1, e2⟩ := key j (by omega)
  obtain ⟨h2, h3⟩ := hf j hj
  obtain ⟨d, hd⟩ : ∃ d, n - j = d + 1 := ⟨n - j - 1, by omega⟩
  unfold nP
  rw [e1, e2, hd]
  refine pick_uniq ?_ ?_ h2
  · rw [tl]; omega
  · rw [tl, sumTo, goes_yes h3]
    have := bd d (j + 1) (by omega)
    have e4 : sB f (j + 1) = sB f j + pw (f j) := rfl
    rw [e4] at this; omega
/-- The order as it is told of each two. -/
def ltU (u : Nat → Nat) (n p q : Nat) : Bool := decide (q < n) && (u q).testBit p
theorem ltU_srd (hn : n ≤ 10) (hu : Sm n n u) (ho : Ord n u) : Srd n (ltU u n) := by
  have inn : ∀ p q, ltU u n p q = true → p < n ∧ q < n ∧ (u q).testBit p = true := fun p q h => by
    unfold ltU at h
    rw [Bool.and_eq_true, decide_eq_true_eq] at h
    exact ⟨bit_of_lt (hu q h.1) h.2, h.1, h.2⟩
  refine ⟨fun p => ?_, fun p q r h1 h2 => ?_, fun p q h => ⟨(inn p q h).1, (inn p q h).2.1⟩⟩
  · rw [Bool.eq_false_iff]; intro h
    obtain ⟨hp, _, hb⟩ := inn p p h
    rw [(ho p hp).1] at hb; cases hb
  · obtain ⟨_, hq, hb1⟩ := inn p q h1
    obtain ⟨_, hr, hb2⟩ := inn q r h2
    have s1 := hu q hq; have s2 := hu r hr
    have hpn := pw_le n hn
    unfold ltU
    rw [decide_eq_true hr, Bool.true_and]
    exact (lack_zero _ _ (by omega) (by omega)).1 ((ho r hr).2 q hq hb2) p hb1
/-- Places that keep to the order are a row. -/
theorem rank_row (hn : n ≤ 10) (hu : Sm n n u) {r : Nat → Nat} (hr : LxS (· < n) (ltU u n) r) : ∃ k, k < ways u n 0 ∧ ∀ a b, a < n → b < n → (ahB u n k a b = true ↔ r a < r b) := by
  obtain ⟨ρ, hρ⟩ : ∃ ρ : Nat → Nat, ρ = fun p => nmB (fun q => decide (r q < r p)) n := ⟨_, rfl⟩
  have up : ∀ p q, p < n → q < n → r p < r q → ρ p < ρ q := fun p q hp hq h => by
    rw [hρ]
    exact nmB_lt (c := p) n (fun x _ hx => by rw [decide_eq_true_eq] at hx ⊢; omega) hp (by simp) (by simpa using h)
  have iff : ∀ p q, p < n → q < n → (ρ p < ρ q ↔ r p < r q) := fun p q hp hq => by
    refine ⟨fun h => ?_, up p q hp hq⟩
    rcases Nat.lt_trichotomy (r p) (r q) with h1 | h1 | h1
    · exact h1
    · have := hr.inj p q hp hq h1; subst this; omega
    · have := up q p hq hp h1; omega
  have bd : ∀ p, p < n → ρ p < n := fun p hp => by
    rw [hρ]
    have h1 := nmB_lt (P := fun q => decide (r q < r p)) (Q := fun _ => true) (c := p) n (fun _ _ _ => rfl) hp (by simp) rfl
    have h2 := nmB_bd (fun _ => true) n
    exact Nat.lt_of_lt_of_le h1 h2
  have ho : Once (fun p => ((ρ p : Nat) : Int)) n n := fun j hj => ⟨⟨Int.natCast_nonneg _, Int.ofNat_lt.2 (bd j hj)⟩, fun i hi e => by
    have e2 : ρ i = ρ j := Int.ofNat_inj.1 e
    rcases Nat.lt_trichotomy (r i) (r j) with h1 | h1 | h1
    · have := up i j (by omega) hj h1; omega
    · have := hr.inj i j (by show i < n; omega) hj h1; omega
    · have := up j i hj (by omega) h1; omega⟩
  obtain ⟨f, hf⟩ := Classical.axiomOfChoice (r := fun j p => j < n → p < n ∧ ρ p = j) fun j => by
    rcases Nat.lt_or_ge j n with h | h
    · obtain ⟨p, hp, e⟩ := (sn_iff n).1 (once_all.1 ho j h)
      exact ⟨p, fun _ => ⟨hp, Int.ofNat_inj.1 e⟩⟩
    · exact ⟨0, fun h2 => by omega⟩
  have hfi : ∀ i j, i < j → j < n → f i ≠ f j := fun i j hij hj e => by
    have h1 := (hf i (by omega)).2; have h2 := (hf j hj).2
    rw [e] at h1; omega
  obtain ⟨k, hk, hkf⟩ := row_number (u := u) (n := n) (f := f) (fun j hj => by
    obtain ⟨h1, h2⟩ := hf j hj
    refine ⟨h1, ?_⟩
    unfold may
    rw [Bool.and_eq_true, decide_eq_true_eq, Bool.not_eq_true']
    refine ⟨?_, ?_⟩
    · rw [Bool.eq_false_iff]; intro h
      obtain ⟨i, hi, e⟩ := (sB_bits hfi (f j) j (by omega)).1 h
      exact hfi i j hi hj e
    · have hlt : sB f j < pw n := by
        refine Nat.lt_pow_two_of_testBit _ fun i hin => ?_
        rw [Bool.eq_false_iff]; intro h
        obtain ⟨j', hj', e⟩ := (sB_bits hfi i j (by omega)).1 h
        have := (hf j' (by omega)).1; omega
      have hpn := pw_le n hn
      have hq2 := hu (f j) h1
      refine (lack_zero _ _ (by omega) (by omega)).2 fun i hb => ?_
      have hin : i < n := bit_of_lt hq2 hb
      have hl : ltU u n i (f j) = true := by unfold ltU; rw [decide_eq_true h1, hb]; rfl
      have h3 := (iff i (f j) hin h1).2 (hr.up i (f j) hin h1 hl)
      rw [h2] at h3
      refine (sB_bits hfi i j (by omega)).2 ⟨ρ i, h3, ?_⟩
      have h4 := hf (ρ i) (bd i hin)
      rcases Nat.lt_trichotomy (r (f (ρ i))) (r i) with h5 | h5 | h5
      · have := up _ _ h4.1 hin h5; omega
      · exact hr.inj _ _ h4.1 hin h5
      · have := up _ _ hin h4.1 h5; omega) hfi
  refine ⟨k, hk, fun a b ha hb => ?_⟩
  have ea : f (ρ a) = a := by
    have h4 := hf (ρ a) (bd a ha)
    rcases Nat.lt_trichotomy (r (f (ρ a))) (r a) with h5 | h5 | h5
    · have := up _ _ h4.1 ha h5; omega
    · exact hr.inj _ _ h4.1 ha h5
    · have := up _ _ ha h4.1 h5; omega
  have eb : f (ρ b) = b := by
    have h4 := hf (ρ b) (bd b hb)
    rcases Nat.lt_trichotomy (r (f (ρ b))) (r b) with h5 | h5 | h5
    · have := up _ _ h4.1 hb h5; omega
    · exact hr.inj _ _ h4.1 hb h5
    · have := up _ _ hb h4.1 h5; omega
  have := ahB_at (u := u) hk (bd a ha) (bd b hb)
  rw [hkf _ (bd a ha), hkf _ (bd b hb), ea, eb] at this
  rw [this, iff a b ha hb]
end
end Go.Proofs.YtinblbkglkhjmaaDoor
