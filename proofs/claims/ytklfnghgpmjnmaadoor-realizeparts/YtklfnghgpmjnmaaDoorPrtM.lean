/-
  How few rows say a dual and a part: plain facts. No condition but what the theorems say.
-/
import Derived.Test.YtklfnghgpmjnmaaDoorTz
import Derived.Test.YtklfnghgpmjnmaaDoorPart
namespace Go.Proofs.YtklfnghgpmjnmaaDoor
open Go.RowKit

theorem ord_of_srd {g : Nat → Nat} {n : Nat} (hn : n ≤ 10) (hu : Sm n n g) (hs : Srd n (ltU g n)) : Ord n g := fun u hu' => by
  refine ⟨?_, fun p hp hb => ?_⟩
  · have := hs.irr u; unfold ltU at this; simpa [hu'] using this
  · have hpn := pw_le n hn
    have s1 := hu u hu'
    have s2 := hu p hp
    refine (lack_zero _ _ (by omega) (by omega)).2 fun i hi => ?_
    have h := hs.tr i p u (by unfold ltU; simp [hp, hi]) (by unfold ltU; simp [hu', hb])
    unfold ltU at h; simpa [hu'] using h
theorem srd_sub {lt lt' : Nat → Nat → Bool} {n m : Nat} {e : Nat → Nat} (hs : Srd n lt) (h : ∀ p q, lt' p q = true ↔ p < m ∧ q < m ∧ lt (e p) (e q) = true) : Srd m lt' := by
  refine ⟨fun p => ?_, fun p q r h1 h2 => ?_, fun p q h1 => ⟨((h p q).1 h1).1, ((h p q).1 h1).2.1⟩⟩
  · rw [Bool.eq_false_iff]; intro h1
    have := ((h p p).1 h1).2.2; rw [hs.irr] at this; cases this
  · obtain ⟨a1, a2, a3⟩ := (h p q).1 h1
    obtain ⟨b1, b2, b3⟩ := (h q r).1 h2
    exact (h p r).2 ⟨a1, b2, hs.tr _ _ _ a3 b3⟩
theorem rz_sub {lt lt' : Nat → Nat → Bool} {n m k : Nat} {e : Nat → Nat} (hr : RzS (· < n) lt k) (he : ∀ p, p < m → e p < n) (hi : ∀ p q, p < m → q < m → e p = e q → p = q) (h : ∀ p q, p < m → q < m → lt' p q = lt (e p) (e q)) : RzS (· < m) lt' k := by
  obtain ⟨R, h1, h2⟩ := hr
  refine ⟨fun i p => R i (e p), fun i hk => ⟨fun p q hp hq h3 => hi p q hp hq ((h1 i hk).inj _ _ (he p hp) (he q hq) h3), fun p q hp hq h3 => ?_⟩, fun p q hp hq hne h3 => ?_⟩
  · rw [h p q hp hq] at h3
    exact (h1 i hk).up _ _ (he p hp) (he q hq) h3
  · rw [h p q hp hq] at h3
    exact h2 _ _ (he p hp) (he q hq) (fun e => hne (hi p q hp hq e)) h3
theorem top_of (R : Nat → Nat) : ∀ n, ∃ M, ∀ p, p < n → R p ≤ M
  | 0 => ⟨0, fun p hp => absurd hp (Nat.not_lt_zero _)⟩
  | n + 1 => by
    obtain ⟨M, h⟩ := top_of R n
    refine ⟨max M (R n), fun p hp => ?_⟩
    by_cases e : p = n
    · subst e; omega
    · have := h p (by omega); omega
theorem rz_turn {lt lt' : Nat → Nat → Bool} {n k : Nat} (hr : RzS (· < n) lt k) (h : ∀ p q, p < n → q < n → lt' p q = lt q p) : RzS (· < n) lt' k := by
  obtain ⟨R, h1, h2⟩ := hr
  obtain ⟨M, hM⟩ := Classical.axiomOfChoice fun i => top_of (R i) n
  refine ⟨fun i p => M i - R i p, fun i hk => ⟨fun p q hp hq h3 => ?_, fun p q hp hq h3 => ?_⟩, fun p q hp hq hne h3 => ?_⟩
  · have a := hM i p hp; have b := hM i q hq
    simp only at h3
    exact (h1 i hk).inj p q hp hq (by omega)
  · rw [h p q hp hq] at h3
    have a := hM i p hp; have b := hM i q hq
    have := (h1 i hk).up q p hq hp h3
    simp only
    omega
  · rw [h p q hp hq] at h3
    obtain ⟨i, hi, h4⟩ := h2 q p hq hp (fun e => hne e.symm) h3
    have a := hM i p hp; have b := hM i q hq
    exact ⟨i, hi, by simp only; omega⟩
theorem trn_bt (g : Nat → Nat) (n l x : Nat) : (trn g n l).testBit x = (decide (x < n) && (g x).testBit l) := by rw [trn, setBy_bit]
theorem trn_lt {g : Nat → Nat} {n p q : Nat} (hp : p < n) (hq : q < n) : ltU (trn g n) n p q = ltU g n q p := by
  unfold ltU; rw [trn_bt]; simp [hp, hq]
theorem trn_good {g : Nat → Nat} {n : Nat} (hn : n ≤ 10) (hu : Sm n n g) (ho : Ord n g) : Sm n n (trn g n) ∧ Ord n (trn g n) := by
  have hs := ltU_srd hn hu ho
  have h1 : Sm n n (trn g n) := fun k _ => by rw [trn]; exact setBy_lt _ n
  refine ⟨h1, ord_of_srd hn h1 ?_⟩
  have inn : ∀ p q, ltU (trn g n) n p q = true → p < n ∧ q < n := fun p q h => by
    unfold ltU at h; rw [trn_bt] at h; simp at h; exact ⟨h.2.1, h.1⟩
  refine ⟨fun p => ?_, fun p q r h2 h3 => ?_, inn⟩
  · rw [Bool.eq_false_iff]; intro h
    obtain ⟨hp, _⟩ := inn p p h
    rw [trn_lt hp hp, hs.irr] at h; cases h
  · obtain ⟨a1, a2⟩ := inn p q h2
    obtain ⟨b1, b2⟩ := inn q r h3
    rw [trn_lt a1 a2] at h2
    rw [trn_lt b1 b2] at h3
    rw [trn_lt a1 b2]
    exact hs.tr _ _ _ h3 h2
theorem trn_dim {g : Nat → Nat} {n k m : Nat} (h : Dim g n k) (h' : Dim (trn g n) n m) : m = k := by
  refine Nat.le_antisymm (h'.2.2 k h.1 (rz_turn h.2.1 fun p q hp hq => trn_lt hp hq)) (h.2.2 m h'.1 (rz_turn h'.2.1 fun p q hp hq => ?_))
  rw [trn_lt hq hp]
theorem pts_rise (s : Nat) : ∀ n i j, i < j → j < (pts s n).length → nth (pts s n) i < nth (pts s n) j
  | 0, i, j, _, h => by simp [pts] at h
  | n + 1, i, j, hij, h => by
    cases hb : s.testBit n
    · rw [pts_no hb] at h ⊢; exact pts_rise s n i j hij h
    · rw [pts_yes hb] at h ⊢
      rw [List.length_append] at h
      simp only [List.length_singleton] at h
      by_cases e : j < (pts s n).length
      · have h1 := pts_rise s n i j hij e
        unfold nth at h1 ⊢
        rw [List.getD_eq_getElem?_getD, List.getD_eq_getElem?_getD, List.getElem?_append_left (by omega), List.getElem?_append_left e]
        rw [List.getD_eq_getElem?_getD, List.getD_eq_getElem?_getD] at h1
        exact h1
      · obtain rfl : j = (pts s n).length := by omega
        have h1 := nth_lt (s := s) (n := n) (k := i) hij
        unfold nth at h1 ⊢
        rw [List.getD_eq_getElem?_getD, List.getD_eq_getElem?_getD, List.getElem?_append_left hij, List.getElem?_append_right (Nat.le_refl _)]
        rw [List.getD_eq_getElem?_getD] at h1
        simpa using h1
theorem pts_inj {s n i j : Nat} (hi : i < (pts s n).length) (hj : j < (pts s n).length) (e : nth (pts s n) i = nth (pts s n) j) : i = j := by
  rcases Nat.lt_trichotomy i j with h | h | h
  · have := pts_rise s n i j h hj; omega
  · exact h
  · have := pts_rise s n j i h hi; omega
theorem prt_lt {g : Nat → Nat} {s n p q : Nat} (hp : p < (pts s n).length) (hq : q < (pts s n).length) : ltU (prt g (pts s n)) (pts s n).length p q = ltU g n (nth (pts s n) p) (nth (pts s n) q) := by
  have := nth_lt hq
  unfold ltU prt; rw [setBy_bit]; simp [hp, hq, this]
theorem prt_good {g : Nat → Nat} {s n : Nat} (hn : n ≤ 10) (hu : Sm n n g) (ho : Ord n g) : (pts s n).length ≤ n ∧ Sm (pts s n).length (pts s n).length (prt g (pts s n)) ∧ Ord (pts s n).length (prt g (pts s n)) := by
  have hs := ltU_srd hn hu ho
  have h0 := pts_len s n
  have h1 : Sm (pts s n).length (pts s n).length (prt g (pts s n)) := fun k _ => by rw [prt]; exact setBy_lt _ _
  refine ⟨h0, h1, ord_of_srd (by omega) h1 (srd_sub (e := nth (pts s n)) hs fun p q => ?_)⟩
  refine ⟨fun h => ?_, fun ⟨a, b, c⟩ => by rw [prt_lt a b]; exact c⟩
  have hp : p < (pts s n).length ∧ q < (pts s n).length := by
    unfold ltU prt at h; rw [setBy_bit] at h; simp at h; exact ⟨h.2.1, h.1⟩
  exact ⟨hp.1, hp.2, by rw [← prt_lt hp.1 hp.2]; exact h⟩
theorem prt_dim {g : Nat → Nat} {s n k m : Nat} (h : Dim g n k) (h' : Dim (prt g (pts s n)) (pts s n).length m) : m ≤ k :=
  h'.2.2 k h.1 (rz_sub (e := nth (pts s n)) h.2.1 (fun _ hp => nth_lt hp) (fun _ _ hp hq e => pts_inj hp hq e) fun _ _ hp hq => prt_lt hp hq)
/-- An order in which nothing is wrong. -/
theorem sck_of {g : Nat → Nat} {n : Nat} (h7 : n ≤ 7) (hu : Sm n n g) (ho : Ord n g) : SCk (n : Nat) n (fun k => (g k : Nat)) 0 := by
  refine ⟨0, .inr ⟨n, rfl, by omega, .inr ⟨rfl, .inr ⟨fun k hk => ⟨Int.natCast_nonneg _, by have := hu k hk; show ((g k : Nat) : Int) < _; omega⟩, .inr ⟨rfl, ho⟩⟩⟩⟩, ?_⟩
  rw [if_pos rfl, if_neg (by omega)]
/-- What Dimension answers of an order in which nothing is wrong. -/
theorem dim_good {n : Nat} {g : Nat → Nat} (h7 : n ≤ 7) (hu : Sm n n g) (ho : Ord n g) {e : Ending} {w : World} (h : DimPost (n : Nat) n (fun k => (g k : Nat)) e w) : ∃ (k cap : Nat) (a : Option Addr), Dim g n k ∧ e = .returned (.tuple #[.int .i64 (k : Nat), .slice a k cap, .int .i64 0]) := by
  obtain ⟨c, hc, hv⟩ := h
  obtain rfl := hc.one (sck_of h7 hu ho)
  rcases hv with ⟨h, _⟩ | ⟨_, l, a, cap, T, hd, _, rfl, _⟩
  · exact absurd rfl h
  · exact ⟨l.length, cap, a, hd, rfl⟩
end Go.Proofs.YtklfnghgpmjnmaaDoor
