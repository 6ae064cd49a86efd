/-
  Rows of an order, swaps of two neighbours, promotion, evacuation, orbits: plain facts. No Go text here. No condition.
-/
import Derived.Test.YtnommlfenaijoabPrA
namespace Go.Proofs.Ytnommlfenaijoab
open Go.RowKit

/-- Of more things than places two are in one. -/
theorem php : ∀ (n : Nat) (f : Nat → Nat), (∀ i, i ≤ n → f i < n) → ∃ i j, i < j ∧ j ≤ n ∧ f i = f j
  | 0, f, h => absurd (h 0 (Nat.le_refl _)) (Nat.not_lt_zero _)
  | n + 1, f, h => by
    by_cases hh : ∃ i, i ≤ n ∧ f i = f (n + 1)
    · obtain ⟨i, h1, h2⟩ := hh
      exact ⟨i, n + 1, by omega, Nat.le_refl _, h2⟩
    · have hv := h (n + 1) (Nat.le_refl _)
      have hne : ∀ i, i ≤ n → f i ≠ f (n + 1) := fun i hi e => hh ⟨i, hi, e⟩
      obtain ⟨i, j, h1, h2, h3⟩ := php n (fun i => if f (n + 1) < f i then f i - 1 else f i) (fun i hi => by
        have a1 := h i (by omega)
        have a2 := hne i hi
        show (if f (n + 1) < f i then f i - 1 else f i) < n
        split <;> omega)
      refine ⟨i, j, h1, by omega, ?_⟩
      have a1 := hne i (by omega)
      have a2 := hne j h2
      have h3' : (if f (n + 1) < f i then f i - 1 else f i) = (if f (n + 1) < f j then f j - 1 else f j) := h3
      split at h3' <;> split at h3' <;> omega
/-- Of n numbers below n that are all different none is left out. -/
theorem onto {n : Nat} {r : Nat → Nat} (h1 : ∀ j, j < n → r j < n) (h2 : ∀ i j, i < j → j < n → r i ≠ r j) {x : Nat} (hx : x < n) : ∃ i, i < n ∧ r i = x := by
  refine Classical.byContradiction fun hno => ?_
  obtain ⟨i, j, h3, h4, h5⟩ := php n (fun i => if i < n then r i else x) (fun i hi => by
    show (if i < n then r i else x) < n
    split
    · exact h1 i (by assumption)
    · exact hx)
  have hi : i < n := by omega
  have h5' : (if i < n then r i else x) = (if j < n then r j else x) := h5
  rw [if_pos hi] at h5'
  by_cases hj : j < n
  · rw [if_pos hj] at h5'; exact h2 i j h3 hj h5'
  · rw [if_neg hj] at h5'; exact hno ⟨i, hi, h5'⟩
/-- A row of an order: all its points, each once, each behind what is below it. -/
def Rw (u : Nat → Nat) (n : Nat) (r : Nat → Nat) : Prop :=
  (∀ j, j < n → r j < n) ∧ (∀ i j, i < j → j < n → r i ≠ r j) ∧ ∀ i j, i < n → j < n → (u (r j)).testBit (r i) = true → i < j
/-- The set of the first i points of a row. -/
theorem sB_bit {r : Nat → Nat} : ∀ i, (∀ a b, a < b → b < i → r a ≠ r b) → ∀ x, (sB r i).testBit x = true ↔ ∃ j, j < i ∧ r j = x
  | 0, _, x => by simp [sB, sumTo]
  | i + 1, h, x => by
    have ih := sB_bit i (fun a b h1 h2 => h a b h1 (by omega))
    have hno : (sB r i).testBit (r i) = false := by
      cases e : (sB r i).testBit (r i)
      · rfl
      · obtain ⟨j, h1, h2⟩ := (ih _).1 e
        exact absurd h2 (h j i h1 (by omega))
    rw [sB_succ, add_bit hno, Bool.or_eq_true, ih, decide_eq_true_eq]
    constructor
    · rintro (⟨j, h1, h2⟩ | h1)
      · exact ⟨j, by omega, h2⟩
      · exact ⟨i, by omega, h1⟩
    · rintro ⟨j, h1, h2⟩
      by_cases e : j = i
      · subst e; exact .inr h2
      · exact .inl ⟨j, by omega, h2⟩
theorem sB_big {r : Nat → Nat} {n : Nat} (hn : n ≤ 10) (h1 : ∀ j, j < n → r j < n) (h2 : ∀ i j, i < j → j < n → r i ≠ r j) : ∀ i, i ≤ n → sB r i < 18446744073709551616 := fun i hi => by
  have : sB r i < 2 ^ 10 := by
    refine Nat.lt_pow_two_of_testBit _ fun j hj => ?_
    cases e : (sB r i).testBit j
    · rfl
    · obtain ⟨q, h3, h4⟩ := (sB_bit i (fun a b h5 h6 => h2 a b h5 (by omega)) j).1 e
      have := h1 q (by omega)
      omega
  omega
theorem rw_of {u : Nat → Nat} {n : Nat} {f : Nat → Int} (hn : n ≤ 10) (hu : ∀ k, k < n → u k < 1024) (h : RowTo u n f n) : Rw u n (nat f) := by
  have hlt : ∀ j, j < n → nat f j < n := fun j hj => nat_lt (h j hj).1 (h j hj).2.1
  have hne : ∀ j, j ≤ n → ∀ a b, a < b → b < j → nat f a ≠ nat f b := fun j => by
    induction j with
    | zero => intro _ a b _ hb; omega
    | succ j ih =>
      intro hj a b hab hb e
      by_cases ej : b = j
      · subst ej
        have := may_out (h b (by omega)).2.2
        rw [(sB_bit b (ih (by omega)) (nat f b)).2 ⟨a, hab, e⟩] at this
        cases this
      · exact ih (by omega) a b hab (by omega) e
  refine ⟨hlt, hne n (Nat.le_refl _), fun i j hi hj hb => ?_⟩
  have hm := (h j hj).2.2
  unfold may at hm
  rw [Bool.and_eq_true, decide_eq_true_eq] at hm
  have hz := (lack_zero _ _ (by have := hu _ (hlt j hj); omega) (sB_big hn hlt (hne n (Nat.le_refl _)) j (by omega))).1 hm.2 _ hb
  obtain ⟨q, h1, h2⟩ := (sB_bit j (fun a b h5 h6 => hne n (Nat.le_refl _) a b h5 (by omega)) _).1 hz
  rcases Nat.lt_trichotomy q i with e | e | e
  · exact absurd h2 (hne n (Nat.le_refl _) q i e hi)
  · omega
  · exact absurd h2.symm (hne n (Nat.le_refl _) i q e (by omega))
theorem rw_to {u : Nat → Nat} {n : Nat} {f : Nat → Int} (hn : n ≤ 10) (hu : ∀ k, k < n → u k < pw n) (hf : ∀ j, j < n → 0 ≤ f j) (h : Rw u n (nat f)) : RowTo u n f n := by
  obtain ⟨hlt, hne, hbe⟩ := h
  intro j hj
  refine ⟨hf j hj, ?_, ?_⟩
  · have := hlt j hj
    have := nat_eq (hf j hj)
    omega
  · have hs := sB_bit j (fun a b h5 h6 => hne a b h5 (by omega))
    refine may_yes ?_ ?_
    · cases e : (sB (nat f) j).testBit (nat f j)
      · rfl
      · obtain ⟨i, h1, h2⟩ := (hs _).1 e
        exact absurd h2 (hne i j h1 hj)
    · have hup := hu _ (hlt j hj)
      have hpl := pw_le n hn
      refine (lack_zero _ _ (by omega) (sB_big hn hlt hne j (by omega))).2 fun x hx => ?_
      have hxn : x < n := bit_of_lt hup hx
      obtain ⟨i, h1, h2⟩ := onto hlt hne hxn
      exact (hs x).2 ⟨i, hbe i j h1 hj (by rw [h2]; exact hx), h2⟩

/-- Swap k of a row. -/
def sw (u : Nat → Nat) (k : Nat) (r : Nat → Nat) : Nat → Nat :=
  if (u (r (k + 1))).testBit (r k) = true then r else fun i => if i = k then r (k + 1) else if i = k + 1 then r k else r i
theorem sw_no {u : Nat → Nat} {k : Nat} {r : Nat → Nat} (h : (u (r (k + 1))).testBit (r k) = true) : sw u k r = r := by rw [sw, if_pos h]
theorem sw_yes {u : Nat → Nat} {k : Nat} {r : Nat → Nat} (h : (u (r (k + 1))).testBit (r k) = false) : sw u k r = fun i => if i = k then r (k + 1) else if i = k + 1 then r k else r i := by
  rw [sw, if_neg (by rw [h]; simp)]
theorem sw_far {u : Nat → Nat} {k : Nat} {r : Nat → Nat} {i : Nat} (h1 : i ≠ k) (h2 : i ≠ k + 1) : sw u k r i = r i := by
  cases e : (u (r (k + 1))).testBit (r k)
  · rw [sw_yes e]; simp [h1, h2]
  · rw [sw_no e]
theorem Rw.sw {u : Nat → Nat} {n : Nat} {r : Nat → Nat} (h : Rw u n r) {k : Nat} (hk : k + 1 < n) : Rw u n (sw u k r) := by
  obtain ⟨h1, h2, h3⟩ := h
  cases e : (u (r (k + 1))).testBit (r k)
  · rw [sw_yes e]
    have key : ∀ i, i < n → ∃ t, t < n ∧ (if i = k then r (k + 1) else if i = k + 1 then r k else r i) = r t ∧ ((i = k ∧ t = k + 1) ∨ (i = k + 1 ∧ t = k) ∨ (i ≠ k ∧ i ≠ k + 1 ∧ t = i)) := fun i hi => by
      by_cases e1 : i = k
      · exact ⟨k + 1, hk, by rw [if_pos e1], .inl ⟨e1, rfl⟩⟩
      · by_cases e2 : i = k + 1
        · exact ⟨k, by omega, by rw [if_neg e1, if_pos e2], .inr (.inl ⟨e2, rfl⟩)⟩
        · exact ⟨i, hi, by rw [if_neg e1, if_neg e2], .inr (.inr ⟨e1, e2, rfl⟩)⟩
    have inj : ∀ a b, a < n → b < n → r a = r b → a = b := fun a b ha hb he => by
      rcases Nat.lt_trichotomy a b with q | q | q
      · exact absurd he (h2 a b q hb)
      · exact q
      · exact absurd he.symm (h2 b a q ha)
    refine ⟨fun j hj => ?_, fun i j hij hj he => ?_, fun i j hi hj hb => ?_⟩
    · obtain ⟨t, ht, et, _⟩ := key j hj
      show (if j = k then r (k + 1) else if j = k + 1 then r k else r j) < n
      rw [et]; exact h1 t ht
    · obtain ⟨t, ht, et, c1⟩ := key i (by omega)
      obtain ⟨s, hs, es, c2⟩ := key j hj
      have he' : (if i = k then r (k + 1) else if i = k + 1 then r k else r i) = (if j = k then r (k + 1) else if j = k + 1 then r k else r j) := he
      rw [et, es] at he'
      have := inj t s ht hs he'
      omega
    · obtain ⟨t, ht, et, c1⟩ := key i hi
      obtain ⟨s, hs, es, c2⟩ := key j hj
      have hb' : (u (if j = k then r (k + 1) else if j = k + 1 then r k else r j)).testBit (if i = k then r (k + 1) else if i = k + 1 then r k else r i) = true := hb
      rw [et, es] at hb'
      have hts := h3 t s ht hs hb'
      by_cases q : t = k ∧ s = k + 1
      · obtain ⟨rfl, rfl⟩ := q
        rw [e] at hb'; cases hb'
      · omega
  · rw [sw_no e]; exact ⟨h1, h2, h3⟩
theorem sw_twice {u : Nat → Nat} {n : Nat} {r : Nat → Nat} (h : Rw u n r) {k : Nat} (hk : k + 1 < n) : Go.Proofs.Ytnommlfenaijoab.sw u k (Go.Proofs.Ytnommlfenaijoab.sw u k r) = r := by
  cases e : (u (r (k + 1))).testBit (r k)
  · have e2 : (u (r k)).testBit (r (k + 1)) = false := by
      cases q : (u (r k)).testBit (r (k + 1))
      · rfl
      · have := h.2.2 (k + 1) k hk (by omega) q
        omega
    rw [sw_yes e, sw_yes]
    · funext i
      by_cases e1 : i = k
      · subst e1; simp
      · by_cases e3 : i = k + 1
        · subst e3; simp
        · simp [e1, e3]
    · simp [e2]
  · rw [sw_no e, sw_no e]
theorem sw_comm (u : Nat → Nat) (r : Nat → Nat) {k j : Nat} (h : k + 2 ≤ j) : Go.Proofs.Ytnommlfenaijoab.sw u j (Go.Proofs.Ytnommlfenaijoab.sw u k r) = Go.Proofs.Ytnommlfenaijoab.sw u k (Go.Proofs.Ytnommlfenaijoab.sw u j r) := by
  have a1 : Go.Proofs.Ytnommlfenaijoab.sw u k r j = r j := sw_far (by omega) (by omega)
  have a2 : Go.Proofs.Ytnommlfenaijoab.sw u k r (j + 1) = r (j + 1) := sw_far (by omega) (by omega)
  have b1 : Go.Proofs.Ytnommlfenaijoab.sw u j r k = r k := sw_far (by omega) (by omega)
  have b2 : Go.Proofs.Ytnommlfenaijoab.sw u j r (k + 1) = r (k + 1) := sw_far (by omega) (by omega)
  cases e1 : (u (r (j + 1))).testBit (r j)
  · rw [sw_yes (u := u) (k := j) (r := Go.Proofs.Ytnommlfenaijoab.sw u k r) (by rw [a1, a2]; exact e1), a1, a2]
    cases e2 : (u (r (k + 1))).testBit (r k)
    · rw [sw_yes (u := u) (k := k) (r := Go.Proofs.Ytnommlfenaijoab.sw u j r) (by rw [b1, b2]; exact e2), b1, b2, sw_yes e1, sw_yes e2]
      have d1 : j ≠ k := by omega
      have d2 : j ≠ k + 1 := by omega
      have d3 : j + 1 ≠ k := by omega
      have d4 : j + 1 ≠ k + 1 := by omega
      have d5 : k ≠ j := by omega
      have d6 : k ≠ j + 1 := by omega
      have d7 : k + 1 ≠ j := by omega
      have d8 : k + 1 ≠ j + 1 := by omega
      funext i
      dsimp only
      by_cases q1 : i = j
      · subst q1
        rw [if_pos rfl, if_neg d1, if_neg d2, if_pos rfl]
      · by_cases q2 : i = j + 1
        · subst q2
          rw [if_neg q1, if_pos rfl, if_neg d3, if_neg d4, if_neg q1, if_pos rfl]
        · rw [if_neg q1, if_neg q2]
          by_cases q3 : i = k
          · rw [if_pos q3, if_pos q3]
          · by_cases q4 : i = k + 1
            · rw [if_neg q3, if_pos q4, if_neg q3, if_pos q4]
            · rw [if_neg q3, if_neg q4, if_neg q3, if_neg q4, if_neg q1, if_neg q2]
    · rw [sw_no (u := u) (k := k) (r := Go.Proofs.Ytnommlfenaijoab.sw u j r) (by rw [b1, b2]; exact e2), sw_yes e1, sw_no e2]
  · rw [sw_no (u := u) (k := j) (r := Go.Proofs.Ytnommlfenaijoab.sw u k r) (by rw [a1, a2]; exact e1), sw_no e1]
/-- The swaps from the first on; the same, from the last on; evacuation. -/
def up (u : Nat → Nat) : Nat → (Nat → Nat) → Nat → Nat
  | 0, r => r
  | m + 1, r => sw u m (up u m r)
def dn (u : Nat → Nat) : Nat → (Nat → Nat) → Nat → Nat
  | 0, r => r
  | m + 1, r => dn u m (sw u m r)
def ev (u : Nat → Nat) : Nat → (Nat → Nat) → Nat → Nat
  | 0, r => r
  | m + 1, r => ev u m (up u (m + 1) r)
theorem Rw.up {u : Nat → Nat} {n : Nat} {r : Nat → Nat} (h : Rw u n r) : ∀ m, m < n → Rw u n (up u m r)
  | 0, _ => h
  | m + 1, hm => (Rw.up h m (by omega)).sw hm
theorem Rw.dn {u : Nat → Nat} {n : Nat} : ∀ m {r : Nat → Nat}, Rw u n r → m < n → Rw u n (dn u m r)
  | 0, _, h, _ => h
  | m + 1, _, h, hm => Rw.dn m (h.sw hm) (by omega)
theorem Rw.ev {u : Nat → Nat} {n : Nat} : ∀ m {r : Nat → Nat}, Rw u n r → m < n → Rw u n (ev u m r)
  | 0, _, h, _ => h
  | m + 1, _, h, hm => Rw.ev m (h.up (m + 1) hm) (by omega)
theorem dn_up {u : Nat → Nat} {n : Nat} {r : Nat → Nat} (h : Rw u n r) : ∀ m, m < n → Go.Proofs.Ytnommlfenaijoab.dn u m (Go.Proofs.Ytnommlfenaijoab.up u m r) = r
  | 0, _ => rfl
  | m + 1, hm => by
    show Go.Proofs.Ytnommlfenaijoab.dn u m (Go.Proofs.Ytnommlfenaijoab.sw u m (Go.Proofs.Ytnommlfenaijoab.sw u m (Go.Proofs.Ytnommlfenaijoab.up u m r))) = r
    rw [sw_twice (h.up m (by omega)) hm]; exact dn_up h m (by omega)
theorem up_dn {u : Nat → Nat} {n : Nat} : ∀ m {r : Nat → Nat}, Rw u n r → m < n → Go.Proofs.Ytnommlfenaijoab.up u m (Go.Proofs.Ytnommlfenaijoab.dn u m r) = r
  | 0, _, _, _ => rfl
  | m + 1, r, h, hm => by
    show Go.Proofs.Ytnommlfenaijoab.sw u m (Go.Proofs.Ytnommlfenaijoab.up u m (Go.Proofs.Ytnommlfenaijoab.dn u m (Go.Proofs.Ytnommlfenaijoab.sw u m r))) = r
    rw [up_dn m (h.sw hm) (by omega), sw_twice h hm]
theorem sw_up (u : Nat → Nat) (r : Nat → Nat) (j : Nat) : ∀ m, m + 1 ≤ j → Go.Proofs.Ytnommlfenaijoab.up u m (Go.Proofs.Ytnommlfenaijoab.sw u j r) = Go.Proofs.Ytnommlfenaijoab.sw u j (Go.Proofs.Ytnommlfenaijoab.up u m r)
  | 0, _ => rfl
  | m + 1, h => by
    show Go.Proofs.Ytnommlfenaijoab.sw u m (Go.Proofs.Ytnommlfenaijoab.up u m (Go.Proofs.Ytnommlfenaijoab.sw u j r)) = Go.Proofs.Ytnommlfenaijoab.sw u j (Go.Proofs.Ytnommlfenaijoab.sw u m (Go.Proofs.Ytnommlfenaijoab.up u m r))
    rw [sw_up u r j m (by omega), sw_comm u _ (show m + 2 ≤ j by omega)]
theorem sw_ev (u : Nat → Nat) (j : Nat) : ∀ m (r : Nat → Nat), m + 1 ≤ j → Go.Proofs.Ytnommlfenaijoab.ev u m (Go.Proofs.Ytnommlfenaijoab.sw u j r) = Go.Proofs.Ytnommlfenaijoab.sw u j (Go.Proofs.Ytnommlfenaijoab.ev u m r)
  | 0, _, _ => rfl
  | m + 1, r, h => by
    show Go.Proofs.Ytnommlfenaijoab.ev u m (Go.Proofs.Ytnommlfenaijoab.up u (m + 1) (Go.Proofs.Ytnommlfenaijoab.sw u j r)) = Go.Proofs.Ytnommlfenaijoab.sw u j (Go.Proofs.Ytnommlfenaijoab.ev u m (Go.Proofs.Ytnommlfenaijoab.up u (m + 1) r))
    rw [sw_up u r j (m + 1) h, sw_ev u j m _ (by omega)]
/-- Evacuation, the other way: what is less first, and then all swaps from the last on. -/
theorem ev_dn (u : Nat → Nat) : ∀ m (r : Nat → Nat), Go.Proofs.Ytnommlfenaijoab.ev u (m + 1) r = Go.Proofs.Ytnommlfenaijoab.dn u (m + 1) (Go.Proofs.Ytnommlfenaijoab.ev u m r)
  | 0, _ => rfl
  | m + 1, r => by
    show Go.Proofs.Ytnommlfenaijoab.ev u (m + 1) (Go.Proofs.Ytnommlfenaijoab.sw u (m + 1) (Go.Proofs.Ytnommlfenaijoab.up u (m + 1) r)) = Go.Proofs.Ytnommlfenaijoab.dn u (m + 1) (Go.Proofs.Ytnommlfenaijoab.sw u (m + 1) (Go.Proofs.Ytnommlfenaijoab.ev u (m + 1) r))
    rw [ev_dn u m, sw_ev u (m + 1) m _ (by omega)]
    rfl
theorem ev_twice {u : Nat → Nat} {n : Nat} : ∀ m {r : Nat → Nat}, Rw u n r → m < n → Go.Proofs.Ytnommlfenaijoab.ev u m (Go.Proofs.Ytnommlfenaijoab.ev u m r) = r
  | 0, _, _, _ => rfl
  | m + 1, r, h, hm => by
    have e : Go.Proofs.Ytnommlfenaijoab.ev u (m + 1) (Go.Proofs.Ytnommlfenaijoab.ev u (m + 1) r) = Go.Proofs.Ytnommlfenaijoab.ev u m (Go.Proofs.Ytnommlfenaijoab.up u (m + 1) (Go.Proofs.Ytnommlfenaijoab.dn u (m + 1) (Go.Proofs.Ytnommlfenaijoab.ev u m r))) := by
      rw [← ev_dn u m r]; rfl
    rw [e, up_dn (m + 1) (h.ev m (by omega)) hm, ev_twice m h (by omega)]
/-- Promoted and evacuated it is as evacuated and demoted. -/
theorem ev_up (u : Nat → Nat) (m : Nat) (r : Nat → Nat) : Go.Proofs.Ytnommlfenaijoab.ev u (m + 1) (Go.Proofs.Ytnommlfenaijoab.up u (m + 1) r) = Go.Proofs.Ytnommlfenaijoab.dn u (m + 1) (Go.Proofs.Ytnommlfenaijoab.ev u (m + 1) r) := by
  rw [ev_dn u m (Go.Proofs.Ytnommlfenaijoab.up u (m + 1) r)]; rfl
/-- Outside of its places a row stays. -/
theorem up_far (u : Nat → Nat) (r : Nat → Nat) {i : Nat} : ∀ m, m < i → Go.Proofs.Ytnommlfenaijoab.up u m r i = r i
  | 0, _ => rfl
  | m + 1, h => by
    show Go.Proofs.Ytnommlfenaijoab.sw u m (Go.Proofs.Ytnommlfenaijoab.up u m r) i = r i
    rw [sw_far (by omega) (by omega)]; exact up_far u r m (by omega)

/-- Promoted so often. -/
def its (u : Nat → Nat) (m : Nat) : Nat → (Nat → Nat) → Nat → Nat
  | 0, r => r
  | t + 1, r => up u m (its u m t r)
theorem Rw.its {u : Nat → Nat} {n m : Nat} {r : Nat → Nat} (h : Rw u n r) (hm : m < n) : ∀ t, Rw u n (its u m t r)
  | 0 => h
  | t + 1 => (Rw.its h hm t).up m hm
theorem its_far (u : Nat → Nat) (m : Nat) (r : Nat → Nat) {i : Nat} (h : m < i) : ∀ t, Go.Proofs.Ytnommlfenaijoab.its u m t r i = r i
  | 0 => rfl
  | t + 1 => by
    show Go.Proofs.Ytnommlfenaijoab.up u m (Go.Proofs.Ytnommlfenaijoab.its u m t r) i = r i
    rw [up_far u _ m h]; exact its_far u m r h t
theorem its_back {u : Nat → Nat} {n m : Nat} {r : Nat → Nat} (h : Rw u n r) (hm : m < n) : ∀ i j, Go.Proofs.Ytnommlfenaijoab.its u m (i + j) r = Go.Proofs.Ytnommlfenaijoab.its u m i r → Go.Proofs.Ytnommlfenaijoab.its u m j r = r
  | 0, j, e => by rw [Nat.zero_add] at e; exact e
  | i + 1, j, e => by
    refine its_back h hm i j ?_
    rw [show i + 1 + j = (i + j) + 1 by omega] at e
    have e' : Go.Proofs.Ytnommlfenaijoab.up u m (Go.Proofs.Ytnommlfenaijoab.its u m (i + j) r) = Go.Proofs.Ytnommlfenaijoab.up u m (Go.Proofs.Ytnommlfenaijoab.its u m i r) := e
    have := congrArg (Go.Proofs.Ytnommlfenaijoab.dn u m) e'
    rw [dn_up (h.its hm (i + j)) m hm, dn_up (h.its hm i) m hm] at this
    exact this
/-- A row as a number. -/
def enc (r : Nat → Nat) : Nat → Nat
  | 0 => 0
  | i + 1 => enc r i + r i * 10 ^ i
theorem enc_lt {r : Nat → Nat} : ∀ n, (∀ j, j < n → r j < 10) → enc r n < 10 ^ n
  | 0, _ => by simp [enc]
  | n + 1, h => by
    have ih := enc_lt n (fun j hj => h j (by omega))
    have h1 := h n (by omega)
    have h2 : r n * 10 ^ n ≤ 9 * 10 ^ n := Nat.mul_le_mul_right _ (by omega)
    rw [enc, Nat.pow_succ]; omega
theorem enc_inj {r s : Nat → Nat} : ∀ n, (∀ j, j < n → r j < 10) → (∀ j, j < n → s j < 10) → enc r n = enc s n → ∀ j, j < n → r j = s j
  | 0, _, _, _, j, hj => absurd hj (Nat.not_lt_zero _)
  | n + 1, h1, h2, e, j, hj => by
    have a1 := enc_lt n (fun j hj => h1 j (by omega))
    have a2 := enc_lt n (fun j hj => h2 j (by omega))
    rw [enc, enc] at e
    have hn : r n = s n := by
      have p : 0 < 10 ^ n := Nat.pow_pos (by decide)
      have b1 : (enc r n + r n * 10 ^ n) / 10 ^ n = r n := by rw [Nat.add_mul_div_right _ _ p, Nat.div_eq_of_lt a1, Nat.zero_add]
      have b2 : (enc s n + s n * 10 ^ n) / 10 ^ n = s n := by rw [Nat.add_mul_div_right _ _ p, Nat.div_eq_of_lt a2, Nat.zero_add]
      rw [e] at b1
      omega
    rw [hn] at e
    by_cases q : j = n
    · subst q; exact hn
    · exact enc_inj n (fun j hj => h1 j (by omega)) (fun j hj => h2 j (by omega)) (by omega) j (by omega)
/-- A row comes again. -/
theorem again {u : Nat → Nat} {n m : Nat} {r : Nat → Nat} (hn : n ≤ 10) (h : Rw u n r) (hm : m < n) : ∃ T, 1 ≤ T ∧ T ≤ 10000000000 ∧ ∀ i, i < n → Go.Proofs.Ytnommlfenaijoab.its u m T r i = r i := by
  have hb : ∀ t j, j < n → Go.Proofs.Ytnommlfenaijoab.its u m t r j < 10 := fun t j hj => by have := (h.its hm t).1 j hj; omega
  have hp : 10 ^ n ≤ 10000000000 := Nat.le_trans (Nat.pow_le_pow_right (by decide) hn) (by decide)
  obtain ⟨i, j, h1, h2, h3⟩ := php 10000000000 (fun t => enc (Go.Proofs.Ytnommlfenaijoab.its u m t r) n) (fun t _ => Nat.lt_of_lt_of_le (enc_lt n (hb t)) hp)
  have e1 := enc_inj n (hb i) (hb j) h3
  have e2 : Go.Proofs.Ytnommlfenaijoab.its u m (i + (j - i)) r = Go.Proofs.Ytnommlfenaijoab.its u m i r := by
    rw [show i + (j - i) = j by omega]
    funext q
    by_cases hq : q < n
    · exact (e1 q hq).symm
    · rw [its_far u m r (by omega), its_far u m r (by omega)]
  have e3 := its_back h hm i (j - i) e2
  exact ⟨j - i, by omega, by omega, fun q _ => by rw [e3]⟩
end Go.Proofs.Ytnommlfenaijoab
