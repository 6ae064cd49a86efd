/-
  Who goes with whom, counted: no matching leaves fewer alone than a set on the left lacks, and what best leaves lacks no more than some set does. Plain facts: no Go text here. Conditions: at most ten points on either side.
-/
import Derived.Test.YtadocffdneiaaaaDoorMBest
namespace Go.Proofs.YtadocffdneiaaaaDoor
open Go.RowKit

/-- How many of the first k P lets by. -/
def cnt2 (P : Nat → Bool) : Nat → Nat
  | 0 => 0
  | k + 1 => if P k = true then cnt2 P k + 1 else cnt2 P k
theorem cnt2_yes {P : Nat → Bool} {k : Nat} (h : P k = true) : cnt2 P (k + 1) = cnt2 P k + 1 := by simp [cnt2, h]
theorem cnt2_no {P : Nat → Bool} {k : Nat} (h : P k = false) : cnt2 P (k + 1) = cnt2 P k := by simp [cnt2, h]
theorem cnt2_le (P : Nat → Bool) : ∀ k, cnt2 P k ≤ k
  | 0 => Nat.le_refl _
  | k + 1 => by have := cnt2_le P k; unfold cnt2; split <;> omega
theorem cnt2_congr {P Q : Nat → Bool} : ∀ n, (∀ k, k < n → P k = Q k) → cnt2 P n = cnt2 Q n
  | 0, _ => rfl
  | n + 1, h => by rw [cnt2, cnt2, cnt2_congr n (fun k hk => h k (by omega)), h n (by omega)]
theorem cnt2_imp {P Q : Nat → Bool} : ∀ n, (∀ k, k < n → P k = true → Q k = true) → cnt2 P n ≤ cnt2 Q n
  | 0, _ => Nat.le_refl _
  | n + 1, h => by
    have ih := cnt2_imp n (fun k hk => h k (by omega))
    cases hp : P n
    · rw [cnt2_no hp]
      cases hq : Q n
      · rw [cnt2_no hq]; exact ih
      · rw [cnt2_yes hq]; omega
    · rw [cnt2_yes hp, cnt2_yes (h n (by omega) hp)]; omega
theorem cnt2_split (P Q : Nat → Bool) : ∀ n, cnt2 P n = cnt2 (fun k => P k && Q k) n + cnt2 (fun k => P k && !Q k) n
  | 0 => rfl
  | n + 1 => by
    have ih := cnt2_split P Q n
    cases hp : P n <;> cases hq : Q n <;> simp [cnt2, hp, hq, ih] <;> omega
theorem cnt2_not (P : Nat → Bool) : ∀ n, cnt2 P n + cnt2 (fun k => !P k) n = n
  | 0 => rfl
  | n + 1 => by
    have ih := cnt2_not P n
    cases hp : P n <;> simp [cnt2, hp] <;> omega
theorem cnt2_remove {Q : Nat → Bool} {j : Nat} : ∀ m, j < m → Q j = true → cnt2 Q m = cnt2 (fun k => Q k && decide (k ≠ j)) m + 1
  | 0, h, _ => absurd h (Nat.not_lt_zero _)
  | m + 1, h, hq => by
    by_cases e : j = m
    · subst e
      rw [cnt2_yes hq, cnt2_no (by simp)]
      congr 1
      exact cnt2_congr j fun k hk => by
        have : decide (k ≠ j) = true := by simp; omega
        rw [this, Bool.and_true]
    · have ih := cnt2_remove (Q := Q) m (by omega) hq
      have e2 : (Q m && decide (m ≠ j)) = Q m := by
        have : decide (m ≠ j) = true := by simp; omega
        rw [this, Bool.and_true]
      cases hm : Q m
      · rw [cnt2_no hm, cnt2_no (by rw [e2]; exact hm)]; exact ih
      · rw [cnt2_yes hm, cnt2_yes (P := fun k => Q k && decide (k ≠ j)) (by rw [e2]; exact hm), ih]
theorem cnt2_inj (f : Nat → Nat) : ∀ n (P : Nat → Bool) m (Q : Nat → Bool), (∀ i, i < n → P i = true → f i < m ∧ Q (f i) = true) → (∀ i j, i < n → j < n → P i = true → P j = true → f i = f j → i = j) → cnt2 P n ≤ cnt2 Q m
  | 0, _, _, _, _, _ => Nat.zero_le _
  | n + 1, P, m, Q, h1, h2 => by
    cases hp : P n
    · rw [cnt2_no hp]
      exact cnt2_inj f n P m Q (fun i hi => h1 i (by omega)) (fun i j hi hj => h2 i j (by omega) (by omega))
    · obtain ⟨hlt, hq⟩ := h1 n (by omega) hp
      rw [cnt2_yes hp, cnt2_remove m hlt hq]
      have := cnt2_inj f n P m (fun k => Q k && decide (k ≠ f n)) (fun i hi hpi => by
        obtain ⟨a, b⟩ := h1 i (by omega) hpi
        refine ⟨a, ?_⟩
        have : f i ≠ f n := fun e => by have := h2 i n (by omega) (by omega) hpi hp e; omega
        simp [b, this]) (fun i j hi hj => h2 i j (by omega) (by omega))
      omega
theorem pcn_cnt (s : Nat) : ∀ k, pcn s k = cnt2 (fun j => s.testBit j) k
  | 0 => rfl
  | k + 1 => by rw [pcn, cnt2, pcn_cnt s k]
theorem pc_cnt {s n : Nat} (hn : n ≤ 10) (hs : s < pw n) : pc s = cnt2 (fun j => s.testBit j) n := by
  rw [← pcn_cnt]
  have h := pcn_stop (s := s) (k := n) (fun j hj => Nat.testBit_lt_two_pow (Nat.lt_of_lt_of_le hs (Nat.pow_le_pow_right (by decide) hj))) (10 - n)
  rw [show n + (10 - n) = 10 by omega] at h
  exact h
/-- The greatest of the first k values, or 0. -/
def maxTo (φ : Nat → Nat) : Nat → Nat
  | 0 => 0
  | k + 1 => max (maxTo φ k) (φ k)
theorem maxTo_le_iff (φ : Nat → Nat) (m : Nat) : ∀ k, maxTo φ k ≤ m ↔ ∀ j, j < k → φ j ≤ m
  | 0 => by simp [maxTo]
  | k + 1 => by
    have ih := maxTo_le_iff φ m k
    rw [maxTo, Nat.max_le, ih]
    exact ⟨fun h => upto_succ h.1 h.2, fun h => ⟨fun j hj => h j (by omega), h k (by omega)⟩⟩
theorem le_maxTo {φ : Nat → Nat} {k j : Nat} (h : j < k) : φ j ≤ maxTo φ k := (maxTo_le_iff φ _ k).1 (Nat.le_refl _) j h
theorem maxTo_ge {φ : Nat → Nat} {k : Nat} (h : maxTo φ k < φ k) : maxTo φ (k + 1) = φ k := by rw [maxTo]; omega
theorem maxTo_le {φ : Nat → Nat} {k : Nat} (h : φ k ≤ maxTo φ k) : maxTo φ (k + 1) = maxTo φ k := by rw [maxTo]; omega
/-- What a set lacks; what is lacked most. -/
def lk1 (t : Nat → Nat) (l s : Nat) : Nat := pc s - pc (orTo t s l)
def dfc (t : Nat → Nat) (l : Nat) : Nat := maxTo (lk1 t l) (pw l)

/-- Is f, of each on the left who goes with it, a matching? -/
def MOKat (t : Nat → Nat) (r : Nat) (f : Nat → Int) (i : Nat) : Prop := f i = -1 ∨ ∃ j : Nat, j < r ∧ f i = j ∧ (t i).testBit j = true ∧ ∀ i', i' < i → f i' ≠ j
def MOK (t : Nat → Nat) (l r : Nat) (f : Nat → Int) : Prop := ∀ i, i < l → MOKat t r f i
def goB (f : Nat → Int) (u : Nat) : Bool := f u != -1
def cntM (f : Nat → Int) (l : Nat) : Nat := cnt2 (goB f) l
theorem MOK.inj {t : Nat → Nat} {l r : Nat} {f : Nat → Int} (h : MOK t l r f) {i j : Nat} (hi : i < l) (hj : j < l) (gi : goB f i = true) (gj : goB f j = true) (e : (f i).toNat = (f j).toNat) : i = j := by
  have ni : f i ≠ -1 := by simpa [goB] using gi
  have nj : f j ≠ -1 := by simpa [goB] using gj
  rcases h i hi with h1 | ⟨a, _, ha, _, hai⟩
  · exact absurd h1 ni
  rcases h j hj with h1 | ⟨b, _, hb, _, hbj⟩
  · exact absurd h1 nj
  rw [ha, hb] at e
  have eab : a = b := by simpa using e
  rcases Nat.lt_trichotomy i j with h1 | h1 | h1
  · exact absurd (by rw [ha, eab]) (hbj i h1)
  · exact h1
  · exact absurd (by rw [hb, ← eab]) (hai j h1)
theorem with_bit {t : Nat → Nat} {s l u x : Nat} (hu : u < l) (hs : s.testBit u = true) (hx : (t u).testBit x = true) : (orTo t s l).testBit x = true := by
  have : ∀ k, u < k → (orTo t s k).testBit x = true := by
    intro k
    induction k with
    | zero => intro h; omega
    | succ k ih =>
      intro h
      rw [orTo_bit, anyTo, ← orTo_bit]
      by_cases e : u = k
      · subst e; simp [hs, hx]
      · rw [ih (by omega)]; rfl
  exact this l hu
/-- No matching leaves fewer alone than a set lacks. -/
theorem upper {t : Nat → Nat} {l r : Nat} {f : Nat → Int} (hl : l ≤ 10) (hr : r ≤ 10) (ht : Sm r l t) (h : MOK t l r f) {s : Nat} (hs : s < pw l) : pc s ≤ pc (orTo t s l) + (l - cntM f l) := by
  rw [pc_cnt hl hs, pc_cnt hr (orTo_lt ht l (Nat.le_refl _)), cnt2_split (fun j => s.testBit j) (goB f) l]
  have a : cnt2 (fun k => s.testBit k && goB f k) l ≤ cnt2 (fun j => (orTo t s l).testBit j) r := by
    refine cnt2_inj (fun u => (f u).toNat) l _ r _ (fun u hu hp => ?_) (fun u v hu hv hpu hpv e => ?_)
    · simp only [Bool.and_eq_true] at hp
      have nu : f u ≠ -1 := by simpa [goB] using hp.2
      rcases h u hu with h1 | ⟨j, hj, hfj, htj, _⟩
      · exact absurd h1 nu
      · have e : (f u).toNat = j := by rw [hfj]; simp
        rw [e]
        exact ⟨hj, with_bit hu hp.1 htj⟩
    · simp only [Bool.and_eq_true] at hpu hpv
      exact h.inj hu hv hpu.2 hpv.2 e
  have b : cnt2 (fun k => s.testBit k && !goB f k) l ≤ cnt2 (fun k => !goB f k) l := cnt2_imp l fun k _ hp => by
    simp only [Bool.and_eq_true] at hp; exact hp.2
  have c := cnt2_not (goB f) l
  unfold cntM
  omega
theorem Mates.ok {t : Nat → Nat} {l r : Nat} {G : Nat → Int} (h : Mates t l r G) : MOK t l r G := by
  obtain ⟨H, hI, hG⟩ := h
  intro i hi
  rcases hG i hi with ⟨h1, _⟩ | ⟨j, hj, hGj, hHj⟩
  · exact .inl h1
  · refine .inr ⟨j, hj, hGj, ?_, fun i' hi' e => ?_⟩
    · rcases hI.val j hj with h1 | ⟨u, _, hu, hb⟩
      · rw [hHj] at h1; omega
      · have : u = i := by rw [hHj] at hu; omega
        rw [← this]; exact hb
    · rcases hG i' (by omega) with ⟨h1, _⟩ | ⟨j', _, hGj', hHj'⟩
      · rw [e] at h1; omega
      · have : j' = j := by rw [hGj'] at e; omega
        rw [this, hHj] at hHj'; omega
/-- The union of closed sets is closed. -/
theorem clo_or {t : Nat → Nat} {l r : Nat} {H : Nat → Int} {C D : Nat} (hC : Clo t l r H C) (hD : Clo t l r H D) : Clo t l r H (C ||| D) := fun k hk hb => by
  rw [Nat.testBit_or] at hb
  cases h1 : C.testBit k
  · rw [h1, Bool.false_or] at hb
    obtain ⟨u, hu, e, hs⟩ := hD k hk hb
    exact ⟨u, hu, e, fun j hj => by rw [Nat.testBit_or, hs j hj]; simp⟩
  · obtain ⟨u, hu, e, hs⟩ := hC k hk h1
    exact ⟨u, hu, e, fun j hj => by rw [Nat.testBit_or, hs j hj]; simp⟩
theorem clo_all {t : Nat → Nat} {l r : Nat} {H : Nat → Int} (hI : BestI t l r l H) : ∀ k, k ≤ l → ∃ C, C < pw r ∧ Clo t l r H C ∧ ∀ u, u < k → HeldOff r 0 H u ∨ Sub (t u) C
  | 0, _ => ⟨0, pw_pos r, fun k _ h => by simp at h, fun u hu => absurd hu (Nat.not_lt_zero _)⟩
  | k + 1, hk => by
    obtain ⟨C, hC, hc, hs⟩ := clo_all hI k (by omega)
    rcases hI.lost k (by omega) with h | ⟨D, hD, hd, hsd⟩
    · exact ⟨C, hC, hc, upto_succ hs (.inl h)⟩
    · refine ⟨C ||| D, Nat.or_lt_two_pow hC hD, clo_or hc hd, upto_succ (fun u hu => ?_) (.inr fun j hj => by rw [Nat.testBit_or, hsd j hj]; simp)⟩
      rcases hs u hu with h | h
      · exact .inl h
      · exact .inr fun j hj => by rw [Nat.testBit_or, h j hj]; rfl
def heldB (r : Nat) (H : Nat → Int) (C u : Nat) : Bool := decide (∃ k, k < r ∧ C.testBit k = true ∧ H k = (u : Int))
theorem heldB_iff (r : Nat) (H : Nat → Int) (C u : Nat) : heldB r H C u = true ↔ ∃ k, k < r ∧ C.testBit k = true ∧ H k = (u : Int) := by unfold heldB; exact decide_eq_true_iff
/-- What best leaves alone some set lacks. -/
theorem lower {t : Nat → Nat} {l r : Nat} {G : Nat → Int} (hl : l ≤ 10) (hr : r ≤ 10) (ht : Sm r l t) (h : Mates t l r G) : ∃ s, s < pw l ∧ pc (orTo t s l) + (l - cntM G l) ≤ pc s := by
  obtain ⟨H, hI, hG⟩ := h
  obtain ⟨C, hC, hc, hs⟩ := clo_all hI l (Nat.le_refl _)
  have hgo : ∀ u, u < l → (goB G u = true ↔ HeldOff r 0 H u) := fun u hu => by
    rcases hG u hu with ⟨h1, h2⟩ | ⟨j, hj, hGj, hHj⟩
    · constructor
      · intro hg; exact absurd h1 (by simpa [goB] using hg)
      · rintro ⟨k, hk, _, e⟩; exact absurd e (h2 k hk)
    · constructor
      · intro _; exact ⟨j, hj, by simp, hHj⟩
      · intro _; simp [goB, hGj]
  let S := setBy (fun u => !goB G u || heldB r H C u) l
  have hS : S < pw l := setBy_lt _ l
  have hSb : ∀ u, u < l → S.testBit u = (!goB G u || heldB r H C u) := fun u hu => by rw [setBy_bit]; simp [hu]
  refine ⟨S, hS, ?_⟩
  have hsub : Sub (orTo t S l) C := fun x hx => by
    rw [orTo_bit] at hx
    have : ∀ k, k ≤ l → anyTo t S x k = true → C.testBit x = true := by
      intro k
      induction k with
      | zero => intro _ h; cases h
      | succ k ih =>
        intro hk h
        rw [anyTo, Bool.or_eq_true, Bool.and_eq_true] at h
        rcases h with h | ⟨h1, h2⟩
        · exact ih (by omega) h
        · rw [hSb k (by omega), Bool.or_eq_true] at h1
          rcases h1 with h1 | h1
          · rcases hs k (by omega) with h3 | h3
            · have := (hgo k (by omega)).2 h3
              rw [this] at h1; cases h1
            · exact h3 x h2
          · obtain ⟨j, hj, hCj, hHj⟩ := (heldB_iff r H C k).1 h1
            obtain ⟨u, _, hu, hsu⟩ := hc j hj hCj
            have : u = k := by rw [hHj] at hu; omega
            rw [this] at hsu
            exact hsu x h2
    exact this l (Nat.le_refl _) hx
  have a : pc (orTo t S l) ≤ pc C := by
    rw [pc_cnt hr (orTo_lt ht l (Nat.le_refl _)), pc_cnt hr hC]
    exact cnt2_imp r fun k _ hk => hsub k hk
  have b : pc C ≤ cnt2 (fun u => heldB r H C u) l := by
    rw [pc_cnt hr hC]
    refine cnt2_inj (fun k => (H k).toNat) r _ l _ (fun k hk hCk => ?_) (fun j k hj hk hCj hCk e => ?_)
    · obtain ⟨u, hul, hu, _⟩ := hc k hk hCk
      have e : (H k).toNat = u := by rw [hu]; simp
      rw [e]
      exact ⟨hul, (heldB_iff r H C u).2 ⟨k, hk, hCk, hu⟩⟩
    · obtain ⟨u, _, hu, _⟩ := hc j hj hCj
      obtain ⟨v, _, hv, _⟩ := hc k hk hCk
      rw [hu, hv] at e
      have : u = v := by simpa using e
      exact hI.inj j k hj hk (by simp) (by simp) (by rw [hu, hv, this]) (by rw [hu]; omega)
  have c : cnt2 (fun u => S.testBit u) l = cnt2 (fun u => heldB r H C u) l + cnt2 (fun u => !goB G u) l := by
    rw [cnt2_split (fun u => S.testBit u) (fun u => heldB r H C u) l]
    congr 1
    · exact cnt2_congr l fun u hu => by
        rw [hSb u hu]
        cases heldB r H C u <;> simp
    · refine cnt2_congr l fun u hu => ?_
      rw [hSb u hu]
      cases hh : heldB r H C u
      · simp
      · obtain ⟨k, hk, _, e⟩ := (heldB_iff r H C u).1 hh
        have := (hgo u hu).2 ⟨k, hk, by simp, e⟩
        rw [this]; rfl
  have d := cnt2_not (goB G) l
  rw [pc_cnt hl hS, c]
  unfold cntM
  omega
theorem Mates.count {t : Nat → Nat} {l r : Nat} {G : Nat → Int} (hl : l ≤ 10) (hr : r ≤ 10) (ht : Sm r l t) (h : Mates t l r G) : dfc t l + cntM G l = l := by
  have h1 : dfc t l ≤ l - cntM G l := (maxTo_le_iff _ _ _).2 fun s hs => by
    have := upper hl hr ht h.ok hs
    unfold lk1; omega
  obtain ⟨s, hs, h2⟩ := lower hl hr ht h
  have h3 := le_maxTo (φ := lk1 t l) hs
  have h4 : lk1 t l s = pc s - pc (orTo t s l) := rfl
  have h5 := cnt2_le (goB G) l
  have h6 : dfc t l = maxTo (lk1 t l) (pw l) := rfl
  unfold cntM at *
  omega
end Go.Proofs.YtadocffdneiaaaaDoor
