/-
  Greene's and Kleitman's theorem, third part: the numbers of chains and of antichains are turned over into one another. Plain facts: no Go text here. Conditions: an order of at most ten points.
-/
import Derived.Test.YtadocffdneiaaaaDoorGreN
namespace Go.Proofs.YtadocffdneiaaaaDoor

section
variable {g : Nat → Nat} {n : Nat}
/-- How much one chain more brings; one antichain more. -/
def lam (g : Nat → Nat) (n i : Nat) : Nat := cK g n (i + 1) - cK g n i
def mu (g : Nat → Nat) (n j : Nat) : Nat := aL g n (j + 1) - aL g n j
def widG (g : Nat → Nat) (n : Nat) : Nat := frs (kin g n) n (pw n - 1)
def hei (g : Nat → Nat) (n : Nat) : Nat := frs (strg g n) n (pw n - 1)
theorem stt_start (hn : n ≤ 10) (hg : Sm n n g) (ho : Ord n g) : Stt n (ltG g) 0 (hei g n) := by
  have hS := ltG_str hn hg ho
  have hU : ∀ p q, (stB (fun q => ltG g p q) n).testBit q = true ↔ q < n ∧ ltG g p q = true := fun p q => stB_bit _ _ _
  -- a chain above q, and q itself
  have key : ∀ q s, q < n → s.testBit q = true → (∀ r, r < n → ltG g q r = true → s.testBit r = true) → frs (strg g n) n (stB (fun r => ltG g q r) n) + 1 ≤ frs (strg g n) n s := by
    intro q s hq hs hsub
    obtain ⟨T, hT, hTs, hf, e⟩ := fr_ex (strg g n) n (stB (fun r => ltG g q r) n)
    have hC := (chn_iff hn hg hT).1 hf
    have hab : ∀ r, T.testBit r = true → r < n ∧ ltG g q r = true := fun r hr => (hU q r).1 (hTs r hr)
    have hqT : T.testBit q = false := by
      rw [Bool.eq_false_iff]; intro h
      have := (hab q h).2; rw [hS.irr q hq] at this; cases this
    have hor : ∀ i, (T ||| pw q).testBit i = true ↔ T.testBit i = true ∨ q = i := fun i => by
      rw [Nat.testBit_or, pw_bit, Bool.or_eq_true, decide_eq_true_eq]
    have hlt : T ||| pw q < pw n := Nat.or_lt_two_pow hT (Nat.pow_lt_pow_right (by decide) hq)
    have := fr_ge (F := strg g n) (m := n) (s := s) (t := T ||| pw q) hlt (fun i hi => by
      rcases (hor i).1 hi with h | rfl
      · exact hsub i (hab i h).1 (hab i h).2
      · exact hs) ((chn_iff hn hg hlt).2 fun p r hp hr hne => by
        rcases (hor p).1 hp with h3 | rfl
        · rcases (hor r).1 hr with h4 | rfl
          · exact hC p r h3 h4 hne
          · exact .inr (hab p h3).2
        · rcases (hor r).1 hr with h4 | rfl
          · exact .inl (hab r h4).2
          · exact absurd rfl hne)
    rw [ins_is (set_small hT hn) (by omega) hqT] at this
    omega
  refine ⟨fun p => (frs (strg g n) n (stB (fun q => ltG g p q) n) : Nat), fun p => (frs (strg g n) n (stB (fun q => ltG g p q) n) : Nat) + 1, fun p => p,
    ⟨fun q hq => ?_, fun p _ => Int.natCast_nonneg _, fun p _ => Int.le_refl _, fun p q hp hq hlt => ?_⟩, ⟨fun p _ => .inr (.inl ⟨rfl, rfl⟩), fun p q _ _ e _ => e, fun q hq h => absurd rfl (h q hq), ?_⟩⟩
  · have := key q (pw n - 1) hq (by rw [full_bit]; simpa using hq) fun r hr _ => by rw [full_bit]; simpa using hr
    show ((frs (strg g n) n (stB (fun r => ltG g q r) n) : Nat) : Int) + 1 ≤ (hei g n : Nat)
    unfold hei; omega
  · have := key q (stB (fun r => ltG g p r) n) hq ((hU p q).2 ⟨hq, hlt⟩) fun r hr h => (hU p r).2 ⟨hr, hS.tr p q r hp hq hr hlt h⟩
    show ((frs (strg g n) n (stB (fun r => ltG g q r) n) : Nat) : Int) + 1 ≤ (frs (strg g n) n (stB (fun r => ltG g p r) n) : Nat)
    omega
  · have : nm (fun p => decide (p = n)) n = smI (fun _ => 0) n := smI_congr n fun p hp => if_neg (by simp; omega)
    rw [this, smI_const]; omega
theorem cK_more {F : Nat → Nat} (hF : Foe F n) {i : Nat} (hi : i < frs F n (pw n - 1)) : Msh F n i + 1 ≤ Msh F n (i + 1) := by
  have hn := hF.m10
  obtain ⟨s, hs, hp, hv⟩ := msh_ex F n i
  obtain ⟨k, hk, hb⟩ := not_full hs (fun e => by rw [e] at hp; omega)
  have h1 := hF.fr_add (s := s) hk
  have h2 := ins_is (set_small hs hn) (by omega) hb
  have h3 := msh_ge (F := F) (k := i + 1) (s := s ||| pw k) (Nat.or_lt_two_pow hs (Nat.pow_lt_pow_right (by decide) hk)) (by omega)
  omega
theorem lam_pos (hn : n ≤ 10) (hg : Sm n n g) (ho : Ord n g) {i : Nat} (hi : i < widG g n) : 1 ≤ lam g n i := by
  have := cK_more (kin_foe hn hg ho) hi
  unfold lam; show 1 ≤ Msh (kin g n) n (i + 1) - Msh (kin g n) n i; omega
theorem mu_pos (hn : n ≤ 10) (hg : Sm n n g) {i : Nat} (hi : i < hei g n) : 1 ≤ mu g n i := by
  have := cK_more (strg_foe hn hg) hi
  unfold mu; show 1 ≤ Msh (strg g n) n (i + 1) - Msh (strg g n) n i; omega
/-- What is so from k chains and l antichains on. -/
structure Stair (g : Nat → Nat) (n k l : Nat) : Prop where
  most : ∀ i, k ≤ i → i < widG g n → lam g n i ≤ l
  fall : ∀ i, k ≤ i → i + 1 < widG g n → lam g n (i + 1) ≤ lam g n i
  turn : ∀ j, j < l → mu g n j = k + cnt2 (fun i => decide (k ≤ i) && decide (j + 1 ≤ lam g n i)) (widG g n)
theorem cnt2_none {P : Nat → Bool} (m : Nat) (h : ∀ i, i < m → P i = false) : cnt2 P m = 0 := by
  induction m with
  | zero => rfl
  | succ m ih => rw [cnt2_no (h m (by omega))]; exact ih fun i hi => h i (by omega)
theorem stair (hn : n ≤ 10) (hg : Sm n n g) (ho : Ord n g) : ∀ m k l, widG g n - k + l ≤ m → Stt n (ltG g) k l → k ≤ widG g n → Stair g n k l
  | m, k, 0, _, hS, hk => by
    have e := stt_eq hn hg ho hS
    have e0 : aL g n 0 = 0 := (strg_foe hn hg).Msh_zero
    have hw : ¬ k < widG g n := fun h => by
      have := Msh_lt (F := kin g n) hn h
      have e' : Msh (kin g n) n k + aL g n 0 = n + k * 0 := e
      omega
    exact ⟨fun i h1 h2 => by omega, fun i h1 h2 => by omega, fun j hj => absurd hj (Nat.not_lt_zero _)⟩
  | 0, k, l + 1, h, _, _ => by omega
  | m + 1, k, l + 1, h, hS, hk => by
    have e := stt_eq hn hg ho hS
    rcases stt_step hS with h1 | h1
    · have e1 := stt_eq hn hg ho h1
      have el : lam g n k = l + 1 := by
        unfold lam
        rw [Nat.succ_mul] at e1
        omega
      have hkw : k < widG g n := by
        rcases Nat.lt_or_ge k (widG g n) with h2 | h2
        · exact h2
        · have f1 : Msh (kin g n) n k = n := Msh_full hn h2
          have f2 : Msh (kin g n) n (k + 1) = n := Msh_full hn (by unfold widG at h2; omega)
          unfold lam at el
          have el' : Msh (kin g n) n (k + 1) - Msh (kin g n) n k = l + 1 := el
          omega
      have ih := stair hn hg ho m (k + 1) (l + 1) (by omega) h1 hkw
      refine ⟨fun i h2 h3 => ?_, fun i h2 h3 => ?_, fun j hj => ?_⟩
      · by_cases e : i = k
        · subst e; omega
        · exact ih.most i (by omega) h3
      · by_cases e : i = k
        · subst e; have := ih.most (i + 1) (by omega) h3; omega
        · exact ih.fall i (by omega) h3
      · rw [ih.turn j hj]
        have : cnt2 (fun i => decide (k ≤ i) && decide (j + 1 ≤ lam g n i)) (widG g n) = cnt2 (fun i => decide (k + 1 ≤ i) && decide (j + 1 ≤ lam g n i)) (widG g n) + 1 := by
          rw [cnt2_remove (j := k) (widG g n) hkw (by simp; omega)]
          congr 1
          refine cnt2_congr _ fun i _ => ?_
          by_cases e : i = k
          · subst e
            rw [decide_eq_false (show ¬ i + 1 ≤ i by omega)]; simp
          · have : decide (k ≤ i) = decide (k + 1 ≤ i) := by rw [decide_eq_decide]; omega
            simp [this, e]
        omega
    · have e1 := stt_eq hn hg ho h1
      have em : mu g n l = k := by
        unfold mu
        rw [Nat.mul_succ] at e
        omega
      have ih := stair hn hg ho m k l (by omega) h1 hk
      refine ⟨fun i h2 h3 => ?_, ih.fall, fun j hj => ?_⟩
      · have := ih.most i h2 h3; omega
      · by_cases e : j = l
        · subst e
          rw [em, cnt2_none (widG g n) fun i hi => ?_]
          · rfl
          · rw [Bool.and_eq_false_iff]
            by_cases hki : k ≤ i
            · have := ih.most i hki hi
              exact .inr (by simp; omega)
            · exact .inl (by simp; omega)
        · exact ih.turn j (by omega)
theorem widG_le (hn : n ≤ 10) : widG g n ≤ n := fr_top hn
theorem hei_le (hn : n ≤ 10) : hei g n ≤ n := fr_top hn
theorem greene (hn : n ≤ 10) (hg : Sm n n g) (ho : Ord n g) : Stair g n 0 (hei g n) := stair hn hg ho _ 0 _ (Nat.le_refl _) (stt_start hn hg ho) (Nat.zero_le _)
theorem greene_turn (hn : n ≤ 10) (hg : Sm n n g) (ho : Ord n g) {j : Nat} (hj : j < hei g n) : mu g n j = cnt2 (fun i => decide (j + 1 ≤ lam g n i)) (widG g n) := by
  rw [(greene hn hg ho).turn j hj, Nat.zero_add]
  exact cnt2_congr _ fun i _ => by simp
/-- All that they bring. -/
theorem lam_sum (hn : n ≤ 10) (hg : Sm n n g) (ho : Ord n g) : ∀ k, k ≤ widG g n → smI (fun i => (lam g n i : Nat)) k = (cK g n k : Nat)
  | 0, _ => by
    have : cK g n 0 = 0 := (kin_foe hn hg ho).Msh_zero
    rw [this]; rfl
  | k + 1, hk => by
    rw [smI, lam_sum hn hg ho k (by omega)]
    have := cK_more (kin_foe hn hg ho) (show k < frs (kin g n) n (pw n - 1) by unfold widG at hk; omega)
    unfold lam
    show ((Msh (kin g n) n k : Nat) : Int) + ((Msh (kin g n) n (k + 1) - Msh (kin g n) n k : Nat) : Int) = (Msh (kin g n) n (k + 1) : Nat)
    omega
theorem lam_all (hn : n ≤ 10) (hg : Sm n n g) (ho : Ord n g) : smI (fun i => (lam g n i : Nat)) (widG g n) = n := by
  rw [lam_sum hn hg ho _ (Nat.le_refl _)]
  have : Msh (kin g n) n (widG g n) = n := Msh_full hn (Nat.le_refl _)
  show ((Msh (kin g n) n (widG g n) : Nat) : Int) = n
  rw [this]
/-- The most of the first k. -/
def mxL (g : Nat → Nat) (n : Nat) : Nat → Nat
  | 0 => 0
  | k + 1 => max (mxL g n k) (lam g n k)
theorem mxL_ge {i : Nat} : ∀ k, i < k → lam g n i ≤ mxL g n k
  | 0, h => absurd h (Nat.not_lt_zero _)
  | k + 1, h => by
    unfold mxL
    by_cases e : i = k
    · subst e; exact Nat.le_max_right _ _
    · exact Nat.le_trans (mxL_ge k (by omega)) (Nat.le_max_left _ _)
theorem mxL_le {b : Nat} : ∀ k, (∀ i, i < k → lam g n i ≤ b) → mxL g n k ≤ b
  | 0, _ => Nat.zero_le _
  | k + 1, h => Nat.max_le.2 ⟨mxL_le k fun i hi => h i (by omega), h k (by omega)⟩
theorem mxL_top (hn : n ≤ 10) (hg : Sm n n g) (ho : Ord n g) : mxL g n (widG g n) = hei g n := by
  have G := greene hn hg ho
  refine Nat.le_antisymm (mxL_le _ fun i hi => G.most i (Nat.zero_le _) hi) ?_
  rcases Nat.eq_zero_or_pos (hei g n) with h | h
  · omega
  · have h1 := mu_pos hn hg (g := g) (n := n) (i := hei g n - 1) (by omega)
    rw [greene_turn hn hg ho (by omega)] at h1
    have : ∃ i, i < widG g n ∧ hei g n ≤ lam g n i := by
      refine Classical.byContradiction fun hno => ?_
      rw [cnt2_none (widG g n) fun i hi => ?_] at h1
      · omega
      · rw [decide_eq_false_iff_not]; exact fun h2 => hno ⟨i, hi, by omega⟩
    obtain ⟨i, hi, h2⟩ := this
    exact Nat.le_trans h2 (mxL_ge _ hi)
end
end Go.Proofs.YtadocffdneiaaaaDoor
