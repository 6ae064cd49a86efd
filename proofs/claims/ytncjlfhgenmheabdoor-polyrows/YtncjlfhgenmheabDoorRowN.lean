/-
  There is one list of ideals that goes up as often as there are points for each row. Plain facts: no Go text here. Conditions: an order of at most ten points.
-/
import Derived.Test.YtncjlfhgenmheabDoorPBeg
import Derived.Test.YtncjlfhgenmheabDoorCounts
namespace Go.Proofs.YtncjlfhgenmheabDoor
open Go.RowKit

theorem castSum (F : Nat → Nat) : ∀ n, ((sumTo F n : Nat) : Int) = sumI (fun k => (F k : Int)) n
  | 0 => rfl
  | n + 1 => by rw [sumTo, sumI, ← castSum F n]; omega
theorem oneSum {F : Nat → Int} {j : Nat} : ∀ n, j < n → (∀ k, k < n → k ≠ j → F k = 0) → sumI F n = F j
  | 0, h, _ => absurd h (Nat.not_lt_zero _)
  | n + 1, h, hz => by
    rw [sumI]
    by_cases e : j = n
    · subst e
      rw [sumI_congr (G := fun _ => 0) j fun k hk => hz k (by omega) (by omega), sumI_zero]; omega
    · rw [oneSum n (by omega) fun k hk he => hz k (by omega) he, hz n (by omega) (fun e' => e e'.symm)]; omega
theorem pw_inj {x y : Nat} (h : pw y = pw x) : y = x := by
  have e := congrArg (fun t => t.testBit x) h
  simp only [pw_bit] at e
  simpa using e
/-- The ideals that have all of S and one point more. -/
def nxP (g : Nat → Nat) (n S T : Nat) : Bool := idlTo g T n && decide (lack S T = 0) && decide (pc T = pc S + 1)
theorem may_nx {g : Nat → Nat} {n S x : Nat} (hn : n ≤ 10) (hg : ∀ k, k < n → g k < pw n) (hS : S < pw n) (IS : idlTo g S n = true) (hx : x < n) (h : may g S x = true) : S + pw x < pw n ∧ nxP g n S (S + pw x) = true := by
  have hb := may_out h
  have hp := pw_le n hn
  have hl : lack (g x) S = 0 := by
    simp only [may, Bool.and_eq_true, decide_eq_true_eq] at h; exact h.2
  have hgx := hg x hx
  have hlt2 : S + pw x < pw n := add_lt hS hx hb
  have hbit := fun k => add_bit hb k
  refine ⟨hlt2, ?_⟩
  unfold nxP
  simp only [Bool.and_eq_true, decide_eq_true_eq]
  refine ⟨⟨(idlTo_iff g _ n).2 fun p hp1 hp2 => (lack_zero _ _ (by have := hg p hp1; omega) (by omega)).2 fun i hi => ?_, (lack_zero _ _ (by omega) (by omega)).2 fun i hi => by rw [hbit, hi]; simp⟩, ?_⟩
  · rw [hbit]
    rw [hbit] at hp2
    by_cases e : x = p
    · subst e
      have := (lack_zero _ _ (by omega) (by omega)).1 hl i hi
      rw [this]; simp
    · have hsp : S.testBit p = true := by simpa [e] using hp2
      have := (lack_zero _ _ (by have := hg p hp1; omega) (by omega)).1 ((idlTo_iff g S n).1 IS p hp1 hsp) i hi
      rw [this]; simp
  · rw [Nat.add_comm, pc_plus hb (by omega)]
theorem nx_may {g : Nat → Nat} {n S T : Nat} (hn : n ≤ 10) (hg : ∀ k, k < n → g k < pw n) (ho : Ord n g) (hS : S < pw n) (hT : T < pw n) (h : nxP g n S T = true) : ∃ x, x < n ∧ may g S x = true ∧ S + pw x = T := by
  have hp := pw_le n hn
  unfold nxP at h
  simp only [Bool.and_eq_true, decide_eq_true_eq] at h
  obtain ⟨⟨h1, h2⟩, h3⟩ := h
  have hsub := (lack_zero S T (by omega) (by omega)).1 h2
  obtain ⟨x, hxT, hxS⟩ : ∃ x, T.testBit x = true ∧ S.testBit x = false := Classical.byContradiction fun hno => by
    have : S = T := Nat.eq_of_testBit_eq fun i => by
      cases hs : S.testBit i
      · cases ht : T.testBit i
        · rfl
        · exact absurd ⟨i, ht, hs⟩ hno
      · rw [hsub i hs]
    rw [this] at h3; omega
  have hx : x < n := bit_of_lt (show T < 2 ^ n from hT) hxT
  have hlt := add_lt hS hx hxS
  have hbit := fun k => add_bit hxS k
  have hle : lack (S + pw x) T = 0 := (lack_zero _ _ (by omega) (by omega)).2 fun i hi => by
    rw [hbit] at hi
    by_cases e : x = i
    · rw [← e]; exact hxT
    · exact hsub i (by simpa [e] using hi)
  have heq : S + pw x = T := Classical.byContradiction fun hne => by
    have := pc_less (by omega) (by omega) hle hne
    rw [Nat.add_comm, pc_plus hxS (by omega)] at this
    omega
  refine ⟨x, hx, may_yes hxS ?_, heq⟩
  have hgx := hg x hx
  refine (lack_zero _ _ (by omega) (by omega)).2 fun i hi => ?_
  have hiT := (lack_zero _ _ (by omega) (by omega)).1 ((idlTo_iff g T n).1 h1 x hx hxT) i hi
  rw [← heq, hbit] at hiT
  by_cases e : x = i
  · rw [← e, (ho x hx).1] at hi; cases hi
  · simpa [e] using hiT
theorem ways_next {g : Nat → Nat} {n S : Nat} (hn : n ≤ 10) (hg : ∀ k, k < n → g k < pw n) (ho : Ord n g) (hS : S < pw n) (IS : idlTo g S n = true) (hne : S + 1 < pw n) :
    ((ways g n S : Nat) : Int) = sumI (fun T => if nxP g n S T = true then ((ways g n T : Nat) : Int) else 0) (pw n) := by
  rw [ways_eq hne, castSum]
  have e1 : ∀ x, x < n → ((goes g n S x : Nat) : Int) = sumI (fun T => if may g S x = true ∧ S + pw x = T then ((ways g n T : Nat) : Int) else 0) (pw n) := fun x hx => by
    cases hm : may g S x
    · rw [goes_no hm]
      exact ((sumI_congr _ fun T _ => by simp).trans (sumI_zero _)).symm
    · rw [goes_yes hm, oneSum (j := S + pw x) _ (may_nx hn hg hS IS hx hm).1 fun T _ he => if_neg fun h => he h.2.symm, if_pos ⟨rfl, rfl⟩]
  rw [sumI_congr n e1, sumI_swap (fun x T => if may g S x = true ∧ S + pw x = T then ((ways g n T : Nat) : Int) else 0)]
  refine sumI_congr _ fun T hT => ?_
  cases hp : nxP g n S T
  · refine (sumI_congr (G := fun _ => 0) n fun x hx => if_neg fun h => ?_).trans ((sumI_zero n).trans (by simp))
    have := (may_nx hn hg hS IS hx h.1).2
    rw [h.2, hp] at this; cases this
  · obtain ⟨x, hx, hm, e⟩ := nx_may hn hg ho hS hT hp
    rw [oneSum (j := x) n hx fun y hy he => if_neg fun h => he (pw_inj (by have h1 := h.2; omega)), if_pos ⟨hm, e⟩]
    simp
theorem pc_full {n : Nat} (hn : n ≤ 10) : pc (pw n - 1) = n := by
  have all : ∀ m, m ≤ n → pcn (pw n - 1) m = m := by
    intro m
    induction m with
    | zero => intro _; rfl
    | succ m ih =>
      intro hm
      rw [pcn, ih (by omega), if_pos (all_bit (by omega))]
  have st := pcn_stop (s := pw n - 1) (k := n) (fun j hj => by
    have := Nat.testBit_two_pow_sub_one n j
    show (2 ^ n - 1).testBit j = false
    rw [this]; simp; omega) (10 - n)
  rw [show n + (10 - n) = 10 by omega, all n (Nat.le_refl _)] at st
  exact st
theorem full_of {n T : Nat} (hn : n ≤ 10) (hT : T < pw n) (h : pc T = n) : T = pw n - 1 := Classical.byContradiction fun hne => by
  have hp := pw_le n hn
  have h0 := pw_pos n
  have := pc_less (l := T) (s := pw n - 1) (by omega) (by omega) ((lack_zero _ _ (by omega) (by omega)).2 fun i hi => all_bit (bit_of_lt (show T < 2 ^ n from hT) hi)) hne
  rw [pc_full hn] at this; omega
theorem sum_ids (g : Nat → Nat) (n : Nat) (G : Nat → Int) : sumI (fun j => G (nth (idls g n) j)) (idls g n).length = sumI (fun T => if idlTo g T n = true then G T else 0) (pw n) := sum_fil (fun s => idlTo g s n) G (pw n)
theorem rows_sum {g : Nat → Nat} {n : Nat} (hn : n ≤ 10) (hg : ∀ k, k < n → g k < pw n) (ho : Ord n g) : ∀ k, k ≤ n →
    ((ways g n 0 : Nat) : Int) = sumI (fun i => if pc (nth (idls g n) i) = k then atI (idls g n) (fun _ => true) k i * ((ways g n (nth (idls g n) i) : Nat) : Int) else 0) (idls g n).length
  | 0, _ => by
    have hL := idls_rise hn hg
    rw [oneSum (j := 0) _ hL.pos fun i hi he => by
      refine if_neg fun h => ?_
      have h1 := (pc_none hn (hL.ltp i hi)).1 h
      have h2 := hL.up 0 i (by omega) hi
      omega]
    rw [hL.fst, if_pos ((pc_none hn (pw_pos n)).2 rfl)]
    simp [atI]
  | k + 1, hk => by
    have hL := idls_rise hn hg
    rw [rows_sum hn hg ho k (by omega)]
    have e1 : ∀ i, i < (idls g n).length → (if pc (nth (idls g n) i) = k then atI (idls g n) (fun _ => true) k i * ((ways g n (nth (idls g n) i) : Nat) : Int) else 0)
        = sumI (fun j => if Qi (idls g n) (fun _ => true) i j = true ∧ pc (nth (idls g n) j) = k + 1 then atI (idls g n) (fun _ => true) k i * ((ways g n (nth (idls g n) j) : Nat) : Int) else 0) (idls g n).length := fun i hi => by
      obtain ⟨hS, IS⟩ := idls_is hi
      by_cases hpc : pc (nth (idls g n) i) = k
      · rw [if_pos hpc]
        have hne : nth (idls g n) i + 1 < pw n := by
          rcases Nat.lt_or_ge (nth (idls g n) i + 1) (pw n) with h | h
          · exact h
          · have e : nth (idls g n) i = pw n - 1 := by omega
            rw [e, pc_full hn] at hpc; omega
        rw [ways_next hn hg ho hS IS hne, ← sumI_mul]
        have e2 : sumI (fun T => atI (idls g n) (fun _ => true) k i * (if nxP g n (nth (idls g n) i) T = true then ((ways g n T : Nat) : Int) else 0)) (pw n)
            = sumI (fun T => if idlTo g T n = true then (if lack (nth (idls g n) i) T = 0 ∧ pc T = k + 1 then atI (idls g n) (fun _ => true) k i * ((ways g n T : Nat) : Int) else 0) else 0) (pw n) := sumI_congr _ fun T _ => by
          unfold nxP
          rw [hpc]
          cases idlTo g T n
          · simp
          · by_cases h1 : lack (nth (idls g n) i) T = 0 <;> by_cases h2 : pc T = k + 1 <;> simp [h1, h2]
        rw [e2, ← sum_ids g n (fun T => if lack (nth (idls g n) i) T = 0 ∧ pc T = k + 1 then atI (idls g n) (fun _ => true) k i * ((ways g n T : Nat) : Int) else 0)]
        refine sumI_congr _ fun j hj => ?_
        have key : (lack (nth (idls g n) i) (nth (idls g n) j) = 0 ∧ pc (nth (idls g n) j) = k + 1) ↔ (Qi (idls g n) (fun _ => true) i j = true ∧ pc (nth (idls g n) j) = k + 1) := by
          constructor
          · rintro ⟨h1, h2⟩
            refine ⟨?_, h2⟩
            have hij : i < j := by
              rcases Nat.lt_trichotomy i j with h | h | h
              · exact h
              · subst h; omega
              · have a := hL.up j i h hi
                have b : nth (idls g n) i ≤ nth (idls g n) j := by
                  refine Nat.le_of_not_lt fun hc => ?_
                  have := pc_less (hL.lt i hi) (hL.lt j hj) h1 (by omega)
                  have hb := (lack_zero _ _ (by have := hL.lt i hi; omega) (by have := hL.lt j hj; omega)).1 h1
                  have : nth (idls g n) i &&& nth (idls g n) j = nth (idls g n) i := Nat.eq_of_testBit_eq fun t => by
                    rw [Nat.testBit_and]
                    cases hx : (nth (idls g n) i).testBit t
                    · rfl
                    · rw [hb t hx]; rfl
                  have h3 := Nat.and_le_right (n := nth (idls g n) i) (m := nth (idls g n) j)
                  omega
                omega
            simp [Qi, Qs, hij, h1]
          · rintro ⟨h1, h2⟩
            simp only [Qi, Qs, Bool.and_eq_true, decide_eq_true_eq] at h1
            exact ⟨h1.2.1, h2⟩
        by_cases hc : lack (nth (idls g n) i) (nth (idls g n) j) = 0 ∧ pc (nth (idls g n) j) = k + 1
        · rw [if_pos hc, if_pos (key.1 hc)]
        · rw [if_neg hc, if_neg fun h => hc (key.2 h)]
      · rw [if_neg hpc]
        refine ((sumI_congr _ fun j hj => ?_).trans (sumI_zero _)).symm
        by_cases hc : Qi (idls g n) (fun _ => true) i j = true ∧ pc (nth (idls g n) j) = k + 1
        · rw [if_pos hc]
          have h1 := rk_idl hL (M := fun _ => true) i j hi hj hc.1
          simp only at h1
          have h2 : atI (idls g n) (fun _ => true) k i = 0 := by
            rw [atI_stV k i hi]
            exact stV_end (rk_idl hL) k i hi (by show pc _ < k; omega)
          rw [h2]; simp
        · rw [if_neg hc]
    rw [sumI_congr _ e1, sumI_swap (fun i j => if Qi (idls g n) (fun _ => true) i j = true ∧ pc (nth (idls g n) j) = k + 1 then atI (idls g n) (fun _ => true) k i * ((ways g n (nth (idls g n) j) : Nat) : Int) else 0)]
    refine sumI_congr _ fun j hj => ?_
    by_cases hpc : pc (nth (idls g n) j) = k + 1
    · rw [if_pos hpc, atI_stV (k + 1) j hj, stV, up1, Int.mul_comm, ← sumI_mul]
      refine sumI_congr _ fun i hi => ?_
      cases hq : Qi (idls g n) (fun _ => true) i j
      · simp
      · simp [hpc, atI_stV k i hi, Int.mul_comm]
    · rw [if_neg hpc]
      exact (sumI_congr _ fun i _ => by simp [hpc]).trans (sumI_zero _)
/-- One map onto as many points for each row. -/
theorem onto_rows {g : Nat → Nat} {n : Nat} (hn : n ≤ 10) (hg : ∀ k, k < n → g k < pw n) (ho : Ord n g) : onF g n n = ((ways g n 0 : Nat) : Int) := by
  have hL := idls_rise hn hg
  have hp := hL.pos
  rw [rows_sum hn hg ho n (Nat.le_refl _), oneSum (j := (idls g n).length - 1) _ (by omega) fun i hi he => by
    refine if_neg fun h => he ?_
    have h1 := full_of hn (hL.ltp i hi) h
    rcases Nat.lt_or_ge i ((idls g n).length - 1) with h2 | h2
    · have := hL.up i _ h2 (by omega)
      rw [hL.lst] at this; omega
    · omega]
  rw [hL.lst, if_pos (pc_full hn), ways_all]
  simp [onF]
theorem onto_none {g : Nat → Nat} {n : Nat} (hn : n ≤ 10) (hg : ∀ k, k < n → g k < pw n) : onF g n 0 = if n = 0 then 1 else 0 := by
  have hL := idls_rise hn hg
  have hp := hL.pos
  show (if (idls g n).length - 1 = 0 then (1 : Int) else 0) = _
  by_cases e : n = 0
  · subst e
    have : (idls g 0).length ≤ 1 := fil_len _ _
    rw [if_pos (by omega), if_pos rfl]
  · rw [if_neg e]
    refine if_neg fun h => ?_
    have h1 := hL.lst
    rw [h, hL.fst] at h1
    have : 2 ≤ pw n := by
      obtain ⟨m, rfl⟩ : ∃ m, n = m + 1 := ⟨n - 1, by omega⟩
      have := pw_pos m
      rw [pw_succ]; omega
    omega
end Go.Proofs.YtncjlfhgenmheabDoor
