/-
  The list of an order's ideals: it rises, from that of no points to that of all; sums over it. Plain facts: no Go text here. Conditions: at most ten points.
-/
import Derived.Test.YtncjlfhgenmheabDoorListP
import Derived.Test.YtncjlfhgenmheabDoorApartP
namespace Go.Proofs.YtncjlfhgenmheabDoor
open Go.RowKit

theorem fil_mem (I : Nat → Bool) : ∀ P x, x ∈ fil I P ↔ x < P ∧ I x = true
  | 0, x => by simp [fil]
  | P + 1, x => by
    cases h : I P
    · rw [fil_no h, fil_mem I P x]
      constructor
      · rintro ⟨h1, h2⟩; exact ⟨by omega, h2⟩
      · rintro ⟨h1, h2⟩
        refine ⟨?_, h2⟩
        rcases Nat.lt_or_ge x P with h3 | h3
        · exact h3
        · rw [show x = P by omega, h] at h2; cases h2
    · rw [fil_yes h, List.mem_append, fil_mem I P x, List.mem_singleton]
      constructor
      · rintro (⟨h1, h2⟩ | rfl)
        · exact ⟨by omega, h2⟩
        · exact ⟨by omega, h⟩
      · rintro ⟨h1, h2⟩
        rcases Nat.lt_or_ge x P with h3 | h3
        · exact .inl ⟨h3, h2⟩
        · exact .inr (by omega)
theorem fil_sorted (I : Nat → Bool) : ∀ P, (fil I P).Pairwise (· < ·)
  | 0 => List.Pairwise.nil
  | P + 1 => by
    cases h : I P
    · rw [fil_no h]; exact fil_sorted I P
    · rw [fil_yes h, List.pairwise_append]
      refine ⟨fil_sorted I P, List.pairwise_singleton _ _, fun x hx y hy => ?_⟩
      rw [List.mem_singleton] at hy
      rw [hy]; exact ((fil_mem I P x).1 hx).1
theorem nth_up {l : List Nat} (h : l.Pairwise (· < ·)) {i j : Nat} (hij : i < j) (hj : j < l.length) : nth l i < nth l j := by
  have := List.pairwise_iff_getElem.1 h i j (by omega) hj hij
  unfold nth
  rw [List.getD_eq_getElem?_getD, List.getElem?_eq_getElem (by omega), List.getD_eq_getElem?_getD, List.getElem?_eq_getElem hj]
  exact this
theorem nth_left {l m : List Nat} {k : Nat} (h : k < l.length) : nth (l ++ m) k = nth l k := by
  unfold nth
  rw [List.getD_eq_getElem?_getD, List.getD_eq_getElem?_getD, List.getElem?_append_left h]
theorem nth_end (l : List Nat) (x : Nat) : nth (l ++ [x]) l.length = x := by
  unfold nth
  simp
theorem fil_first {I : Nat → Bool} (h0 : I 0 = true) : ∀ P, 0 < P → 0 < (fil I P).length ∧ nth (fil I P) 0 = 0
  | 0, h => absurd h (Nat.lt_irrefl _)
  | 1, _ => by rw [fil_yes h0]; simp [fil, nth]
  | P + 2, _ => by
    have ih := fil_first h0 (P + 1) (by omega)
    cases h : I (P + 1)
    · rw [fil_no h]; exact ih
    · rw [fil_yes h, nth_left ih.1]; exact ⟨by simp, ih.2⟩
/-- Sums over all of the list, and over what lies ahead of a place. -/
theorem sum_fil (I : Nat → Bool) (G : Nat → Int) : ∀ P, sumI (fun j => G (nth (fil I P) j)) (fil I P).length = sumI (fun x => if I x = true then G x else 0) P
  | 0 => rfl
  | P + 1 => by
    rw [sumI]
    cases h : I P
    · rw [fil_no h, sum_fil I G P]; simp
    · rw [fil_yes h, List.length_append, List.length_singleton, sumI, nth_end, ← sum_fil I G P]
      rw [if_pos rfl]
      congr 1
      exact sumI_congr _ fun j hj => by rw [nth_left hj]
theorem idl_none (g : Nat → Nat) (n : Nat) : idlTo g 0 n = true := (idlTo_iff g 0 n).2 fun p _ h => by simp at h
theorem idl_all {g : Nat → Nat} {n : Nat} (hn : n ≤ 10) (hg : ∀ k, k < n → g k < pw n) : idlTo g (pw n - 1) n = true := (idlTo_iff g _ n).2 fun p hp _ => by
  have h1 := pw_le n hn
  have h2 := hg p hp
  refine (lack_zero _ _ (by omega) (by omega)).2 fun i hi => ?_
  have hin := bit_of_lt (show g p < 2 ^ n from h2) hi
  have := Nat.testBit_two_pow_sub_one n i
  show (2 ^ n - 1).testBit i = true
  rw [this]; simp [hin]
theorem idls_rise {g : Nat → Nat} {n : Nat} (hn : n ≤ 10) (hg : ∀ k, k < n → g k < pw n) : Rises n (idls g n) := by
  have hp := pw_pos n
  have h1 := fil_first (I := fun s => idlTo g s n) (idl_none g n) (pw n) hp
  have hm : ∀ i, i < (idls g n).length → nth (idls g n) i < pw n := fun i hi => ((fil_mem _ _ _).1 (nth_mem hi)).1
  refine ⟨h1.1, idls_len g n hn, fun i j hij hj => nth_up (fil_sorted _ _) hij hj, fun i hi => Nat.lt_of_lt_of_le (hm i hi) (pw_le n hn), hm, h1.2, ?_⟩
  obtain ⟨P, hP⟩ : ∃ P, pw n = P + 1 := ⟨pw n - 1, by omega⟩
  have e : idls g n = fil (fun s => idlTo g s n) P ++ [P] := by
    unfold idls
    rw [hP]
    refine fil_yes ?_
    have := idl_all hn hg
    rw [hP] at this
    exact this
  rw [e, List.length_append, List.length_singleton, Nat.add_sub_cancel, nth_end, hP, Nat.add_sub_cancel]
theorem idls_is {g : Nat → Nat} {n i : Nat} (hi : i < (idls g n).length) : nth (idls g n) i < pw n ∧ idlTo g (nth (idls g n) i) n = true := (fil_mem _ _ _).1 (nth_mem hi)

/-- A set that has all of another one, and is another one, has more points. -/
theorem pcn_mono {l s : Nat} (h : ∀ i, l.testBit i = true → s.testBit i = true) : ∀ k, pcn l k ≤ pcn s k
  | 0 => Nat.le_refl _
  | k + 1 => by
    have := pcn_mono h k
    rw [pcn, pcn]
    cases hl : l.testBit k
    · simp; split <;> omega
    · simp [h k hl]; omega
theorem pcn_less {l s : Nat} (h : ∀ i, l.testBit i = true → s.testBit i = true) {j : Nat} (h1 : l.testBit j = false) (h2 : s.testBit j = true) : ∀ k, j < k → pcn l k < pcn s k
  | 0, hk => absurd hk (Nat.not_lt_zero _)
  | k + 1, hk => by
    rw [pcn, pcn]
    by_cases e : j = k
    · subst e
      have := pcn_mono h j
      simp [h1, h2]; omega
    · have ih := pcn_less h h1 h2 k (by omega)
      cases hl : l.testBit k
      · simp; split <;> omega
      · simp [h k hl]; omega
theorem pc_less {l s : Nat} (hl : l < 1024) (hs : s < 1024) (h : lack l s = 0) (hne : l ≠ s) : pc l < pc s := by
  have h' := (lack_zero l s (by omega) (by omega)).1 h
  have : ∃ j, l.testBit j = false ∧ s.testBit j = true := Classical.byContradiction fun hno => hne (Nat.eq_of_testBit_eq fun i => by
    cases h1 : l.testBit i
    · cases h2 : s.testBit i
      · rfl
      · exact absurd ⟨i, h1, h2⟩ hno
    · rw [h' i h1])
  obtain ⟨j, h1, h2⟩ := this
  exact pcn_less h' h1 h2 10 (bit_of_lt (show s < 2 ^ 10 from hs) h2)
theorem pc_upto {s n : Nat} (hn : n ≤ 10) (hs : s < pw n) : pc s ≤ n := by
  have e := pcn_stop (s := s) (k := n) (fun j hj => Nat.testBit_lt_two_pow (Nat.lt_of_lt_of_le (show s < 2 ^ n from hs) (Nat.pow_le_pow_right (by decide) hj))) (10 - n)
  rw [show n + (10 - n) = 10 by omega] at e
  rw [pc, e]; exact pcn_le s n

section
variable (L : List Nat) (M : Nat → Bool)
/-- Ahead of a place, within it, and so that the layer may be. -/
def Qi (j i : Nat) : Bool := decide (j < i) && Qs M (nth L j) (nth L i)
/-- One at the first place, else nought. -/
def one0 (i : Nat) : Int := if i = 0 then 1 else 0
end
theorem sumI_cut {F : Nat → Int} {i : Nat} : ∀ m, i ≤ m → (∀ k, i ≤ k → k < m → F k = 0) → sumI F m = sumI F i
  | 0, h, _ => by rw [show i = 0 by omega]
  | m + 1, h, hz => by
    by_cases e : i = m + 1
    · rw [e]
    · rw [sumI, sumI_cut m (by omega) fun k h1 h2 => hz k h1 (by omega), hz m (by omega) (by omega)]; omega
theorem up1_cut {L : List Nat} {M : Nat → Bool} {f : Nat → Int} {i : Nat} (hi : i ≤ L.length) : up1 (Qi L M) L.length f i = sumI (fun j => if Qs M (nth L j) (nth L i) = true then f j else 0) i := by
  unfold up1
  rw [sumI_cut L.length hi fun k h1 _ => by simp [Qi]; omega]
  exact sumI_congr i fun j hj => by simp [Qi, hj]
theorem atI_stV {L : List Nat} {M : Nat → Bool} : ∀ k i, i < L.length → atI L M k i = stV (Qi L M) one0 L.length k i
  | 0, _, _ => rfl
  | k + 1, i, hi => by
    rw [stV, up1_cut (by omega), atI]
    exact sumI_congr i fun j hj => by rw [atI_stV k j (by omega)]
theorem rk_idl {n : Nat} {L : List Nat} {M : Nat → Bool} (hL : Rises n L) : Rk (Qi L M) L.length (fun i => pc (nth L i)) := fun j i hj hi h => by
  simp only [Qi, Qs, Bool.and_eq_true, decide_eq_true_eq] at h
  exact pc_less (hL.lt j hj) (hL.lt i hi) h.2.1 (by have := hL.up j i h.1 hi; omega)
end Go.Proofs.YtncjlfhgenmheabDoor
