/-
  Renumbered, an order has the same form; of five points at most the form is one of all: plain facts, some reckoned. No Go text here. Conditions: six points at most.
-/
import Derived.Test.YtfbdgdphpdhcpaaDoorGqE
namespace Go.Proofs.YtfbdgdphpdhcpaaDoor
open Go.RowKit
set_option maxRecDepth 100000

theorem stBit (P : Nat → Bool) : ∀ k i, (setBy P k).testBit i = (decide (i < k) && P i)
  | 0, i => by simp [setBy]
  | k + 1, i => by
    have ih := stBit P k i
    cases h : P k
    · rw [setBy_no h, ih]
      by_cases e : i = k
      · subst e; simp [h]
      · have : decide (i < k + 1) = decide (i < k) := by simp; omega
        rw [this]
    · rw [setBy_yes h, ← or_pw_add (setBy_lt P k), Nat.testBit_or, ih, pw_bit]
      by_cases e : i = k
      · subst e; simp [h]
      · have : decide (i < k + 1) = decide (i < k) := by simp; omega
        rw [this]
        have : decide (k = i) = false := by simp; omega
        rw [this]; simp
theorem prt_bit {g : Nat → Nat} {L : List Nat} {n : Nat} (hL : L.length = n) (i t : Nat) : (prt g L i).testBit t = (decide (t < n) && (g (nth L i)).testBit (nth L t)) := by
  unfold prt
  rw [stBit, hL]
theorem prt_small {g : Nat → Nat} {L : List Nat} {n : Nat} (hL : L.length = n) (i : Nat) : prt g L i < pw n := by
  unfold prt
  rw [hL]
  exact setBy_lt _ n
/-- A list of all points, each once. -/
def IsP (n : Nat) (y : List Nat) : Prop := y.length = n ∧ (∀ k, k < n → nth y k < n) ∧ y.Nodup
theorem nth_eq {y : List Nat} {k : Nat} (h : k < y.length) : nth y k = y[k] := by simp [nth, h]
theorem IsP.inj {n : Nat} {y : List Nat} (h : IsP n y) {i j : Nat} (hi : i < n) (hj : j < n) (e : nth y i = nth y j) : i = j := by
  obtain ⟨h1, _, h3⟩ := h
  rw [nth_eq (by omega), nth_eq (by omega)] at e
  have hp := List.pairwise_iff_getElem.1 h3
  rcases Nat.lt_trichotomy i j with h | h | h
  · exact absurd e (hp i j (by omega) (by omega) h)
  · exact h
  · exact absurd e.symm (hp j i (by omega) (by omega) h)
theorem isP_of {n : Nat} {y : List Nat} (h1 : y.length = n) (h2 : ∀ k, k < n → nth y k < n) (h3 : ∀ i j, i < j → j < n → nth y i ≠ nth y j) : IsP n y := by
  refine ⟨h1, h2, List.pairwise_iff_getElem.2 fun i j hi hj hij => ?_⟩
  rw [← nth_eq hi, ← nth_eq hj]
  exact h3 i j hij (by omega)
theorem pts_mem {s x : Nat} (h : s.testBit x = true) : ∀ n, x < n → x ∈ pts s n
  | 0, h0 => absurd h0 (Nat.not_lt_zero _)
  | n + 1, hn => by
    by_cases e : x = n
    · subst e; rw [pts_yes h]; simp
    · have := pts_mem h n (by omega)
      cases hb : s.testBit n
      · rw [pts_no hb]; exact this
      · rw [pts_yes hb]; exact List.mem_append.2 (.inl this)
theorem per_mem : ∀ (q p : List Nat) (s : Nat), s < 1024 → q.Nodup → (∀ x ∈ q, s.testBit x = true) → p ++ q ∈ per q.length p s
  | [], p, s, _, _, _ => by simp [per]
  | x :: q, p, s, hs, hn, hb => by
    obtain ⟨h1, h2⟩ := List.nodup_cons.1 hn
    have hx := hb x (by simp)
    have hx10 : x < 10 := bit_of_lt (n := 10) hs hx
    have hlk := (lack_pc hs hx10 hx).1
    rw [List.length_cons, per, List.mem_flatMap]
    refine ⟨x, pts_mem hx 10 hx10, ?_⟩
    have := per_mem q (p ++ [x]) (lack s (pw x)) hlk h2 fun y hy => by
      have hpx := pw_small x (by omega)
      rw [lack_bit _ _ _ (by omega) (by omega), hb y (by simp [hy]), pw_bit]
      have : x ≠ y := fun e => h1 (e ▸ hy)
      simp [this]
    simpa using this
theorem per_all {n : Nat} (hn : n ≤ 10) {y : List Nat} (h : IsP n y) : y ∈ per n [] (pw n - 1) := by
  obtain ⟨h1, h2, h3⟩ := h
  have := per_mem y [] (pw n - 1) (pc_all hn).1 h3 fun x hx => by
    obtain ⟨i, hi, rfl⟩ := List.mem_iff_getElem.1 hx
    have := h2 i (by omega)
    rw [nth_eq hi] at this
    unfold pw
    rw [Nat.testBit_two_pow_sub_one]
    simpa using this
  rw [h1] at this
  simpa using this
theorem isP_per {n : Nat} (hn : n ≤ 10) {y : List Nat} (h : y ∈ per n [] (pw n - 1)) : IsP n y := per_good hn h
/-- One list behind another. -/
def cmpP (L x : List Nat) : List Nat := x.map (nth L)
theorem nth_cmp (L : List Nat) {x : List Nat} {k : Nat} (h : k < x.length) : nth (cmpP L x) k = nth L (nth x k) := by
  unfold cmpP
  rw [nth_eq (by simpa using h), List.getElem_map, nth_eq h]
theorem IsP.cmp {n : Nat} {L x : List Nat} (hL : IsP n L) (hx : IsP n x) : IsP n (cmpP L x) := by
  have h0 : x.length = n := hx.1
  refine isP_of (by simp [cmpP, h0]) (fun k hk => ?_) fun i j hij hj e => ?_
  · rw [nth_cmp L (by omega)]; exact hL.2.1 _ (hx.2.1 k hk)
  · rw [nth_cmp L (by omega), nth_cmp L (by omega)] at e
    have := hx.inj (by omega) hj (hL.inj (hx.2.1 i (by omega)) (hx.2.1 j hj) e)
    omega
theorem prt_prt {g : Nat → Nat} {n : Nat} {L x : List Nat} (hL : L.length = n) (hx : IsP n x) {k : Nat} (hk : k < n) : prt (prt g L) x k = prt g (cmpP L x) k := by
  have h0 : x.length = n := hx.1
  have h1 : (cmpP L x).length = n := by simp [cmpP, h0]
  refine Nat.eq_of_testBit_eq fun t => ?_
  rw [prt_bit h0, prt_bit h1, prt_bit hL]
  by_cases ht : t < n
  · rw [nth_cmp L (by omega), nth_cmp L (by omega)]
    simp [ht, hx.2.1 t ht]
  · simp [ht]
theorem perm_has : ((List.range 7).all fun n => (per n [] (pw n - 1)).all fun y => (List.range n).all fun k => y.contains k) = true := by decide +kernel
theorem IsP.has {n : Nat} (hn : n ≤ 6) {y : List Nat} (h : IsP n y) {k : Nat} (hk : k < n) : k ∈ y := by
  have h1 := List.all_eq_true.1 perm_has n (List.mem_range.2 (by omega))
  have h2 := List.all_eq_true.1 (List.all_eq_true.1 h1 y (per_all (by omega) h)) k (List.mem_range.2 hk)
  simpa using h2
/-- The list that undoes one. -/
def invP (n : Nat) (L : List Nat) : List Nat := (List.range n).map fun k => L.idxOf k
theorem nth_inv {n : Nat} (hn : n ≤ 6) {L : List Nat} (hL : IsP n L) {k : Nat} (hk : k < n) : nth (invP n L) k < n ∧ nth L (nth (invP n L) k) = k := by
  have hm := hL.has hn hk
  have e : nth (invP n L) k = L.idxOf k := by
    unfold invP
    rw [nth_eq (by simpa using hk), List.getElem_map, List.getElem_range]
  have hlt : L.idxOf k < L.length := List.idxOf_lt_length_of_mem hm
  rw [e]
  refine ⟨by rw [← hL.1]; exact hlt, ?_⟩
  rw [nth_eq hlt]
  exact List.getElem_idxOf hlt
theorem IsP.inv {n : Nat} (hn : n ≤ 6) {L : List Nat} (hL : IsP n L) : IsP n (invP n L) := by
  refine isP_of (by simp [invP]) (fun k hk => (nth_inv hn hL hk).1) fun i j hij hj e => ?_
  have h1 := (nth_inv hn hL (k := i) (by omega)).2
  have h2 := (nth_inv hn hL hj).2
  rw [e] at h1
  omega
theorem cmp_inv {n : Nat} (hn : n ≤ 6) {L x : List Nat} (hL : IsP n L) (hx : IsP n x) : cmpP L (cmpP (invP n L) x) = x := by
  have h0 : x.length = n := hx.1
  refine List.ext_getElem (by simp [cmpP]) fun i h1 h2 => ?_
  rw [← nth_eq h1, ← nth_eq h2, nth_cmp L (by simpa [cmpP] using h2), nth_cmp _ h2]
  exact (nth_inv hn hL (hx.2.1 i (by omega))).2
/-- Nothing is less than the first least. -/
theorem bst_low {g : Nat → Nat} {n : Nat} : ∀ (l : List (List Nat)) (z x : List Nat), l.foldl (bstS g n) (some z) = some x → ¬ cmpF (prt g z) (prt g x) n 0 < 0 ∧ ∀ y ∈ l, ¬ cmpF (prt g y) (prt g x) n 0 < 0
  | [], z, x, h => by
    cases h
    exact ⟨cmp_irr _ _, fun y hy => by simp at hy⟩
  | a :: l, z, x, h => by
    rw [List.foldl_cons] at h
    unfold bstS at h
    simp only at h
    split at h
    · rename_i haz
      obtain ⟨h1, h2⟩ := bst_low l a x h
      refine ⟨fun hz => h1 (cmp_trans haz hz), fun y hy => ?_⟩
      rcases List.mem_cons.1 hy with rfl | hy
      · exact h1
      · exact h2 y hy
    · rename_i haz
      obtain ⟨h1, h2⟩ := bst_low l z x h
      refine ⟨h1, fun y hy => ?_⟩
      rcases List.mem_cons.1 hy with rfl | hy
      · intro hyx
        rcases cmp_tri (prt g y) (prt g z) n with h3 | h3 | h3
        · exact haz h3
        · exact h1 (cmp_trans h3 hyx)
        · exact h1 (cmp_congr h3 (fun _ _ => rfl) hyx)
      · exact h2 y hy
theorem bst_min {g : Nat → Nat} {n : Nat} {l : List (List Nat)} {x : List Nat} (h : bst g n l = some x) {y : List Nat} (hy : y ∈ l) : ¬ cmpF (prt g y) (prt g x) n 0 < 0 := by
  unfold bst at h
  cases l with
  | nil => simp at hy
  | cons a l =>
    rw [List.foldl_cons] at h
    obtain ⟨h1, h2⟩ := bst_low l a x h
    rcases List.mem_cons.1 hy with rfl | hy
    · exact h1
    · exact h2 y hy
/-- Renumbered, the form is the same. -/
theorem form_same {g : Nat → Nat} {n : Nat} (hn : n ≤ 6) {L x x' : List Nat} (hL : IsP n L) (hx : bst g n (per n [] (pw n - 1)) = some x) (hx' : bst (prt g L) n (per n [] (pw n - 1)) = some x') : ∀ k, k < n → prt (prt g L) x' k = prt g x k := by
  have px := isP_per (by omega) (bst_mem hx)
  have px' := isP_per (by omega) (bst_mem hx')
  rcases cmp_tri (prt (prt g L) x') (prt g x) n with h | h | h
  · refine absurd (cmp_congr (fun i hi => prt_prt hL.1 px' hi) (fun _ _ => rfl) h) (bst_min hx (per_all (by omega) (hL.cmp px')))
  · have py : IsP n (cmpP (invP n L) x) := (hL.inv hn).cmp px
    refine absurd (cmp_congr (fun i hi => ?_) (fun _ _ => rfl) h) (bst_min hx' (per_all (by omega) py))
    rw [prt_prt hL.1 py hi, cmp_inv hn hL px]
  · exact h
/-- Orders, bit by bit. -/
structure PO (n : Nat) (f : Nat → Nat) : Prop where
  sm : ∀ k, k < n → f k < pw n
  ir : ∀ k, k < n → (f k).testBit k = false
  tr : ∀ i j k, i < n → j < n → k < n → (f k).testBit j = true → (f j).testBit i = true → (f k).testBit i = true
theorem PO.prt {n : Nat} {f : Nat → Nat} (h : PO n f) {L : List Nat} (hL : IsP n L) : PO n (prt f L) where
  sm k _ := prt_small hL.1 k
  ir k hk := by rw [prt_bit hL.1, h.ir _ (hL.2.1 k hk)]; simp
  tr i j k hi hj hk h1 h2 := by
    rw [prt_bit hL.1] at h1 h2 ⊢
    simp only [Bool.and_eq_true, decide_eq_true_eq] at h1 h2 ⊢
    exact ⟨hi, h.tr _ _ _ (hL.2.1 i hi) (hL.2.1 j hj) (hL.2.1 k hk) h1.2 h2.2⟩
end Go.Proofs.YtfbdgdphpdhcpaaDoor
