/-
  Dilworth's theorem, and how few rows say an order of at most seven points. Plain facts: no Go text here. No condition.
-/
import Derived.Test.YtinblbkglkhjmaaDoorGreM
namespace Go.Proofs.YtinblbkglkhjmaaDoor

section
variable {n : Nat} {lt : Nat → Nat → Bool}
theorem nm_nmB (P : Nat → Bool) : ∀ k, nm P k = (nmB P k : Nat)
  | 0 => rfl
  | k + 1 => by
    have ih := nm_nmB P k
    unfold nm at *
    rw [smI, ih, nmB]
    split <;> simp
theorem dil_start (h : Srd n lt) : Stt n lt 0 n := by
  refine ⟨fun p => (nmB (fun q => lt p q) n : Nat), fun p => (nmB (fun q => lt p q) n : Nat) + 1, fun p => p,
    ⟨fun q hq => ?_, fun p _ => Int.natCast_nonneg _, fun p _ => Int.le_refl _, fun p q hp hq hlt => ?_⟩, ⟨fun p _ => .inr (.inl ⟨rfl, rfl⟩), fun p q _ _ e _ => e, fun q hq h => absurd rfl (h q hq), ?_⟩⟩
  · have h1 := nmB_lt (P := fun r => lt q r) (Q := fun _ => true) (c := q) n (fun _ _ _ => rfl) hq (h.irr q) rfl
    have h2 := nmB_bd (fun _ => true) n
    show ((nmB (fun r => lt q r) n : Nat) : Int) + 1 ≤ (n : Nat)
    omega
  · have h1 := nmB_lt (P := fun r => lt q r) (Q := fun r => lt p r) (c := q) n (fun r _ hr => h.tr p q r hlt hr) hq (h.irr q) hlt
    show ((nmB (fun r => lt q r) n : Nat) : Int) + 1 ≤ (nmB (fun r => lt p r) n : Nat)
    omega
  · have : nm (fun p => decide (p = n)) n = smI (fun _ => 0) n := smI_congr n fun p hp => if_neg (by simp; omega)
    rw [this, smI_const]; omega
theorem stt_few {k l : Nat} (h : Stt n lt k l) : k ≤ n := by
  obtain ⟨a, b, x, _, hF⟩ := h
  have := hF.k
  rw [nm_nmB] at this
  have := nmB_bd (fun p => decide (x p = n)) n
  omega
/-- Where chains end, and an antichain as great. -/
theorem dil_end : ∀ m k l, (n - k) + l ≤ m → Stt n lt k (l + 1) → ∃ k, Stt n lt k 1 ∧ Stt n lt k 0
  | m, k, l, hm, hS => by
    rcases stt_step hS with h1 | h1
    · have := stt_few h1
      match m, hm with
      | 0, hm => omega
      | m + 1, hm => exact dil_end m (k + 1) l (by omega) h1
    · match l, h1, hS, hm with
      | 0, h1, hS, _ => exact ⟨k, hS, h1⟩
      | l + 1, h1, _, hm =>
        match m, hm with
        | 0, hm => omega
        | m + 1, hm => exact dil_end m k l (by omega) h1
/-- An antichain of as many points as there are chains. -/
theorem stt_anti {k : Nat} (h : Stt n lt k 1) : ∃ A : Nat → Bool, (∀ a, A a = true → a < n) ∧ (∀ a b, A a = true → A b = true → lt a b = false) ∧ k ≤ nmB A n := by
  obtain ⟨a, b, x, hD, hF⟩ := h
  have hI : Inj n x := ⟨fun p hp => (hF.t p hp).le hp, hF.inj⟩
  have c1 : nm (noHit n x) n = k := by
    have e := hI.sum (fun _ => 1)
    rw [smI_const] at e
    have e2 : smI (fun p => if x p < n then (1 : Int) else 0) n + nm (fun p => decide (x p = n)) n = n := by
      unfold nm
      rw [← smI_add, smI_congr (h := fun _ => 1) n fun p hp => ?_, smI_const]
      · omega
      · have := hI.le p hp
        by_cases e : x p < n
        · rw [if_pos e, if_neg (by simp; omega)]; omega
        · rw [if_neg e, if_pos (by simp; omega)]; omega
    have e3 : nm (noHit n x) n = smI (fun q => if noHit n x q = true then (1 : Int) else 0) n := rfl
    have := hF.k
    omega
  have c2 : smI a n + k ≤ smI b n := by
    rw [hI.sum b]
    have e1 : smI a n ≤ smI (fun p => if x p < n then b (x p) else 0) n := smI_le n fun p hp => by
      rcases hF.t p hp with ⟨h1, h2⟩ | ⟨h1, h2⟩ | ⟨h1, h2, h3⟩
      · rw [h1, if_neg (Nat.lt_irrefl _), h2]; omega
      · rw [h1, if_pos hp, h2]; omega
      · rw [if_pos h1, h3]; omega
    have e2 : smI (fun q => if noHit n x q = true then b q else 0) n = nm (noHit n x) n := by
      unfold nm
      refine smI_congr n fun q hq => ?_
      by_cases e : noHit n x q = true
      · rw [if_pos e, if_pos e, hF.z q hq (noHit_iff.1 e)]; rfl
      · rw [if_neg e, if_neg e]
    omega
  refine ⟨fun p => decide (p < n) && decide (b p = a p + 1), fun p hp => ?_, fun p q hp hq => ?_, ?_⟩
  · rw [Bool.and_eq_true, decide_eq_true_eq] at hp; exact hp.1
  · rw [Bool.and_eq_true, decide_eq_true_eq, decide_eq_true_eq] at hp hq
    rw [Bool.eq_false_iff]; intro hl
    have d1 := hD.d1 p hp.1; have d2 := hD.d2 q hq.1; have d4 := hD.d4 p q hp.1 hq.1 hl
    omega
  · have e1 : smI b n ≤ smI a n + nm (fun p => decide (p < n) && decide (b p = a p + 1)) n := by
      unfold nm
      rw [← smI_add]
      refine smI_le n fun p hp => ?_
      have := hD.d3 p hp
      by_cases e : b p = a p + 1
      · rw [if_pos (by simp; exact ⟨hp, e⟩)]; omega
      · rw [if_neg (by simp; exact fun _ => e)]; omega
    rw [nm_nmB] at e1
    omega
/-- Where one comes to in t steps. -/
def itx (x : Nat → Nat) : Nat → Nat → Nat
  | 0, p => p
  | t + 1, p => itx x t (x p)
theorem itx_back {x : Nat → Nat} (hI : Inj n x) : ∀ t p q, p < n → q < n → itx x t p < n → (∀ s, s < t → itx x (s + 1) p < n) → (∀ s, s < t → itx x (s + 1) q < n) → itx x t p = itx x t q → p = q
  | 0, p, q, _, _, _, _, _, e => e
  | t + 1, p, q, hp, hq, ht, h1, h2, e => by
    have a1 := h1 0 (by omega)
    have a2 := h2 0 (by omega)
    have a1' : x p < n := a1
    have a2' : x q < n := a2
    have := itx_back hI t (x p) (x q) a1' a2' ht (fun s hs => h1 (s + 1) (by omega)) (fun s hs => h2 (s + 1) (by omega)) e
    exact hI.inj p q hp hq this a1'
/-- DILWORTH: as many chains that have all points. -/
theorem stt_chains (hs : Srd n lt) {k : Nat} (h : Stt n lt k 0) : ∃ ch : Nat → Nat, (∀ p, p < n → ch p < k) ∧ ∀ p q, p < n → q < n → p ≠ q → ch p = ch q → lt p q = true ∨ lt q p = true := by
  obtain ⟨a, b, x, hD, hF⟩ := h
  have hI : Inj n x := ⟨fun p hp => (hF.t p hp).le hp, hF.inj⟩
  have hx : ∀ p, p < n → x p = n ∨ (x p < n ∧ lt p (x p) = true) := fun p hp => by
    rcases hF.t p hp with ⟨h1, _⟩ | ⟨h1, h2⟩ | ⟨h1, h2, _⟩
    · exact .inl h1
    · have := hD.d1 p hp; have := hD.d2 p hp; omega
    · exact .inr ⟨h1, h2⟩
  -- each comes to an end
  have fin : ∀ m p, p < n → nmB (fun q => lt p q) n ≤ m → ∃ t, itx x t p < n ∧ x (itx x t p) = n ∧ (∀ s, s < t → itx x (s + 1) p < n) := by
    intro m
    induction m with
    | zero =>
      intro p hp hm
      rcases hx p hp with h1 | ⟨h1, h2⟩
      · exact ⟨0, hp, h1, fun s hs => absurd hs (Nat.not_lt_zero _)⟩
      · have := nmB_lt (P := fun _ => false) (Q := fun q => lt p q) (c := x p) n (fun _ _ e => by cases e) h1 rfl h2
        omega
    | succ m ih =>
      intro p hp hm
      rcases hx p hp with h1 | ⟨h1, h2⟩
      · exact ⟨0, hp, h1, fun s hs => absurd hs (Nat.not_lt_zero _)⟩
      · have := nmB_lt (P := fun r => lt (x p) r) (Q := fun r => lt p r) (c := x p) n (fun r _ hr => hs.tr p (x p) r h2 hr) h1 (hs.irr _) h2
        obtain ⟨t, t1, t2, t3⟩ := ih (x p) h1 (by omega)
        refine ⟨t + 1, t1, t2, fun s hs => ?_⟩
        match s with
        | 0 => exact h1
        | s + 1 => exact t3 s (by omega)
  have fin' : ∀ p, ∃ t, p < n → itx x t p < n ∧ x (itx x t p) = n ∧ (∀ s, s < t → itx x (s + 1) p < n) := fun p => by
    rcases Nat.lt_or_ge p n with hp | hp
    · obtain ⟨t, ht⟩ := fin _ p hp (Nat.le_refl _); exact ⟨t, fun _ => ht⟩
    · exact ⟨0, fun h => by omega⟩
  obtain ⟨T, hT⟩ := Classical.axiomOfChoice fin'
  have up : ∀ t p, p < n → (∀ s, s < t → itx x (s + 1) p < n) → itx x t p = p ∨ lt p (itx x t p) = true := by
    intro t
    induction t with
    | zero => intro p _ _; exact .inl rfl
    | succ t ih =>
      intro p hp h1
      right
      have a1 : x p < n := h1 0 (by omega)
      have a2 : lt p (x p) = true := by
        rcases hx p hp with h2 | h2
        · omega
        · exact h2.2
      show lt p (itx x t (x p)) = true
      rcases ih (x p) a1 (fun s hs => h1 (s + 1) (by omega)) with h2 | h2
      · rw [h2]; exact a2
      · exact hs.tr p _ _ a2 h2
  have add : ∀ s t p, itx x (s + t) p = itx x s (itx x t p) := by
    intro s t
    induction t with
    | zero => intro p; rfl
    | succ t ih => intro p; exact ih (x p)
  refine ⟨fun p => nmB (fun q => decide (x q = n)) (itx x (T p) p), fun p hp => ?_, fun p q hp hq hne e => ?_⟩
  · obtain ⟨t1, t2, _⟩ := hT p hp
    have hk := hF.k
    rw [nm_nmB] at hk
    have hk' : nmB (fun q => decide (x q = n)) n = k := by omega
    rw [← hk']
    -- a last one more
    have : ∀ m, itx x (T p) p < m → nmB (fun q => decide (x q = n)) (itx x (T p) p) < nmB (fun q => decide (x q = n)) m := by
      intro m
      induction m with
      | zero => intro h; omega
      | succ m ih =>
        intro h
        rw [nmB]
        by_cases e : itx x (T p) p = m
        · rw [← e, if_pos (by simpa using t2)]; omega
        · have := ih (by omega); omega
    exact this n t1
  · obtain ⟨p1, p2, p3⟩ := hT p hp
    obtain ⟨q1, q2, q3⟩ := hT q hq
    have inj : ∀ u v, u < n → v < n → x u = n → x v = n → nmB (fun q => decide (x q = n)) u = nmB (fun q => decide (x q = n)) v → u = v := by
      have lt' : ∀ u v, u < v → x u = n → nmB (fun q => decide (x q = n)) u < nmB (fun q => decide (x q = n)) v := by
        intro u v
        induction v with
        | zero => intro h; omega
        | succ v ih =>
          intro h hu
          rw [nmB]
          by_cases e : u = v
          · subst e; rw [if_pos (by simpa using hu)]; omega
          · have := ih (by omega) hu; omega
      intro u v _ _ hu hv e
      rcases Nat.lt_trichotomy u v with h1 | h1 | h1
      · have := lt' u v h1 hu; omega
      · exact h1
      · have := lt' v u h1 hv; omega
    have e2 := inj _ _ p1 q1 p2 q2 e
    generalize T p = s at *
    generalize T q = t at *
    rcases Nat.le_total s t with hst | hst
    · -- q comes to p
      have e3 : itx x s p = itx x s (itx x (t - s) q) := by rw [e2, ← add, show s + (t - s) = t by omega]
      have hq2 : itx x (t - s) q < n := by
        match h0 : t - s with
        | 0 => exact hq
        | d + 1 => exact q3 d (by omega)
      have := itx_back hI s p (itx x (t - s) q) hp hq2 p1 p3 (fun r hr => by rw [← add]; rw [show r + 1 + (t - s) = (r + (t - s)) + 1 by omega]; exact q3 _ (by omega)) e3
      rcases up (t - s) q hq (fun r hr => q3 r (by omega)) with h1 | h1
      · exact absurd (this.trans h1) hne
      · right; rw [this]; exact h1
    · have e3 : itx x t q = itx x t (itx x (s - t) p) := by rw [← e2, ← add, show t + (s - t) = s by omega]
      have hp2 : itx x (s - t) p < n := by
        match h0 : s - t with
        | 0 => exact hp
        | d + 1 => exact p3 d (by omega)
      have := itx_back hI t q (itx x (s - t) p) hq hp2 q1 q3 (fun r hr => by rw [← add]; rw [show r + 1 + (s - t) = (r + (s - t)) + 1 by omega]; exact p3 _ (by omega)) e3
      rcases up (s - t) p hp (fun r hr => p3 r (by omega)) with h1 | h1
      · exact absurd (h1.symm.trans this.symm) hne
      · left; rw [this]; exact h1
/-- Chains, and an antichain of as many points. -/
theorem dilworth (h : Srd n lt) (hn : 0 < n) : ∃ k, 0 < k ∧ (∃ A : Nat → Bool, (∀ a, A a = true → a < n) ∧ (∀ a b, A a = true → A b = true → lt a b = false) ∧ k ≤ nmB A n) ∧
    (∃ ch : Nat → Nat, (∀ p, p < n → ch p < k) ∧ ∀ p q, p < n → q < n → p ≠ q → ch p = ch q → lt p q = true ∨ lt q p = true) := by
  have h0 := dil_start h
  obtain ⟨l, rfl⟩ : ∃ l, n = l + 1 := ⟨n - 1, by omega⟩
  obtain ⟨k, h1, h2⟩ := dil_end _ 0 l (Nat.le_refl _) h0
  obtain ⟨ch, c1, c2⟩ := stt_chains h h2
  exact ⟨k, by have := c1 0 (by omega); omega, stt_anti h1, ch, c1, c2⟩
end
end Go.Proofs.YtinblbkglkhjmaaDoor
