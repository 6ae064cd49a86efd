/-
  What holds of hulls and corners of an accessible family: Minkowski's, Krein's and Milman's law, and the exchange. Plain facts: no Go text here. Conditions: as each theorem says.
-/
import Derived.Test.YtjoklkbfcobfeaaDoorCoM
namespace Go.Proofs.YtjoklkbfcobfeaaDoor
open Go.RowKit

/-- An accessible family of sets of at most ten points. -/
structure Geo (g : Nat → Nat) (len n : Nat) : Prop where
  h10 : n ≤ 10
  small : ∀ k, k < len → g k < pw n
  acs : acc g len = true
theorem and_disj {a b : Nat} : a &&& b = 0 ↔ ∀ i, a.testBit i = true → b.testBit i = false := by
  constructor
  · intro h i hi
    have h2 : (a &&& b).testBit i = false := by rw [h]; simp
    rw [Nat.testBit_and, hi, Bool.true_and] at h2; exact h2
  · intro h
    apply Nat.eq_of_testBit_eq
    intro i
    rw [Nat.testBit_and, Nat.zero_testBit]
    cases ha : a.testBit i
    · simp
    · rw [h i ha]; rfl
namespace Geo
variable {g : Nat → Nat} {len n : Nat}
theorem lt (G : Geo g len n) {s : Nat} (h : mem g len s = true) : s < pw n := by
  obtain ⟨j, h1, rfl⟩ := mem_iff.1 h
  exact G.small j h1
theorem lt2 (G : Geo g len n) {s : Nat} (h : mem g len s = true) : s < 1024 := Nat.lt_of_lt_of_le (G.lt h) (pw_le n G.h10)
theorem zero (G : Geo g len n) : mem g len 0 = true := (acc_iff.1 G.acs).1
theorem union (G : Geo g len n) {a b : Nat} (ha : mem g len a = true) (hb : mem g len b = true) : mem g len (a ||| b) = true := by
  obtain ⟨i, h1, rfl⟩ := mem_iff.1 ha
  obtain ⟨j, h2, rfl⟩ := mem_iff.1 hb
  exact (acc_iff.1 G.acs).2.2 i j h1 h2
theorem step (G : Geo g len n) {s : Nat} (h : mem g len s = true) (h0 : s ≠ 0) : ∃ p, p < 10 ∧ s.testBit p = true ∧ mem g len (s - pw p) = true := by
  obtain ⟨j, h1, rfl⟩ := mem_iff.1 h
  rcases (acc_iff.1 G.acs).2.1 j h1 with h2 | h2
  · exact absurd h2 h0
  · exact stp_iff.1 h2
theorem togF (G : Geo g len n) (x : Nat) : ∀ k, k ≤ len → mem g len (tog g x k) = true
  | 0, _ => G.zero
  | k + 1, h => by
    by_cases e : g k &&& x = 0
    · rw [tog_yes e]; exact G.union (togF G x k (by omega)) (mem_at (by omega))
    · rw [tog_no e]; exact togF G x k (by omega)
theorem tF (G : Geo g len n) (x : Nat) : mem g len (tog g x len) = true := G.togF x len (Nat.le_refl _)
theorem tog_out {x i : Nat} (h : (tog g x len).testBit i = true) : x.testBit i = false := by
  obtain ⟨j, _, h2, h3⟩ := tog_bit.1 h
  exact and_disj.1 h2 i h3
theorem tog_max {x y i : Nat} (hy : mem g len y = true) (hd : ∀ i, y.testBit i = true → x.testBit i = false) (hi : y.testBit i = true) : (tog g x len).testBit i = true := by
  obtain ⟨j, h1, rfl⟩ := mem_iff.1 hy
  exact tog_bit.2 ⟨j, h1, and_disj.2 hd, hi⟩
theorem tog_anti (G : Geo g len n) {x y i : Nat} (h : ∀ i, x.testBit i = true → y.testBit i = true) (hi : (tog g y len).testBit i = true) : (tog g x len).testBit i = true :=
  tog_max (G.tF y) (fun j hj => by
    have h1 := tog_out hj
    cases e : x.testBit j
    · rfl
    · rw [h j e] at h1; cases h1) hi
/-- A set with a point more, one of another set's. -/
theorem aug (G : Geo g len n) {A : Nat} (hA : mem g len A = true) : ∀ m B, B < m → mem g len B = true → (∃ i, B.testBit i = true ∧ A.testBit i = false) → ∃ p, B.testBit p = true ∧ A.testBit p = false ∧ mem g len (A ||| pw p) = true
  | 0, _, h, _, _ => absurd h (Nat.not_lt_zero _)
  | m + 1, B, h, hB, ⟨i, h1, h2⟩ => by
    have h0 : B ≠ 0 := fun e => by rw [e] at h1; simp at h1
    obtain ⟨p, hp, hb, hF⟩ := G.step hB h0
    have hB2 := G.lt2 hB
    have hlt := sub_lt' hB2 hp hb
    have hbit := sub_bit hB2 hp hb
    by_cases z : ∃ i, (B - pw p).testBit i = true ∧ A.testBit i = false
    · obtain ⟨q, k1, k2, k3⟩ := aug G hA m (B - pw p) (by omega) hF z
      refine ⟨q, ?_, k2, k3⟩
      rw [hbit] at k1
      simp at k1; exact k1.1
    · have hsub : ∀ j, (B - pw p).testBit j = true → A.testBit j = true := fun j hj => by
        cases e : A.testBit j
        · exact absurd ⟨j, hj, e⟩ z
        · rfl
      have hip : p = i := by
        cases e : decide (p = i)
        · have : (B - pw p).testBit i = true := by rw [hbit, h1, e]; rfl
          rw [hsub i this] at h2; cases h2
        · simpa using e
      subst hip
      refine ⟨p, hb, h2, ?_⟩
      have e : A ||| pw p = A ||| B := by
        apply Nat.eq_of_testBit_eq
        intro j
        rw [Nat.testBit_or, Nat.testBit_or, pw_bit]
        cases hA' : A.testBit j
        · by_cases e : p = j
          · subst e; simp [hb]
          · have : B.testBit j = false := by
              cases e2 : B.testBit j
              · rfl
              · have : (B - pw p).testBit j = true := by rw [hbit, e2]; simp [e]
                rw [hsub j this] at hA'; cases hA'
            simp [e, this]
        · simp
      rw [e]; exact G.union hA hB
theorem aug' (G : Geo g len n) {A B : Nat} (hA : mem g len A = true) (hB : mem g len B = true) {i : Nat} (h1 : B.testBit i = true) (h2 : A.testBit i = false) : ∃ p, B.testBit p = true ∧ A.testBit p = false ∧ mem g len (A ||| pw p) = true :=
  G.aug hA (B + 1) B (Nat.lt_succ_self _) hB ⟨i, h1, h2⟩
theorem in_hul (G : Geo g len n) {s i : Nat} : (hul g len n s).testBit i = true ↔ i < n ∧ (tog g s len).testBit i = false := by
  rw [hul_bit G.h10 G.small]; simp
theorem or_max (_G : Geo g len n) {A x p : Nat} (hF : mem g len (A ||| pw p) = true) (hA : ∀ i, A.testBit i = true → x.testBit i = false) (hp : x.testBit p = false) : (tog g x len).testBit p = true := by
  refine tog_max hF (fun i hi => ?_) (by rw [Nat.testBit_or, pw_bit]; simp)
  rw [Nat.testBit_or, pw_bit] at hi
  cases hAi : A.testBit i
  · rw [hAi] at hi
    have : p = i := by simpa using hi
    rw [← this]; exact hp
  · exact hA i hAi
theorem sub_hul (G : Geo g len n) {s i : Nat} (hs : s < pw n) (h : s.testBit i = true) : (hul g len n s).testBit i = true := by
  refine G.in_hul.2 ⟨bit_of_lt hs h, ?_⟩
  cases e : (tog g s len).testBit i
  · rfl
  · rw [tog_out e] at h; cases h
theorem hul_mono (G : Geo g len n) {s t i : Nat} (h : ∀ i, s.testBit i = true → t.testBit i = true) (hi : (hul g len n s).testBit i = true) : (hul g len n t).testBit i = true := by
  obtain ⟨h1, h2⟩ := G.in_hul.1 hi
  refine G.in_hul.2 ⟨h1, ?_⟩
  cases e : (tog g t len).testBit i
  · rfl
  · rw [G.tog_anti h e] at h2; cases h2
theorem tog_hul (G : Geo g len n) {s i : Nat} (hs : s < pw n) : (tog g (hul g len n s) len).testBit i = (tog g s len).testBit i := by
  refine eq_of_iff ⟨fun h => G.tog_anti (fun j hj => G.sub_hul hs hj) h, fun h => ?_⟩
  refine tog_max (G.tF s) (fun j hj => ?_) h
  cases e : (hul g len n s).testBit j
  · rfl
  · rw [(G.in_hul.1 e).2] at hj; cases hj
theorem hul_hul (G : Geo g len n) {s : Nat} (hs : s < pw n) : hul g len n (hul g len n s) = hul g len n s := by
  refine eq_of_bits (hul_lt _ _ _ _) (hul_lt _ _ _ _) fun i _ => ?_
  rw [hul_bit G.h10 G.small, hul_bit G.h10 G.small, G.tog_hul hs]
theorem small_ten (G : Geo g len n) {s : Nat} (hs : s < pw n) : s < 1024 := Nat.lt_of_lt_of_le hs (pw_le n G.h10)
theorem in_crn (G : Geo g len n) {s i : Nat} (hs : s < pw n) : (crn g len n s).testBit i = true ↔ s.testBit i = true ∧ (tog g (s - pw i) len).testBit i = true := by
  rw [crn_bit]
  constructor
  · intro h
    simp at h
    obtain ⟨h1, h2, h3⟩ := h
    refine ⟨h2, ?_⟩
    cases e : (tog g (s - pw i) len).testBit i
    · rw [G.in_hul.2 ⟨h1, e⟩] at h3; cases h3
    · rfl
  · rintro ⟨h1, h2⟩
    have h3 := bit_of_lt hs h1
    have : (hul g len n (s - pw i)).testBit i = false := by
      cases e : (hul g len n (s - pw i)).testBit i
      · rfl
      · rw [(G.in_hul.1 e).2] at h2; cases h2
    simp [h1, h3, this]
theorem crn_sub (G : Geo g len n) {s i : Nat} (hs : s < pw n) (h : (crn g len n s).testBit i = true) : s.testBit i = true := ((G.in_crn hs).1 h).1
theorem less_bit (G : Geo g len n) {s p i : Nat} (hs : s < pw n) (h : s.testBit p = true) : (s - pw p).testBit i = (s.testBit i && !decide (p = i)) :=
  sub_bit (G.small_ten hs) (Nat.lt_of_lt_of_le (bit_of_lt hs h) G.h10) h i
/-- MINKOWSKI, KREIN, MILMAN. -/
theorem hul_crn (G : Geo g len n) {s : Nat} (hs : s < pw n) : hul g len n (crn g len n s) = hul g len n s := by
  refine eq_of_bits (hul_lt _ _ _ _) (hul_lt _ _ _ _) fun i hi => ?_
  refine eq_of_iff ⟨fun h => G.hul_mono (fun j hj => G.crn_sub hs hj) h, fun h => ?_⟩
  cases e : (hul g len n (crn g len n s)).testBit i
  · exfalso
    have h1 := (G.in_hul.1 h).2
    have h2 : (tog g (crn g len n s) len).testBit i = true := by
      cases e2 : (tog g (crn g len n s) len).testBit i
      · rw [G.in_hul.2 ⟨hi, e2⟩] at e; cases e
      · rfl
    obtain ⟨x, hx1, hx2, hx3⟩ := G.aug' (G.tF s) (G.tF (crn g len n s)) h2 h1
    have hx4 := tog_out hx1
    cases hxs : s.testBit x
    · rw [G.or_max hx3 (fun j hj => tog_out hj) hxs] at hx2; cases hx2
    · have : (crn g len n s).testBit x = true := (G.in_crn hs).2 ⟨hxs, G.or_max hx3 (fun j hj => by
        rw [G.less_bit hs hxs, tog_out hj]; rfl) (by rw [G.less_bit hs hxs]; simp)⟩
      rw [hx4] at this; cases this
  · rfl
theorem crn_hul (G : Geo g len n) {s : Nat} (hs : s < pw n) : crn g len n (hul g len n s) = crn g len n s := by
  refine eq_of_bits (crn_lt _ _ _ _) (crn_lt _ _ _ _) fun x _ => ?_
  have hC := hul_lt g len n s
  refine eq_of_iff ⟨fun h => ?_, fun h => ?_⟩
  · obtain ⟨h1, h2⟩ := (G.in_crn hC).1 h
    have hlb : ∀ i, (hul g len n s - pw x).testBit i = ((hul g len n s).testBit i && !decide (x = i)) := fun i => G.less_bit hC h1
    cases hxs : s.testBit x
    · exfalso
      have h3 : (tog g s len).testBit x = true := G.tog_anti (fun j hj => by
        rw [hlb, G.sub_hul hs hj]
        have : x ≠ j := fun e => by rw [e, hj] at hxs; cases hxs
        simp [this]) h2
      rw [(G.in_hul.1 h1).2] at h3; cases h3
    · refine (G.in_crn hs).2 ⟨hxs, G.tog_anti (fun j hj => ?_) h2⟩
      rw [G.less_bit hs hxs] at hj
      simp at hj
      rw [hlb, G.sub_hul hs hj.1]; simp [hj.2]
  · obtain ⟨h1, h2⟩ := (G.in_crn hs).1 h
    have hxC := G.sub_hul hs h1
    have hlb : ∀ i, (hul g len n s - pw x).testBit i = ((hul g len n s).testBit i && !decide (x = i)) := fun i => G.less_bit hC hxC
    have h3 := (G.in_hul.1 hxC).2
    obtain ⟨y, hy1, hy2, hy3⟩ := G.aug' (G.tF s) (G.tF (s - pw x)) h2 h3
    have hy4 := tog_out hy1
    rw [G.less_bit hs h1] at hy4
    have hyx : x = y := by
      cases e : decide (x = y)
      · rw [e] at hy4
        have hys : s.testBit y = false := by simpa using hy4
        rw [G.or_max hy3 (fun j hj => tog_out hj) hys] at hy2; cases hy2
      · simpa using e
    subst hyx
    refine (G.in_crn hC).2 ⟨hxC, G.or_max hy3 (fun j hj => ?_) (by rw [hlb]; simp)⟩
    rw [hlb]
    cases e : (hul g len n s).testBit j
    · rfl
    · rw [(G.in_hul.1 e).2] at hj; cases hj
/-- The exchange. -/
theorem exchange (G : Geo g len n) {s p q : Nat} (hs : s < pw n) (hp : p < n) (hpq : p ≠ q) (hph : (hul g len n s).testBit p = false) (hqh : (hul g len n s).testBit q = false)
    (h1 : (hul g len n (hul g len n s + pw p)).testBit q = true) (h2 : (hul g len n (hul g len n s + pw q)).testBit p = true) : False := by
  have hC := hul_lt g len n s
  obtain ⟨h, hh⟩ : ∃ h, hul g len n s = h := ⟨_, rfl⟩
  have hhh := G.hul_hul hs
  rw [hh] at hhh hph hqh h1 h2 hC
  have hpB : (tog g h len).testBit p = true := by
    cases e : (tog g h len).testBit p
    · have := G.in_hul.2 ⟨hp, e⟩
      rw [hhh, hph] at this; cases this
    · rfl
  have hpA : (tog g (h + pw p) len).testBit p = false := by
    cases e : (tog g (h + pw p) len).testBit p
    · rfl
    · have := tog_out e
      rw [add_bit hph] at this; simp at this
  obtain ⟨z, hz1, hz2, hz3⟩ := G.aug' (G.tF (h + pw p)) (G.tF h) hpB hpA
  have hzh := tog_out hz1
  have hzp : p = z := by
    cases e : decide (p = z)
    · rw [G.or_max hz3 (fun j hj => tog_out hj) (by rw [add_bit hph, hzh, e]; rfl)] at hz2; cases hz2
    · simpa using e
  subst hzp
  have hqA := (G.in_hul.1 h1).2
  have hfin : (tog g (h + pw q) len).testBit p = true := G.or_max hz3 (fun j hj => by
    have h5 := tog_out hj
    rw [add_bit hph] at h5
    rw [add_bit hqh]
    have h6 : h.testBit j = false := by
      cases e : h.testBit j
      · rfl
      · rw [e] at h5; simp at h5
    have h7 : q ≠ j := fun e => by rw [← e, hqA] at hj; cases hj
    simp [h6, h7]) (by rw [add_bit hqh, hph]; simp; exact fun e => hpq e.symm)
  rw [(G.in_hul.1 h2).2] at hfin; cases hfin
end Geo
end Go.Proofs.YtjoklkbfcobfeaaDoor
