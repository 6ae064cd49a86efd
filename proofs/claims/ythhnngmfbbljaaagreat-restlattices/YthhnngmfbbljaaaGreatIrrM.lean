/-
  The elements that cover just one, two ways: by the Join of all below, and by counting covers. Conditions: as each theorem says.
-/
import Derived.Test.YthhnngmfbbljaaaGreatOthM
namespace Go.Proofs.YthhnngmfbbljaaaGreat
set_option maxRecDepth 100000

/-- How many of the first k are so? -/
def cntB (P : Nat → Bool) : Nat → Nat
  | 0 => 0
  | k + 1 => if P k = true then cntB P k + 1 else cntB P k
theorem cntB_yes {P : Nat → Bool} {k : Nat} (h : P k = true) : cntB P (k + 1) = cntB P k + 1 := by simp [cntB, h]
theorem cntB_no {P : Nat → Bool} {k : Nat} (h : P k = false) : cntB P (k + 1) = cntB P k := by simp [cntB, h]
theorem cntB_le (P : Nat → Bool) : ∀ k, cntB P k ≤ k
  | 0 => Nat.le_refl _
  | k + 1 => by
    have ih := cntB_le P k
    cases h : P k
    · rw [cntB_no h]; omega
    · rw [cntB_yes h]; omega
theorem cntB_mono {P Q : Nat → Bool} : ∀ k, (∀ i, i < k → P i = true → Q i = true) → cntB P k ≤ cntB Q k
  | 0, _ => Nat.le_refl _
  | k + 1, h => by
    have ih := cntB_mono k (fun i hi => h i (by omega))
    have hk := h k (by omega)
    cases hp : P k
    · rw [cntB_no hp]
      cases hq : Q k
      · rw [cntB_no hq]; exact ih
      · rw [cntB_yes hq]; omega
    · rw [cntB_yes hp, cntB_yes (hk hp)]; omega
theorem cntB_lt {P Q : Nat → Bool} : ∀ k, (∀ i, i < k → P i = true → Q i = true) → (∃ i, i < k ∧ P i = false ∧ Q i = true) → cntB P k < cntB Q k
  | 0, _, ⟨_, h, _⟩ => absurd h (Nat.not_lt_zero _)
  | k + 1, h, ⟨i, hi, hp, hq⟩ => by
    have hm := cntB_mono k (fun i hi => h i (by omega))
    by_cases e : i = k
    · subst e
      rw [cntB_no hp, cntB_yes hq]; omega
    · have ih := cntB_lt k (fun i hi => h i (by omega)) ⟨i, by omega, hp, hq⟩
      have hk := h k (by omega)
      cases hp : P k
      · rw [cntB_no hp]
        cases hq : Q k
        · rw [cntB_no hq]; exact ih
        · rw [cntB_yes hq]; omega
      · rw [cntB_yes hp, cntB_yes (hk hp)]; omega
theorem cntB_pos {P : Nat → Bool} : ∀ k, 0 < cntB P k → ∃ i, i < k ∧ P i = true
  | 0, h => absurd h (Nat.lt_irrefl _)
  | k + 1, h => by
    cases hp : P k
    · rw [cntB_no hp] at h
      obtain ⟨i, hi, hpi⟩ := cntB_pos k h
      exact ⟨i, by omega, hpi⟩
    · exact ⟨k, by omega, hp⟩
theorem cntB_zero {P : Nat → Bool} : ∀ k, (∀ i, i < k → P i = false) → cntB P k = 0
  | 0, _ => rfl
  | k + 1, h => by rw [cntB_no (h k (by omega))]; exact cntB_zero k (fun i hi => h i (by omega))
theorem cntB_one {P : Nat → Bool} : ∀ k, cntB P k = 1 ↔ ∃ i, i < k ∧ P i = true ∧ ∀ j, j < k → P j = true → j = i
  | 0 => ⟨fun h => (by cases h), fun ⟨_, h, _⟩ => absurd h (Nat.not_lt_zero _)⟩
  | k + 1 => by
    have ih := cntB_one (P := P) k
    cases hp : P k
    · rw [cntB_no hp, ih]
      constructor
      · rintro ⟨i, hi, h1, h2⟩
        refine ⟨i, by omega, h1, fun j hj h => h2 j ?_ h⟩
        have : j ≠ k := fun e => by subst e; rw [hp] at h; cases h
        omega
      · rintro ⟨i, hi, h1, h2⟩
        have : i ≠ k := fun e => by subst e; rw [hp] at h1; cases h1
        exact ⟨i, by omega, h1, fun j hj h => h2 j (by omega) h⟩
    · rw [cntB_yes hp]
      constructor
      · intro h
        have h0 : cntB P k = 0 := by omega
        refine ⟨k, by omega, hp, fun j hj hpj => ?_⟩
        apply Classical.byContradiction
        intro e
        have : cntB (fun _ => false) k < cntB P k := cntB_lt k (fun _ _ h => by cases h) ⟨j, by omega, rfl, hpj⟩
        omega
      · rintro ⟨i, hi, h1, h2⟩
        have e : k = i := h2 k (by omega) hp
        rw [cntB_zero k (fun j hj => by
          cases hpj : P j
          · rfl
          · have := h2 j (by omega) hpj; omega)]

/-- Is x below y, or y? -/
def leB (m : Nat → Nat → Nat) (x y : Nat) : Bool := m x y == x
def ltB (m : Nat → Nat → Nat) (x y : Nat) : Bool := !(x == y) && m x y == x
/-- The Join of all below x, of the first k. -/
def jbl (m j : Nat → Nat → Nat) (n x : Nat) : Nat → Nat
  | 0 => en m n
  | k + 1 => if ltB m k x = true then j (jbl m j n x k) k else jbl m j n x k
theorem jbl_yes {m j : Nat → Nat → Nat} {n x k : Nat} (h : ltB m k x = true) : jbl m j n x (k + 1) = j (jbl m j n x k) k := by simp [jbl, h]
theorem jbl_no {m j : Nat → Nat → Nat} {n x k : Nat} (h : ltB m k x = false) : jbl m j n x (k + 1) = jbl m j n x k := by simp [jbl, h]
theorem jbl_lt {m j : Nat → Nat → Nat} {n x : Nat} (h1 : 1 ≤ n) (hm : Inn n m) (hj : Inn n j) : ∀ k, k ≤ n → jbl m j n x k < n
  | 0, _ => en_lt h1 hm n (Nat.le_refl _)
  | k + 1, hk => by
    have ih := jbl_lt (x := x) h1 hm hj k (by omega)
    cases h : ltB m k x
    · rw [jbl_no h]; exact ih
    · rw [jbl_yes h]; exact hj _ _ ih (by omega)
def irrB (m j : Nat → Nat → Nat) (n x : Nat) : Bool := !(jbl m j n x n == x)

/-- The laws by numbers. -/
theorem Lat.le_refl {n : Nat} {m j : Nat → Nat → Nat} (h : Lat n m j) {x : Nat} (hx : x < n) : m x x = x := (h.lm.at hx hx hx).1
theorem Lat.comm {n : Nat} {m j : Nat → Nat → Nat} (h : Lat n m j) {x y : Nat} (hx : x < n) (hy : y < n) : m x y = m y x := (h.lm.at hx hy hx).2.1
theorem Lat.assoc {n : Nat} {m j : Nat → Nat → Nat} (h : Lat n m j) {x y z : Nat} (hx : x < n) (hy : y < n) (hz : z < n) : m x (m y z) = m (m x y) z := (h.lm.at hx hy hz).2.2.1
theorem Lat.absorb {n : Nat} {m j : Nat → Nat → Nat} (h : Lat n m j) {x y : Nat} (hx : x < n) (hy : y < n) : m x (j x y) = x := (h.lm.at hx hy hx).2.2.2
theorem Lat.le_tr {n : Nat} {m j : Nat → Nat → Nat} (h : Lat n m j) {x y z : Nat} (hx : x < n) (hy : y < n) (hz : z < n) (h1 : m x y = x) (h2 : m y z = y) : m x z = x := by
  have := h.assoc hx hy hz
  rw [h2, h1] at this
  exact this.symm
theorem Lat.le_anti {n : Nat} {m j : Nat → Nat → Nat} (h : Lat n m j) {x y : Nat} (hx : x < n) (hy : y < n) (h1 : m x y = x) (h2 : m y x = y) : x = y := by
  rw [h.comm hy hx, h1] at h2; exact h2
theorem Lat.le_join {n : Nat} {m j : Nat → Nat → Nat} (h : Lat n m j) {x y : Nat} (hx : x < n) (hy : y < n) : m x y = x ↔ j x y = y := by
  constructor
  · intro k
    have := h.turn.absorb hy hx
    rw [h.comm hy hx, k, h.turn.comm hy hx] at this
    exact this
  · intro k
    have := h.absorb hx hy
    rw [k] at this; exact this
theorem Lat.join_l {n : Nat} {m j : Nat → Nat → Nat} (h : Lat n m j) {x y : Nat} (hx : x < n) (hy : y < n) : m x (j x y) = x := h.absorb hx hy
theorem Lat.join_r {n : Nat} {m j : Nat → Nat → Nat} (h : Lat n m j) {x y : Nat} (hx : x < n) (hy : y < n) : m y (j x y) = y := by
  rw [h.turn.comm hx hy]; exact h.absorb hy hx
theorem Lat.join_lub {n : Nat} {m j : Nat → Nat → Nat} (h : Lat n m j) {x y z : Nat} (hx : x < n) (hy : y < n) (hz : z < n) (h1 : m x z = x) (h2 : m y z = y) : m (j x y) z = j x y := by
  rw [h.le_join (h.ij _ _ hx hy) hz, ← h.turn.assoc hx hy hz, (h.le_join hy hz).1 h2, (h.le_join hx hz).1 h1]
theorem Lat.meet_l {n : Nat} {m j : Nat → Nat → Nat} (h : Lat n m j) {x y : Nat} (hx : x < n) (hy : y < n) : m (m x y) x = m x y := by
  rw [h.comm (h.im _ _ hx hy) hx, h.assoc hx hx hy, h.le_refl hx]
theorem Lat.meet_r {n : Nat} {m j : Nat → Nat → Nat} (h : Lat n m j) {x y : Nat} (hx : x < n) (hy : y < n) : m (m x y) y = m x y := by
  rw [← h.assoc hx hy hy, h.le_refl hy]
theorem Lat.meet_glb {n : Nat} {m j : Nat → Nat → Nat} (h : Lat n m j) {x y z : Nat} (hx : x < n) (hy : y < n) (hz : z < n) (h1 : m z x = z) (h2 : m z y = z) : m z (m x y) = z := by
  rw [h.assoc hz hx hy, h1, h2]
theorem Lat.en_le {n : Nat} {m j : Nat → Nat → Nat} (h : Lat n m j) (h1 : 1 ≤ n) : ∀ k, k ≤ n → ∀ x, x < k → m (en m k) x = en m k
  | 0, _, x, hx => absurd hx (Nat.not_lt_zero _)
  | k + 1, hk, x, hx => by
    have ih := Lat.en_le h h1 k (by omega)
    have he := en_lt h1 h.im k (by omega)
    have hkn : k < n := by omega
    show m (m (en m k) k) x = m (en m k) k
    by_cases e : x = k
    · subst e; exact h.meet_r he hkn
    · exact h.le_tr (h.im _ _ he hkn) he (by omega) (h.meet_l he hkn) (ih x (by omega))
theorem Lat.least {n : Nat} {m j : Nat → Nat → Nat} (h : Lat n m j) (h1 : 1 ≤ n) {x : Nat} (hx : x < n) : m (en m n) x = en m n := h.en_le h1 n (Nat.le_refl _) x hx
theorem ltB_iff {m : Nat → Nat → Nat} {x y : Nat} : ltB m x y = true ↔ x ≠ y ∧ m x y = x := by simp [ltB]
theorem Lat.jbl_up {n : Nat} {m j : Nat → Nat → Nat} (h : Lat n m j) (h1 : 1 ≤ n) {x : Nat} (hx : x < n) : ∀ k, k ≤ n → m (jbl m j n x k) x = jbl m j n x k
  | 0, _ => h.least h1 hx
  | k + 1, hk => by
    have ih := Lat.jbl_up h h1 hx k (by omega)
    have hl := jbl_lt (x := x) h1 h.im h.ij k (by omega)
    cases e : ltB m k x
    · rw [jbl_no e]; exact ih
    · rw [jbl_yes e]; exact h.join_lub hl (by omega) hx ih (ltB_iff.1 e).2
theorem Lat.jbl_over {n : Nat} {m j : Nat → Nat → Nat} (h : Lat n m j) (h1 : 1 ≤ n) {x : Nat} : ∀ k, k ≤ n → ∀ y, y < k → ltB m y x = true → m y (jbl m j n x k) = y
  | 0, _, y, hy, _ => absurd hy (Nat.not_lt_zero _)
  | k + 1, hk, y, hy, hl => by
    have ih := Lat.jbl_over h h1 (x := x) k (by omega)
    have hj := jbl_lt (x := x) h1 h.im h.ij k (by omega)
    by_cases ey : y = k
    · subst ey
      rw [jbl_yes hl]; exact h.join_r hj (by omega)
    · have := ih y (by omega) hl
      cases e : ltB m k x
      · rw [jbl_no e]; exact this
      · rw [jbl_yes e]; exact h.le_tr (by omega) hj (h.ij _ _ hj (by omega)) this (h.join_l hj (by omega))
/-- The Join of all below x is the least that all below x are up to. -/
theorem Lat.jbl_least {n : Nat} {m j : Nat → Nat → Nat} (h : Lat n m j) (h1 : 1 ≤ n) {x c : Nat} (hc : c < n) (hu : ∀ y, y < n → ltB m y x = true → m y c = y) : ∀ k, k ≤ n → m (jbl m j n x k) c = jbl m j n x k
  | 0, _ => h.least h1 hc
  | k + 1, hk => by
    have ih := Lat.jbl_least h h1 hc hu k (by omega)
    have hl := jbl_lt (x := x) h1 h.im h.ij k (by omega)
    cases e : ltB m k x
    · rw [jbl_no e]; exact ih
    · rw [jbl_yes e]; exact h.join_lub hl (by omega) hc ih (hu k (by omega) e)

/-- Does x cover y? As the reference's rounds ask it. -/
def covT (m : Nat → Nat → Nat) (x y z : Nat) : Bool := z == x || (z == y || (!(leB m y z) || !(leB m z x)))
def covB (m : Nat → Nat → Nat) (x y : Nat) : Nat → Bool
  | 0 => !(y == x) && leB m y x
  | k + 1 => covB m x y k && covT m x y k
theorem covB_iff {m : Nat → Nat → Nat} {x y : Nat} : ∀ k, covB m x y k = true ↔ (y ≠ x ∧ m y x = y) ∧ ∀ z, z < k → z = x ∨ z = y ∨ ¬ m y z = y ∨ ¬ m z x = z
  | 0 => by simp [covB, leB]
  | k + 1 => by
    have ih := covB_iff (m := m) (x := x) (y := y) k
    simp only [covB, Bool.and_eq_true, ih]
    have ht : covT m x y k = true ↔ k = x ∨ k = y ∨ ¬ m y k = y ∨ ¬ m k x = k := by simp [covT, leB]
    rw [ht]
    constructor
    · rintro ⟨⟨h1, h2⟩, h3⟩
      refine ⟨h1, fun z hz => ?_⟩
      by_cases e : z = k
      · subst e; exact h3
      · exact h2 z (by omega)
    · rintro ⟨h1, h2⟩
      exact ⟨⟨h1, fun z hz => h2 z (by omega)⟩, h2 k (by omega)⟩
/-- Above a y below x that is not up to c there is a cover of x that is not up to c. -/
theorem Lat.cover {n : Nat} {m j : Nat → Nat → Nat} (h : Lat n m j) {x c : Nat} (hx : x < n) (hc : c < n) : ∀ N y, y < n → cntB (leB m y) n ≤ N → ltB m y x = true → m y c ≠ y → ∃ d, d < n ∧ covB m x d n = true ∧ m d c ≠ d
  | 0, y, hy, hN, _, _ => by
    have : cntB (fun _ => false) n < cntB (leB m y) n := cntB_lt n (fun _ _ h => by cases h) ⟨y, hy, rfl, by simp [leB, h.le_refl hy]⟩
    omega
  | N + 1, y, hy, hN, hlt, hne => by
    by_cases hcov : covB m x y n = true
    · exact ⟨y, hy, hcov, hne⟩
    · have hl := ltB_iff.1 hlt
      have : ∃ z, z < n ∧ z ≠ x ∧ z ≠ y ∧ m y z = y ∧ m z x = z := by
        apply Classical.byContradiction
        intro hno
        apply hcov
        rw [covB_iff]
        refine ⟨hl, fun z hz => ?_⟩
        by_cases e1 : z = x
        · exact .inl e1
        by_cases e2 : z = y
        · exact .inr (.inl e2)
        by_cases e3 : m y z = y
        · by_cases e4 : m z x = z
          · exact absurd ⟨z, hz, e1, e2, e3, e4⟩ hno
          · exact .inr (.inr (.inr e4))
        · exact .inr (.inr (.inl e3))
      obtain ⟨z, hz, e1, e2, e3, e4⟩ := this
      have hcz : cntB (leB m z) n < cntB (leB m y) n := by
        refine cntB_lt n (fun i hi hzi => ?_) ⟨y, hy, ?_, by simp [leB, h.le_refl hy]⟩
        · simp only [leB, beq_iff_eq] at hzi ⊢
          exact h.le_tr hy hz hi e3 hzi
        · simp only [leB, beq_eq_false_iff_ne, ne_eq]
          intro e
          exact e2 (h.le_anti hz hy e e3)
      exact Lat.cover h hx hc N z hz (by omega) (ltB_iff.2 ⟨e1, e4⟩) (fun e => hne (h.le_tr hy hz hc e3 e))
theorem Lat.irr {n : Nat} {m j : Nat → Nat → Nat} (h : Lat n m j) (h1 : 1 ≤ n) {x : Nat} (hx : x < n) : irrB m j n x = (cntB (fun y => covB m x y n) n == 1) := by
  rw [Bool.eq_iff_iff, beq_iff_eq, cntB_one]
  have hJ := jbl_lt (x := x) h1 h.im h.ij n (Nat.le_refl _)
  have hup := h.jbl_up h1 hx n (Nat.le_refl _)
  have hov := fun y hy => h.jbl_over h1 (x := x) n (Nat.le_refl _) y hy
  simp only [irrB, Bool.not_eq_true', beq_eq_false_iff_ne, ne_eq]
  constructor
  · intro hne
    refine ⟨jbl m j n x n, hJ, (covB_iff n).2 ⟨⟨hne, hup⟩, fun z hz => ?_⟩, fun y hy hcy => ?_⟩
    · by_cases e1 : z = x
      · exact .inl e1
      by_cases e4 : m z x = z
      · have := hov z hz (ltB_iff.2 ⟨e1, e4⟩)
        by_cases e3 : m (jbl m j n x n) z = jbl m j n x n
        · exact .inr (.inl (h.le_anti hz hJ this e3))
        · exact .inr (.inr (.inl e3))
      · exact .inr (.inr (.inr e4))
    · obtain ⟨hl, hz⟩ := (covB_iff n).1 hcy
      have h2 := hov y hy (ltB_iff.2 hl)
      rcases hz _ hJ with e | e | e | e
      · exact absurd e hne
      · exact e.symm
      · exact absurd h2 e
      · exact absurd hup e
  · rintro ⟨c, hc, hcc, hu⟩ e
    obtain ⟨hl, _⟩ := (covB_iff n).1 hcc
    have hall : ∀ y, y < n → ltB m y x = true → m y c = y := by
      intro y hy hlt
      apply Classical.byContradiction
      intro hne
      obtain ⟨d, hd, hcd, hnd⟩ := h.cover hx hc _ y hy (Nat.le_refl _) hlt hne
      have := hu d hd hcd
      subst this
      exact hnd (h.le_refl hd)
    have := h.jbl_least h1 hc hall n (Nat.le_refl _)
    rw [e] at this
    exact hl.1 (h.le_anti hc hx hl.2 this)

/-- The list of those of the first k that are so. -/
def filt (P : Nat → Bool) : Nat → List Nat
  | 0 => []
  | k + 1 => if P k = true then filt P k ++ [k] else filt P k
theorem filt_yes {P : Nat → Bool} {k : Nat} (h : P k = true) : filt P (k + 1) = filt P k ++ [k] := by simp [filt, h]
theorem filt_no {P : Nat → Bool} {k : Nat} (h : P k = false) : filt P (k + 1) = filt P k := by simp [filt, h]
theorem filt_len (P : Nat → Bool) : ∀ k, (filt P k).length ≤ k
  | 0 => by simp [filt]
  | k + 1 => by
    have ih := filt_len P k
    cases h : P k
    · rw [filt_no h]; omega
    · rw [filt_yes h, List.length_append]; simp; exact ih
theorem filt_mem (P : Nat → Bool) : ∀ k y, y ∈ filt P k ↔ y < k ∧ P y = true
  | 0, y => by simp [filt]
  | k + 1, y => by
    have ih := filt_mem P k y
    cases h : P k
    · rw [filt_no h, ih]
      constructor
      · rintro ⟨a, b⟩; exact ⟨by omega, b⟩
      · rintro ⟨a, b⟩
        have : y ≠ k := fun e => by subst e; rw [h] at b; cases b
        exact ⟨by omega, b⟩
    · rw [filt_yes h, List.mem_append, ih, List.mem_singleton]
      constructor
      · rintro (⟨a, b⟩ | rfl)
        · exact ⟨by omega, b⟩
        · exact ⟨by omega, h⟩
      · rintro ⟨a, b⟩
        by_cases e : y = k
        · exact .inr e
        · exact .inl ⟨by omega, b⟩
theorem filt_congr {P Q : Nat → Bool} : ∀ k, (∀ i, i < k → P i = Q i) → filt P k = filt Q k
  | 0, _ => rfl
  | k + 1, h => by
    have ih := filt_congr k (fun i hi => h i (by omega))
    simp only [filt, h k (by omega), ih]
/-- The elements that cover just one. -/
def irrs (m j : Nat → Nat → Nat) (n : Nat) : List Nat := filt (irrB m j n) n
theorem irrs_ref {n : Nat} {m j : Nat → Nat → Nat} (h : Lat n m j) (h1 : 1 ≤ n) : filt (fun x => cntB (fun y => covB m x y n) n == 1) n = irrs m j n :=
  (filt_congr n fun _ hx => h.irr h1 hx).symm

end Go.Proofs.YthhnngmfbbljaaaGreat
