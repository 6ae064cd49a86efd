/-
  Plain facts on the end of a table: to what all elements come together; on the others of an element. No condition.
  The elements that cover just one, two ways: by the Join of all below, and by counting covers. Conditions: as each theorem says.
  A map between two lattices that keeps joins, and its way back, as plain mathematics. No condition but that both are lattices and the map goes from the one into the other. No Go text here.
  What implies what, in a distributive lattice: as plain mathematics. Conditions: a lattice of at least one element that is distributive. No Go text here.
-/
import Derived.Test.YtfkkjebgccnlnaaTriM
namespace Go.Proofs.Ytfkkjebgccnlnaa

/-- Where the first k elements come together. -/
def en (m : Nat → Nat → Nat) : Nat → Nat
  | 0 => 0
  | k + 1 => m (en m k) k
theorem en_lt {n : Nat} {m : Nat → Nat → Nat} (h1 : 1 ≤ n) (h : Inn n m) : ∀ k, k ≤ n → en m k < n
  | 0, _ => by show 0 < n; omega
  | k + 1, hk => h _ _ (en_lt h1 h k (by omega)) (by omega)
/-- Is y an other one of x? -/
def othB (n : Nat) (m j : Nat → Nat → Nat) (x y : Nat) : Bool := m x y == en m n && j x y == en j n
def oths (n : Nat) (m j : Nat → Nat → Nat) (x : Nat) : Nat → List Nat
  | 0 => []
  | k + 1 => if othB n m j x k = true then oths n m j x k ++ [k] else oths n m j x k
theorem oths_yes {n : Nat} {m j : Nat → Nat → Nat} {x k : Nat} (h : othB n m j x k = true) : oths n m j x (k + 1) = oths n m j x k ++ [k] := by simp [oths, h]
theorem oths_no {n : Nat} {m j : Nat → Nat → Nat} {x k : Nat} (h : othB n m j x k = false) : oths n m j x (k + 1) = oths n m j x k := by simp [oths, h]
theorem oths_len (n : Nat) (m j : Nat → Nat → Nat) (x : Nat) : ∀ k, (oths n m j x k).length ≤ k
  | 0 => by simp [oths]
  | k + 1 => by
    have ih := oths_len n m j x k
    cases h : othB n m j x k
    · rw [oths_no h]; omega
    · rw [oths_yes h, List.length_append]; simp; exact ih
theorem oths_mem (n : Nat) (m j : Nat → Nat → Nat) (x : Nat) : ∀ k y, y ∈ oths n m j x k ↔ y < k ∧ othB n m j x y = true
  | 0, y => by simp [oths]
  | k + 1, y => by
    cases hb : othB n m j x k
    · rw [oths_no hb, oths_mem n m j x k y]
      constructor
      · rintro ⟨h1, h2⟩; exact ⟨by omega, h2⟩
      · rintro ⟨h1, h2⟩
        refine ⟨?_, h2⟩
        by_cases e : y = k
        · subst e; rw [hb] at h2; cases h2
        · omega
    · rw [oths_yes hb, List.mem_append, oths_mem n m j x k y, List.mem_singleton]
      constructor
      · rintro (⟨h1, h2⟩ | rfl)
        · exact ⟨by omega, h2⟩
        · exact ⟨by omega, hb⟩
      · rintro ⟨h1, h2⟩
        by_cases e : y = k
        · exact .inr e
        · exact .inl ⟨by omega, h2⟩
/-- Each is an other one of its others. -/
theorem oth_back {n : Nat} {m j : Nat → Nat → Nat} (hL : Lat n m j) {x y : Nat} (hx : x < n) (hy : y < n) (h : othB n m j x y = true) : othB n m j y x = true := by
  unfold othB at *
  rw [(hL.lm.at hy hx hy).2.1, (hL.lj.at hy hx hy).2.1]; exact h
/-- Two members at most one: a rising list whose members are all the same. -/
theorem oths_one {n : Nat} {m j : Nat → Nat → Nat} {x : Nat} (h : ∀ y z, y < n → z < n → othB n m j x y = true → othB n m j x z = true → y = z) : ∀ k, k ≤ n → (oths n m j x k).length ≤ 1
  | 0, _ => by simp [oths]
  | k + 1, hk => by
    cases hb : othB n m j x k
    · rw [oths_no hb]; exact oths_one h k (by omega)
    · rw [oths_yes hb]
      have e : oths n m j x k = [] := by
        apply List.eq_nil_iff_forall_not_mem.2
        intro y hy
        have := (oths_mem n m j x k y).1 hy
        have := h y k (by omega) (by omega) this.2 hb
        omega
      rw [e]; simp
end Go.Proofs.Ytfkkjebgccnlnaa
namespace Go.Proofs.Ytfkkjebgccnlnaa

/-- How many of the first k are so? -/
def cntB (P : Nat → Bool) : Nat → Nat
  | 0 => 0
  | k + 1 => if P k = true then cntB P k + 1 else cntB P k
theorem cntB_yes {P : Nat → Bool} {k : Nat} (h : P k = true) : cntB P (k + 1) = cntB P k + 1 := by simp [cntB, h]
theorem cntB_no {P : Nat → Bool} {k : Nat} (h : P k = false) : cntB P (k + 1) = cntB P k := by simp [cntB, h]
theorem cntB_le (P : Nat → Bool) : ∀ k, cntB P k ≤ k
  | 0 => Nat.le_refl _
  | k + 1 => by
    have ih := cntB_le P k
    cases h : P k
    · rw [cntB_no h]; omega
    · rw [cntB_yes h]; omega
theorem cntB_mono {P Q : Nat → Bool} : ∀ k, (∀ i, i < k → P i = true → Q i = true) → cntB P k ≤ cntB Q k
  | 0, _ => Nat.le_refl _
  | k + 1, h => by
    have ih := cntB_mono k (fun i hi => h i (by omega))
    have hk := h k (by omega)
    cases hp : P k
    · rw [cntB_no hp]
      cases hq : Q k
      · rw [cntB_no hq]; exact ih
      · rw [cntB_yes hq]; omega
    · rw [cntB_yes hp, cntB_yes (hk hp)]; omega
theorem cntB_lt {P Q : Nat → Bool} : ∀ k, (∀ i, i < k → P i = true → Q i = true) → (∃ i, i < k ∧ P i = false ∧ Q i = true) → cntB P k < cntB Q k
  | 0, _, ⟨_, h, _⟩ => absurd h (Nat.not_lt_zero _)
  | k + 1, h, ⟨i, hi, hp, hq⟩ => by
    have hm := cntB_mono k (fun i hi => h i (by omega))
    by_cases e : i = k
    · subst e
      rw [cntB_no hp, cntB_yes hq]; omega
    · have ih := cntB_lt k (fun i hi => h i (by omega)) ⟨i, by omega, hp, hq⟩
      have hk := h k (by omega)
      cases hp : P k
      · rw [cntB_no hp]
        cases hq : Q k
        · rw [cntB_no hq]; exact ih
        · rw [cntB_yes hq]; omega
      · rw [cntB_yes hp, cntB_yes (hk hp)]; omega
theorem cntB_pos {P : Nat → Bool} : ∀ k, 0 < cntB P k → ∃ i, i < k ∧ P i = true
  | 0, h => absurd h (Nat.lt_irrefl _)
  | k + 1, h => by
    cases hp : P k
    · rw [cntB_no hp] at h
      obtain ⟨i, hi, hpi⟩ := cntB_pos k h
      exact ⟨i, by omega, hpi⟩
    · exact ⟨k, by omega, hp⟩
theorem cntB_zero {P : Nat → Bool} : ∀ k, (∀ i, i < k → P i = false) → cntB P k = 0
  | 0, _ => rfl
  | k + 1, h => by rw [cntB_no (h k (by omega))]; exact cntB_zero k (fun i hi => h i (by omega))
theorem cntB_one {P : Nat → Bool} : ∀ k, cntB P k = 1 ↔ ∃ i, i < k ∧ P i = true ∧ ∀ j, j < k → P j = true → j = i
  | 0 => ⟨fun h => (by cases h), fun ⟨_, h, _⟩ => absurd h (Nat.not_lt_zero _)⟩
  | k + 1 => by
    have ih := cntB_one (P := P) k
    cases hp : P k
    · rw [cntB_no hp, ih]
      constructor
      · rintro ⟨i, hi, h1, h2⟩
        refine ⟨i, by omega, h1, fun j hj h => h2 j ?_ h⟩
        have : j ≠ k := fun e => by subst e; rw [hp] at h; cases h
        omega
      · rintro ⟨i, hi, h1, h2⟩
        have : i ≠ k := fun e => by subst e; rw [hp] at h1; cases h1
        exact ⟨i, by omega, h1, fun j hj h => h2 j (by omega) h⟩
    · rw [cntB_yes hp]
      constructor
      · intro h
        have h0 : cntB P k = 0 := by omega
        refine ⟨k, by omega, hp, fun j hj hpj => ?_⟩
        apply Classical.byContradiction
        intro e
        have : cntB (fun _ => false) k < cntB P k := cntB_lt k (fun _ _ h => by cases h) ⟨j, by omega, rfl, hpj⟩
        omega
      · rintro ⟨i, hi, h1, h2⟩
        have e : k = i := h2 k (by omega) hp
        rw [cntB_zero k (fun j hj => by
          cases hpj : P j
          · rfl
          · have := h2 j (by omega) hpj; omega)]

/-- Is x below y, or y? -/
def leB (m : Nat → Nat → Nat) (x y : Nat) : Bool := m x y == x
def ltB (m : Nat → Nat → Nat) (x y : Nat) : Bool := !(x == y) && m x y == x
/-- The Join of all below x, of the first k. -/
def jbl (m j : Nat → Nat → Nat) (n x : Nat) : Nat → Nat
  | 0 => en m n
  | k + 1 => if ltB m k x = true then j (jbl m j n x k) k else jbl m j n x k
theorem jbl_yes {m j : Nat → Nat → Nat} {n x k : Nat} (h : ltB m k x = true) : jbl m j n x (k + 1) = j (jbl m j n x k) k := by simp [jbl, h]
theorem jbl_no {m j : Nat → Nat → Nat} {n x k : Nat} (h : ltB m k x = false) : jbl m j n x (k + 1) = jbl m j n x k := by simp [jbl, h]
theorem jbl_lt {m j : Nat → Nat → Nat} {n x : Nat} (h1 : 1 ≤ n) (hm : Inn n m) (hj : Inn n j) : ∀ k, k ≤ n → jbl m j n x k < n
  | 0, _ => en_lt h1 hm n (Nat.le_refl _)
  | k + 1, hk => by
    have ih := jbl_lt (x := x) h1 hm hj k (by omega)
    cases h : ltB m k x
    · rw [jbl_no h]; exact ih
    · rw [jbl_yes h]; exact hj _ _ ih (by omega)
def irrB (m j : Nat → Nat → Nat) (n x : Nat) : Bool := !(jbl m j n x n == x)

/-- The laws by numbers. -/
theorem Lat.le_refl {n : Nat} {m j : Nat → Nat → Nat} (h : Lat n m j) {x : Nat} (hx : x < n) : m x x = x := (h.lm.at hx hx hx).1
theorem Lat.comm {n : Nat} {m j : Nat → Nat → Nat} (h : Lat n m j) {x y : Nat} (hx : x < n) (hy : y < n) : m x y = m y x := (h.lm.at hx hy hx).2.1
theorem Lat.assoc {n : Nat} {m j : Nat → Nat → Nat} (h : Lat n m j) {x y z : Nat} (hx : x < n) (hy : y < n) (hz : z < n) : m x (m y z) = m (m x y) z := (h.lm.at hx hy hz).2.2.1
theorem Lat.absorb {n : Nat} {m j : Nat → Nat → Nat} (h : Lat n m j) {x y : Nat} (hx : x < n) (hy : y < n) : m x (j x y) = x := (h.lm.at hx hy hx).2.2.2
theorem Lat.le_tr {n : Nat} {m j : Nat → Nat → Nat} (h : Lat n m j) {x y z : Nat} (hx : x < n) (hy : y < n) (hz : z < n) (h1 : m x y = x) (h2 : m y z = y) : m x z = x := by
  have := h.assoc hx hy hz
  rw [h2, h1] at this
  exact this.symm
theorem Lat.le_anti {n : Nat} {m j : Nat → Nat → Nat} (h : Lat n m j) {x y : Nat} (hx : x < n) (hy : y < n) (h1 : m x y = x) (h2 : m y x = y) : x = y := by
  rw [h.comm hy hx, h1] at h2; exact h2
theorem Lat.le_join {n : Nat} {m j : Nat → Nat → Nat} (h : Lat n m j) {x y : Nat} (hx : x < n) (hy : y < n) : m x y = x ↔ j x y = y := by
  constructor
  · intro k
    have := h.turn.absorb hy hx
    rw [h.comm hy hx, k, h.turn.comm hy hx] at this
    exact this
  · intro k
    have := h.absorb hx hy
    rw [k] at this; exact this
theorem Lat.join_l {n : Nat} {m j : Nat → Nat → Nat} (h : Lat n m j) {x y : Nat} (hx : x < n) (hy : y < n) : m x (j x y) = x := h.absorb hx hy
theorem Lat.join_r {n : Nat} {m j : Nat → Nat → Nat} (h : Lat n m j) {x y : Nat} (hx : x < n) (hy : y < n) : m y (j x y) = y := by
  rw [h.turn.comm hx hy]; exact h.absorb hy hx
theorem Lat.join_lub {n : Nat} {m j : Nat → Nat → Nat} (h : Lat n m j) {x y z : Nat} (hx : x < n) (hy : y < n) (hz : z < n) (h1 : m x z = x) (h2 : m y z = y) : m (j x y) z = j x y := by
  rw [h.le_join (h.ij _ _ hx hy) hz, ← h.turn.assoc hx hy hz, (h.le_join hy hz).1 h2, (h.le_join hx hz).1 h1]
theorem Lat.meet_l {n : Nat} {m j : Nat → Nat → Nat} (h : Lat n m j) {x y : Nat} (hx : x < n) (hy : y < n) : m (m x y) x = m x y := by
  rw [h.comm (h.im _ _ hx hy) hx, h.assoc hx hx hy, h.le_refl hx]
theorem Lat.meet_r {n : Nat} {m j : Nat → Nat → Nat} (h : Lat n m j) {x y : Nat} (hx : x < n) (hy : y < n) : m (m x y) y = m x y := by
  rw [← h.assoc hx hy hy, h.le_refl hy]
theorem Lat.meet_glb {n : Nat} {m j : Nat → Nat → Nat} (h : Lat n m j) {x y z : Nat} (hx : x < n) (hy : y < n) (hz : z < n) (h1 : m z x = z) (h2 : m z y = z) : m z (m x y) = z := by
  rw [h.assoc hz hx hy, h1, h2]
theorem Lat.en_le {n : Nat} {m j : Nat → Nat → Nat} (h : Lat n m j) (h1 : 1 ≤ n) : ∀ k, k ≤ n → ∀ x, x < k → m (en m k) x = en m k
  | 0, _, x, hx => absurd hx (Nat.not_lt_zero _)
  | k + 1, hk, x, hx => by
    have ih := Lat.en_le h h1 k (by omega)
    have he := en_lt h1 h.im k (by omega)
    have hkn : k < n := by omega
    show m (m (en m k) k) x = m (en m k) k
    by_cases e : x = k
    · subst e; exact h.meet_r he hkn
    · exact h.le_tr (h.im _ _ he hkn) he (by omega) (h.meet_l he hkn) (ih x (by omega))
theorem Lat.least {n : Nat} {m j : Nat → Nat → Nat} (h : Lat n m j) (h1 : 1 ≤ n) {x : Nat} (hx : x < n) : m (en m n) x = en m n := h.en_le h1 n (Nat.le_refl _) x hx
theorem ltB_iff {m : Nat → Nat → Nat} {x y : Nat} : ltB m x y = true ↔ x ≠ y ∧ m x y = x := by simp [ltB]
theorem Lat.jbl_up {n : Nat} {m j : Nat → Nat → Nat} (h : Lat n m j) (h1 : 1 ≤ n) {x : Nat} (hx : x < n) : ∀ k, k ≤ n → m (jbl m j n x k) x = jbl m j n x k
  | 0, _ => h.least h1 hx
  | k + 1, hk => by
    have ih := Lat.jbl_up h h1 hx k (by omega)
    have hl := jbl_lt (x := x) h1 h.im h.ij k (by omega)
    cases e : ltB m k x
    · rw [jbl_no e]; exact ih
    · rw [jbl_yes e]; exact h.join_lub hl (by omega) hx ih (ltB_iff.1 e).2
theorem Lat.jbl_over {n : Nat} {m j : Nat → Nat → Nat} (h : Lat n m j) (h1 : 1 ≤ n) {x : Nat} : ∀ k, k ≤ n → ∀ y, y < k → ltB m y x = true → m y (jbl m j n x k) = y
  | 0, _, y, hy, _ => absurd hy (Nat.not_lt_zero _)
  | k + 1, hk, y, hy, hl => by
    have ih := Lat.jbl_over h h1 (x := x) k (by omega)
    have hj := jbl_lt (x := x) h1 h.im h.ij k (by omega)
    by_cases ey : y = k
    · subst ey
      rw [jbl_yes hl]; exact h.join_r hj (by omega)
    · have := ih y (by omega) hl
      cases e : ltB m k x
      · rw [jbl_no e]; exact this
      · rw [jbl_yes e]; exact h.le_tr (by omega) hj (h.ij _ _ hj (by omega)) this (h.join_l hj (by omega))
/-- The Join of all below x is the least that all below x are up to. -/
theorem Lat.jbl_least {n : Nat} {m j : Nat → Nat → Nat} (h : Lat n m j) (h1 : 1 ≤ n) {x c : Nat} (hc : c < n) (hu : ∀ y, y < n → ltB m y x = true → m y c = y) : ∀ k, k ≤ n → m (jbl m j n x k) c = jbl m j n x k
  | 0, _ => h.least h1 hc
  | k + 1, hk => by
    have ih := Lat.jbl_least h h1 hc hu k (by omega)
    have hl := jbl_lt (x := x) h1 h.im h.ij k (by omega)
    cases e : ltB m k x
    · rw [jbl_no e]; exact ih
    · rw [jbl_yes e]; exact h.join_lub hl (by omega) hc ih (hu k (by omega) e)

/-- Does x cover y? As the reference's rounds ask it. -/
def covT (m : Nat → Nat → Nat) (x y z : Nat) : Bool := z == x || (z == y || (!(leB m y z) || !(leB m z x)))
def covB (m : Nat → Nat → Nat) (x y : Nat) : Nat → Bool
  | 0 => !(y == x) && leB m y x
  | k + 1 => covB m x y k && covT m x y k
theorem covB_iff {m : Nat → Nat → Nat} {x y : Nat} : ∀ k, covB m x y k = true ↔ (y ≠ x ∧ m y x = y) ∧ ∀ z, z < k → z = x ∨ z = y ∨ ¬ m y z = y ∨ ¬ m z x = z
  | 0 => by simp [covB, leB]
  | k + 1 => by
    have ih := covB_iff (m := m) (x := x) (y := y) k
    simp only [covB, Bool.and_eq_true, ih]
    have ht : covT m x y k = true ↔ k = x ∨ k = y ∨ ¬ m y k = y ∨ ¬ m k x = k := by simp [covT, leB]
    rw [ht]
    constructor
    · rintro ⟨⟨h1, h2⟩, h3⟩
      refine ⟨h1, fun z hz => ?_⟩
      by_cases e : z = k
      · subst e; exact h3
      · exact h2 z (by omega)
    · rintro ⟨h1, h2⟩
      exact ⟨⟨h1, fun z hz => h2 z (by omega)⟩, h2 k (by omega)⟩
/-- Above a y below x that is not up to c there is a cover of x that is not up to c. -/
theorem Lat.cover {n : Nat} {m j : Nat → Nat → Nat} (h : Lat n m j) {x c : Nat} (hx : x < n) (hc : c < n) : ∀ N y, y < n → cntB (leB m y) n ≤ N → ltB m y x = true → m y c ≠ y → ∃ d, d < n ∧ covB m x d n = true ∧ m d c ≠ d
  | 0, y, hy, hN, _, _ => by
    have : cntB (fun _ => false) n < cntB (leB m y) n := cntB_lt n (fun _ _ h => by cases h) ⟨y, hy, rfl, by simp [leB, h.le_refl hy]⟩
    omega
  | N + 1, y, hy, hN, hlt, hne => by
    by_cases hcov : covB m x y n = true
    · exact ⟨y, hy, hcov, hne⟩
    · have hl := ltB_iff.1 hlt
      have : ∃ z, z < n ∧ z ≠ x ∧ z ≠ y ∧ m y z = y ∧ m z x = z := by
        apply Classical.byContradiction
        intro hno
        apply hcov
        rw [covB_iff]
        refine ⟨hl, fun z hz => ?_⟩
        by_cases e1 : z = x
        · exact .inl e1
        by_cases e2 : z = y
        · exact .inr (.inl e2)
        by_cases e3 : m y z = y
        · by_cases e4 : m z x = z
          · exact absurd ⟨z, hz, e1, e2, e3, e4⟩ hno
          · exact .inr (.inr (.inr e4))
        · exact .inr (.inr (.inl e3))
      obtain ⟨z, hz, e1, e2, e3, e4⟩ := this
      have hcz : cntB (leB m z) n < cntB (leB m y) n := by
        refine cntB_lt n (fun i hi hzi => ?_) ⟨y, hy, ?_, by simp [leB, h.le_refl hy]⟩
        · simp only [leB, beq_iff_eq] at hzi ⊢
          exact h.le_tr hy hz hi e3 hzi
        · simp only [leB, beq_eq_false_iff_ne, ne_eq]
          intro e
          exact e2 (h.le_anti hz hy e e3)
      exact Lat.cover h hx hc N z hz (by omega) (ltB_iff.2 ⟨e1, e4⟩) (fun e => hne (h.le_tr hy hz hc e3 e))
theorem Lat.irr {n : Nat} {m j : Nat → Nat → Nat} (h : Lat n m j) (h1 : 1 ≤ n) {x : Nat} (hx : x < n) : irrB m j n x = (cntB (fun y => covB m x y n) n == 1) := by
  rw [Bool.eq_iff_iff, beq_iff_eq, cntB_one]
  have hJ := jbl_lt (x := x) h1 h.im h.ij n (Nat.le_refl _)
  have hup := h.jbl_up h1 hx n (Nat.le_refl _)
  have hov := fun y hy => h.jbl_over h1 (x := x) n (Nat.le_refl _) y hy
  simp only [irrB, Bool.not_eq_true', beq_eq_false_iff_ne, ne_eq]
  constructor
  · intro hne
    refine ⟨jbl m j n x n, hJ, (covB_iff n).2 ⟨⟨hne, hup⟩, fun z hz => ?_⟩, fun y hy hcy => ?_⟩
    · by_cases e1 : z = x
      · exact .inl e1
      by_cases e4 : m z x = z
      · have := hov z hz (ltB_iff.2 ⟨e1, e4⟩)
        by_cases e3 : m (jbl m j n x n) z = jbl m j n x n
        · exact .inr (.inl (h.le_anti hz hJ this e3))
        · exact .inr (.inr (.inl e3))
      · exact .inr (.inr (.inr e4))
    · obtain ⟨hl, hz⟩ := (covB_iff n).1 hcy
      have h2 := hov y hy (ltB_iff.2 hl)
      rcases hz _ hJ with e | e | e | e
      · exact absurd e hne
      · exact e.symm
      · exact absurd h2 e
      · exact absurd hup e
  · rintro ⟨c, hc, hcc, hu⟩ e
    obtain ⟨hl, _⟩ := (covB_iff n).1 hcc
    have hall : ∀ y, y < n → ltB m y x = true → m y c = y := by
      intro y hy hlt
      apply Classical.byContradiction
      intro hne
      obtain ⟨d, hd, hcd, hnd⟩ := h.cover hx hc _ y hy (Nat.le_refl _) hlt hne
      have := hu d hd hcd
      subst this
      exact hnd (h.le_refl hd)
    have := h.jbl_least h1 hc hall n (Nat.le_refl _)
    rw [e] at this
    exact hl.1 (h.le_anti hc hx hl.2 this)

/-- The list of those of the first k that are so. -/
def filt (P : Nat → Bool) : Nat → List Nat
  | 0 => []
  | k + 1 => if P k = true then filt P k ++ [k] else filt P k
theorem filt_yes {P : Nat → Bool} {k : Nat} (h : P k = true) : filt P (k + 1) = filt P k ++ [k] := by simp [filt, h]
theorem filt_no {P : Nat → Bool} {k : Nat} (h : P k = false) : filt P (k + 1) = filt P k := by simp [filt, h]
theorem filt_len (P : Nat → Bool) : ∀ k, (filt P k).length ≤ k
  | 0 => by simp [filt]
  | k + 1 => by
    have ih := filt_len P k
    cases h : P k
    · rw [filt_no h]; omega
    · rw [filt_yes h, List.length_append]; simp; exact ih
theorem filt_mem (P : Nat → Bool) : ∀ k y, y ∈ filt P k ↔ y < k ∧ P y = true
  | 0, y => by simp [filt]
  | k + 1, y => by
    have ih := filt_mem P k y
    cases h : P k
    · rw [filt_no h, ih]
      constructor
      · rintro ⟨a, b⟩; exact ⟨by omega, b⟩
      · rintro ⟨a, b⟩
        have : y ≠ k := fun e => by subst e; rw [h] at b; cases b
        exact ⟨by omega, b⟩
    · rw [filt_yes h, List.mem_append, ih, List.mem_singleton]
      constructor
      · rintro (⟨a, b⟩ | rfl)
        · exact ⟨by omega, b⟩
        · exact ⟨by omega, h⟩
      · rintro ⟨a, b⟩
        by_cases e : y = k
        · exact .inr e
        · exact .inl ⟨by omega, b⟩
theorem filt_congr {P Q : Nat → Bool} : ∀ k, (∀ i, i < k → P i = Q i) → filt P k = filt Q k
  | 0, _ => rfl
  | k + 1, h => by
    have ih := filt_congr k (fun i hi => h i (by omega))
    simp only [filt, h k (by omega), ih]
/-- The elements that cover just one. -/
def irrs (m j : Nat → Nat → Nat) (n : Nat) : List Nat := filt (irrB m j n) n
theorem irrs_ref {n : Nat} {m j : Nat → Nat → Nat} (h : Lat n m j) (h1 : 1 ≤ n) : filt (fun x => cntB (fun y => covB m x y n) n == 1) n = irrs m j n :=
  (filt_congr n fun _ hx => h.irr h1 hx).symm

end Go.Proofs.Ytfkkjebgccnlnaa
namespace Go.Proofs.Ytfkkjebgccnlnaa

/-- It goes from n elements into n'. -/
def Mp (n n' : Nat) (f : Nat → Nat) : Prop := ∀ x, x < n → f x < n'
/-- It keeps joins. -/
def Keep (n : Nat) (m j : Nat → Nat → Nat) (n' : Nat) (m' j' : Nat → Nat → Nat) (f : Nat → Nat) : Prop :=
  f (en m n) = en m' n' ∧ ∀ x y, x < n → y < n → f (j x y) = j' (f x) (f y)
/-- The Join of all elements below k whose f is y or below it. -/
def jun (n : Nat) (m j m' : Nat → Nat → Nat) (f : Nat → Nat) (y : Nat) : Nat → Nat
  | 0 => en m n
  | k + 1 => if leB m' (f k) y = true then j (jun n m j m' f y k) k else jun n m j m' f y k
theorem jun_yes {n : Nat} {m j m' : Nat → Nat → Nat} {f : Nat → Nat} {y k : Nat} (h : leB m' (f k) y = true) : jun n m j m' f y (k + 1) = j (jun n m j m' f y k) k := by simp [jun, h]
theorem jun_no {n : Nat} {m j m' : Nat → Nat → Nat} {f : Nat → Nat} {y k : Nat} (h : leB m' (f k) y = false) : jun n m j m' f y (k + 1) = jun n m j m' f y k := by simp [jun, h]
theorem jun_lt {n : Nat} {m j m' : Nat → Nat → Nat} {f : Nat → Nat} {y : Nat} (h1 : 1 ≤ n) (hm : Inn n m) (hj : Inn n j) : ∀ k, k ≤ n → jun n m j m' f y k < n
  | 0, _ => en_lt h1 hm n (Nat.le_refl _)
  | k + 1, hk => by
    rcases h : leB m' (f k) y with _ | _
    · rw [jun_no h]; exact jun_lt h1 hm hj k (by omega)
    · rw [jun_yes h]; exact hj _ _ (jun_lt h1 hm hj k (by omega)) (by omega)
theorem leB_iff {m : Nat → Nat → Nat} {x y : Nat} : leB m x y = true ↔ m x y = x := by simp [leB]
/-- The way back. -/
def bk (n : Nat) (m j m' : Nat → Nat → Nat) (f : Nat → Nat) (y : Nat) : Nat := jun n m j m' f y n

section
variable {n n' : Nat} {m j m' j' : Nat → Nat → Nat} {f : Nat → Nat}

theorem jun_over (h : Lat n m j) (h1 : 1 ≤ n) {y : Nat} : ∀ k, k ≤ n → ∀ x, x < k → m' (f x) y = f x → m x (jun n m j m' f y k) = x
  | 0, _, x, hx, _ => absurd hx (Nat.not_lt_zero _)
  | k + 1, hk, x, hx, hl => by
    have hJ := jun_lt (m' := m') (f := f) (y := y) h1 h.im h.ij k (by omega)
    by_cases e : x = k
    · subst e
      rw [jun_yes (leB_iff.2 hl)]
      exact h.join_r hJ (by omega)
    · have ih := jun_over h h1 (y := y) k (by omega) x (by omega) hl
      rcases q : leB m' (f k) y with _ | _
      · rw [jun_no q]; exact ih
      · rw [jun_yes q]
        exact h.le_tr (by omega) hJ (h.ij _ _ hJ (by omega)) ih (h.join_l hJ (by omega))
theorem jun_under (h : Lat n m j) (h1 : 1 ≤ n) (h' : Lat n' m' j') (h1' : 1 ≤ n') (hf : Mp n n' f) (hK : Keep n m j n' m' j' f) {y : Nat} (hy : y < n') : ∀ k, k ≤ n → m' (f (jun n m j m' f y k)) y = f (jun n m j m' f y k)
  | 0, _ => by
    show m' (f (en m n)) y = f (en m n)
    rw [hK.1]; exact h'.least h1' hy
  | k + 1, hk => by
    have hJ := jun_lt (m' := m') (f := f) (y := y) h1 h.im h.ij k (by omega)
    have ih := jun_under h h1 h' h1' hf hK hy k (by omega)
    rcases q : leB m' (f k) y with _ | _
    · rw [jun_no q]; exact ih
    · rw [jun_yes q, hK.2 _ _ hJ (by omega)]
      exact h'.join_lub (hf _ hJ) (hf _ (by omega)) hy ih (leB_iff.1 q)
theorem keep_mono (h : Lat n m j) (h' : Lat n' m' j') (hf : Mp n n' f) (hK : Keep n m j n' m' j' f) {x z : Nat} (hx : x < n) (hz : z < n) (hl : m x z = x) : m' (f x) (f z) = f x := by
  have e := (h.le_join hx hz).1 hl
  have := hK.2 x z hx hz
  rw [e] at this
  exact (h'.le_join (hf x hx) (hf z hz)).2 this.symm
theorem bk_lt (h : Lat n m j) (h1 : 1 ≤ n) (y : Nat) : bk n m j m' f y < n := jun_lt h1 h.im h.ij n (Nat.le_refl _)
/-- GALOIS: there and back. -/
theorem bk_iff (h : Lat n m j) (h1 : 1 ≤ n) (h' : Lat n' m' j') (h1' : 1 ≤ n') (hf : Mp n n' f) (hK : Keep n m j n' m' j' f) {x y : Nat} (hx : x < n) (hy : y < n') : m' (f x) y = f x ↔ m x (bk n m j m' f y) = x := by
  have hJ := bk_lt (m' := m') (f := f) h h1 y
  constructor
  · exact fun hl => jun_over h h1 n (Nat.le_refl _) x hx hl
  · intro hl
    exact h'.le_tr (hf x hx) (hf _ hJ) hy (keep_mono h h' hf hK hx hJ hl) (jun_under h h1 h' h1' hf hK hy n (Nat.le_refl _))
/-- ORE: what has a way back keeps joins. -/
theorem keep_of_back (h : Lat n m j) (h1 : 1 ≤ n) (h' : Lat n' m' j') (h1' : 1 ≤ n') (hf : Mp n n' f) (g : Nat → Nat) (hg : ∀ y, y < n' → g y < n ∧ ∀ z, z < n → (m' (f z) y = f z ↔ m z (g y) = z)) : Keep n m j n' m' j' f := by
  have hmono : ∀ x z, x < n → z < n → m x z = x → m' (f x) (f z) = f x := fun x z hx hz hl => by
    have hG := hg (f z) (hf z hz)
    exact (hG.2 x hx).2 (h.le_tr hx hz hG.1 hl ((hG.2 z hz).1 (h'.le_refl (hf z hz))))
  have hE := en_lt h1 h.im n (Nat.le_refl _)
  have hE' := en_lt h1' h'.im n' (Nat.le_refl _)
  refine ⟨?_, fun x y hx hy => ?_⟩
  · refine h'.le_anti (hf _ hE) hE' ?_ (h'.least h1' (hf _ hE))
    exact ((hg _ hE').2 _ hE).2 (h.least h1 (hg _ hE').1)
  · have hxy := h.ij x y hx hy
    have ht := h'.ij _ _ (hf x hx) (hf y hy)
    have hG := hg _ ht
    refine h'.le_anti (hf _ hxy) ht ?_ ?_
    · refine (hG.2 _ hxy).2 (h.join_lub hx hy hG.1 ?_ ?_)
      · exact (hG.2 x hx).1 (h'.join_l (hf x hx) (hf y hy))
      · exact (hG.2 y hy).1 (h'.join_r (hf x hx) (hf y hy))
    · exact h'.join_lub (hf x hx) (hf y hy) (hf _ hxy) (hmono x _ hx hxy (h.join_l hx hy)) (hmono y _ hy hxy (h.join_r hx hy))
theorem bk_mono (h : Lat n m j) (h1 : 1 ≤ n) (h' : Lat n' m' j') (h1' : 1 ≤ n') (hf : Mp n n' f) (hK : Keep n m j n' m' j' f) {y z : Nat} (hy : y < n') (hz : z < n') (hl : m' y z = y) : m (bk n m j m' f y) (bk n m j m' f z) = bk n m j m' f y := by
  have hJ := bk_lt (m' := m') (f := f) h h1 y
  exact (bk_iff h h1 h' h1' hf hK hJ hz).1 (h'.le_tr (hf _ hJ) hy hz ((bk_iff h h1 h' h1' hf hK hJ hy).2 (h.le_refl hJ)) hl)
theorem bk_up (h : Lat n m j) (h1 : 1 ≤ n) (h' : Lat n' m' j') (h1' : 1 ≤ n') (hf : Mp n n' f) (hK : Keep n m j n' m' j' f) {x : Nat} (hx : x < n) : m x (bk n m j m' f (f x)) = x :=
  (bk_iff h h1 h' h1' hf hK hx (hf x hx)).1 (h'.le_refl (hf x hx))
theorem bk_down (h : Lat n m j) (h1 : 1 ≤ n) (h' : Lat n' m' j') (h1' : 1 ≤ n') (hf : Mp n n' f) (hK : Keep n m j n' m' j' f) {y : Nat} (hy : y < n') : m' (f (bk n m j m' f y)) y = f (bk n m j m' f y) :=
  (bk_iff h h1 h' h1' hf hK (bk_lt h h1 y) hy).2 (h.le_refl (bk_lt h h1 y))
/-- There, back and there is there. -/
theorem bk_there (h : Lat n m j) (h1 : 1 ≤ n) (h' : Lat n' m' j') (h1' : 1 ≤ n') (hf : Mp n n' f) (hK : Keep n m j n' m' j' f) {x : Nat} (hx : x < n) : f (bk n m j m' f (f x)) = f x :=
  h'.le_anti (hf _ (bk_lt h h1 _)) (hf x hx) (bk_down h h1 h' h1' hf hK (hf x hx)) (keep_mono h h' hf hK hx (bk_lt h h1 _) (bk_up h h1 h' h1' hf hK hx))
theorem bk_back (h : Lat n m j) (h1 : 1 ≤ n) (h' : Lat n' m' j') (h1' : 1 ≤ n') (hf : Mp n n' f) (hK : Keep n m j n' m' j' f) {y : Nat} (hy : y < n') : bk n m j m' f (f (bk n m j m' f y)) = bk n m j m' f y :=
  h.le_anti (bk_lt h h1 _) (bk_lt h h1 _) (bk_mono h h1 h' h1' hf hK (hf _ (bk_lt h h1 _)) hy (bk_down h h1 h' h1' hf hK hy)) (bk_up h h1 h' h1' hf hK (bk_lt h h1 _))
/-- Back keeps meets. -/
theorem bk_meet (h : Lat n m j) (h1 : 1 ≤ n) (h' : Lat n' m' j') (h1' : 1 ≤ n') (hf : Mp n n' f) (hK : Keep n m j n' m' j' f) {y z : Nat} (hy : y < n') (hz : z < n') : bk n m j m' f (m' y z) = m (bk n m j m' f y) (bk n m j m' f z) := by
  have a := bk_lt (m' := m') (f := f) h h1 y
  have b := bk_lt (m' := m') (f := f) h h1 z
  have c := h'.im y z hy hz
  have d := h.im _ _ a b
  refine h.le_anti (bk_lt h h1 _) d ?_ ?_
  · exact h.meet_glb a b (bk_lt h h1 _) (bk_mono h h1 h' h1' hf hK c hy (h'.meet_l hy hz)) (bk_mono h h1 h' h1' hf hK c hz (h'.meet_r hy hz))
  · refine (bk_iff h h1 h' h1' hf hK d c).1 (h'.meet_glb hy hz (hf _ d) ?_ ?_)
    · exact (bk_iff h h1 h' h1' hf hK d hy).2 (h.meet_l a b)
    · exact (bk_iff h h1 h' h1' hf hK d hz).2 (h.meet_r a b)
end

/-- The reference: is x so of all z below k? -/
def bkA (m m' : Nat → Nat → Nat) (f : Nat → Nat) (y x : Nat) : Nat → Bool
  | 0 => true
  | k + 1 => bkA m m' f y x k && (leB m' (f k) y == leB m k x)
theorem bkA_iff {m m' : Nat → Nat → Nat} {f : Nat → Nat} {y x : Nat} : ∀ k, bkA m m' f y x k = true ↔ ∀ z, z < k → (m' (f z) y = f z ↔ m z x = z)
  | 0 => by simp [bkA]
  | k + 1 => by
    have q : ((leB m' (f k) y == leB m k x) = true) ↔ (m' (f k) y = f k ↔ m k x = k) := by
      rw [beq_iff_eq, Bool.eq_iff_iff, leB_iff, leB_iff]
    rw [bkA, Bool.and_eq_true, bkA_iff k, q]
    constructor
    · rintro ⟨a, b⟩ z hz
      by_cases e : z = k
      · subst e; exact b
      · exact a z (by omega)
    · exact fun a => ⟨fun z hz => a z (by omega), a k (by omega)⟩
/-- The last one below k of which it is so. -/
def topA (n : Nat) (m m' : Nat → Nat → Nat) (f : Nat → Nat) (y : Nat) : Nat → Int
  | 0 => -1
  | k + 1 => if bkA m m' f y k n = true then (k : Nat) else topA n m m' f y k
theorem topA_none {n : Nat} {m m' : Nat → Nat → Nat} {f : Nat → Nat} {y : Nat} : ∀ k, (∀ x, x < k → bkA m m' f y x n = false) → topA n m m' f y k = -1
  | 0, _ => rfl
  | k + 1, h => by simp [topA, h k (by omega)]; exact topA_none k fun x hx => h x (by omega)
theorem topA_some {n : Nat} {m m' : Nat → Nat → Nat} {f : Nat → Nat} {y : Nat} : ∀ k, (∃ x, x < k ∧ bkA m m' f y x n = true) → ∃ x, x < k ∧ bkA m m' f y x n = true ∧ topA n m m' f y k = (x : Nat)
  | 0, h => by obtain ⟨x, hx, _⟩ := h; exact absurd hx (Nat.not_lt_zero _)
  | k + 1, h => by
    by_cases q : bkA m m' f y k n = true
    · exact ⟨k, by omega, q, by simp [topA, q]⟩
    · obtain ⟨x, hx, hb⟩ := h
      obtain ⟨x', h1, h2, h3⟩ := topA_some k ⟨x, by (have : x ≠ k := fun e => q (e ▸ hb)); omega, hb⟩
      exact ⟨x', by omega, h2, by simp [topA, q, h3]⟩
theorem topA_keep {n n' : Nat} {m j m' j' : Nat → Nat → Nat} {f : Nat → Nat} (h : Lat n m j) (h1 : 1 ≤ n) (h' : Lat n' m' j') (h1' : 1 ≤ n') (hf : Mp n n' f) (hK : Keep n m j n' m' j' f) {y : Nat} (hy : y < n') : topA n m m' f y n = (bk n m j m' f y : Nat) := by
  have hJ := bk_lt (m' := m') (f := f) h h1 y
  obtain ⟨x, hx, hb, e⟩ := topA_some n ⟨_, hJ, (bkA_iff n).2 fun z hz => bk_iff h h1 h' h1' hf hK hz hy⟩
  rw [e]
  have hx' := (bkA_iff n).1 hb
  have : x = bk n m j m' f y := h.le_anti hx hJ ((bk_iff h h1 h' h1' hf hK hx hy).1 ((hx' x hx).2 (h.le_refl hx))) ((hx' _ hJ).1 ((bk_iff h h1 h' h1' hf hK hJ hy).2 (h.le_refl hJ)))
  rw [this]
theorem topA_not {n n' : Nat} {m j m' j' : Nat → Nat → Nat} {f : Nat → Nat} (h : Lat n m j) (h1 : 1 ≤ n) (h' : Lat n' m' j') (h1' : 1 ≤ n') (hf : Mp n n' f) (hK : ¬ Keep n m j n' m' j' f) : ∃ y, y < n' ∧ topA n m m' f y n = -1 := by
  apply Classical.byContradiction
  intro hno
  apply hK
  have key : ∀ y, ∃ x, y < n' → x < n ∧ ∀ z, z < n → (m' (f z) y = f z ↔ m z x = z) := fun y => by
    by_cases hy : y < n'
    · by_cases q : ∃ x, x < n ∧ bkA m m' f y x n = true
      · obtain ⟨x, hx, hb⟩ := q
        exact ⟨x, fun _ => ⟨hx, (bkA_iff n).1 hb⟩⟩
      · exact absurd ⟨y, hy, topA_none n fun x hx => by
          rcases r : bkA m m' f y x n with _ | _
          · rfl
          · exact absurd ⟨x, hx, r⟩ q⟩ hno
    · exact ⟨0, fun h => absurd h hy⟩
  obtain ⟨g, hg⟩ := Classical.axiomOfChoice key
  exact keep_of_back h h1 h' h1' hf g hg
theorem topA_ge {n : Nat} {m m' : Nat → Nat → Nat} {f : Nat → Nat} {y : Nat} : ∀ k, topA n m m' f y k = -1 ∨ ∃ x : Nat, x < k ∧ topA n m m' f y k = x
  | 0 => .inl rfl
  | k + 1 => by
    by_cases q : bkA m m' f y k n = true
    · exact .inr ⟨k, by omega, by simp [topA, q]⟩
    · rcases topA_ge (n := n) (m := m) (m' := m') (f := f) (y := y) k with e | ⟨x, hx, e⟩
      · exact .inl (by simp [topA, q, e])
      · exact .inr ⟨x, by omega, by simp [topA, q, e]⟩

end Go.Proofs.Ytfkkjebgccnlnaa
namespace Go.Proofs.Ytfkkjebgccnlnaa

section
variable {α : Type} {L : AL α} {I : α → α → α} {o t : α}
/-- What implies the least element. -/
def nI (I : α → α → α) (o x : α) : α := I x o
theorem nI_low (hI : ∀ x y z, L.le (L.m z x) y ↔ L.le z (I x y)) (x : α) : L.le (L.m x (nI I o x)) o := by
  rw [L.mc]; exact (hI x o _).2 (L.refl _)
theorem nI_up (hI : ∀ x y z, L.le (L.m z x) y ↔ L.le z (I x y)) {x y : α} (h : L.le (L.m x y) o) : L.le x (nI I o y) := (hI y o x).1 h
theorem nn_up (hI : ∀ x y z, L.le (L.m z x) y ↔ L.le z (I x y)) (x : α) : L.le x (nI I o (nI I o x)) := nI_up hI (nI_low hI x)
theorem nI_anti (hI : ∀ x y z, L.le (L.m z x) y ↔ L.le z (I x y)) {x y : α} (h : L.le x y) : L.le (nI I o y) (nI I o x) :=
  nI_up hI (L.trans (L.mm (L.refl _) h) (by rw [L.mc]; exact nI_low hI y))
theorem nn_meet (hI : ∀ x y z, L.le (L.m z x) y ↔ L.le z (I x y)) {x y : α} (hx : L.le (nI I o (nI I o x)) x) (hy : L.le (nI I o (nI I o y)) y) : L.le (nI I o (nI I o (L.m x y))) (L.m x y) :=
  L.glb (L.trans (nI_anti hI (nI_anti hI (L.ml x y))) hx) (L.trans (nI_anti hI (nI_anti hI (L.mr x y))) hy)
theorem nn_imp (hI : ∀ x y z, L.le (L.m z x) y ↔ L.le z (I x y)) {x y : α} (hy : L.le (nI I o (nI I o y)) y) : L.le (nI I o (nI I o (I x y))) (I x y) := by
  refine (hI x y _).1 (L.trans (nI_up hI ?_) hy)
  have h1 : L.le (L.m (I x y) x) y := (hI x y _).2 (L.refl _)
  have h2 : L.le (L.m x (nI I o y)) (nI I o (I x y)) := nI_up hI (by
    refine L.trans (L.glb ?_ ?_) (nI_low hI y)
    · refine L.trans ?_ h1
      exact L.glb (L.mr _ _) (L.trans (L.ml _ _) (L.ml _ _))
    · exact L.trans (L.ml _ _) (L.mr _ _))
  refine L.trans (L.glb (L.trans (L.ml _ _) (L.ml _ _)) (L.trans (L.glb (L.trans (L.ml _ _) (L.mr _ _)) (L.mr _ _)) h2)) ?_
  rw [L.mc]; exact nI_low hI _
theorem all_nn (hI : ∀ x y z, L.le (L.m z x) y ↔ L.le z (I x y)) (ho : ∀ x, L.le o x) (ht : ∀ x, L.le x t) (h : ∀ x, L.le (nI I o (nI I o x)) x) (x : α) : L.m x (nI I o x) = o ∧ L.j x (nI I o x) = t := by
  refine ⟨L.anti (nI_low hI x) (ho _), L.anti (ht _) ?_⟩
  refine L.trans ?_ (h _)
  refine nI_up hI (L.trans (L.mr _ _) ?_)
  have h1 : L.le (nI I o (L.j x (nI I o x))) (nI I o x) := nI_anti hI (L.jl _ _)
  have h2 : L.le (nI I o (L.j x (nI I o x))) (nI I o (nI I o x)) := nI_anti hI (L.jr _ _)
  exact L.trans (L.glb h1 h2) (nI_low hI _)
theorem oth_nn (hI : ∀ x y z, L.le (L.m z x) y ↔ L.le z (I x y)) (hd : L.Dis) (ho : ∀ x, L.le o x) (ht : ∀ x, L.le x t) {x y : α} (h1 : L.m x y = o) (h2 : L.j x y = t) : L.le (nI I o (nI I o x)) x := by
  have hy : L.le y (nI I o x) := nI_up hI (by rw [L.mc, h1]; exact L.refl _)
  have e : L.m (nI I o (nI I o x)) (L.j x y) = nI I o (nI I o x) := by rw [h2]; exact ht _
  rw [hd] at e
  rw [← e]
  refine L.lub (L.mr _ _) (L.trans ?_ (ho x))
  exact L.trans (L.mm (L.refl _) hy) (by rw [L.mc]; exact nI_low hI _)
end
section
variable {q : Nat} {m j : Nat → Nat → Nat}
/-- The greatest element that has, with x, nothing but what is below y. -/
def imp (q : Nat) (m j : Nat → Nat → Nat) (x y : Nat) : Nat := bk q m j m (fun z => m z x) y
theorem imp_lt (h : Lat q m j) (h1 : 1 ≤ q) (x y : Nat) : imp q m j x y < q := bk_lt h h1 y
theorem keep_meet (h : Lat q m j) (h1 : 1 ≤ q) (hd : All3 q (disB m j)) {x : Nat} (hx : x < q) : Keep q m j q m j (fun z => m z x) :=
  ⟨h.least h1 hx, fun a b ha hb => by
    have e := hd x a b hx ha hb
    simp only [disB, beq_iff_eq] at e
    show m (j a b) x = j (m a x) (m b x)
    rw [h.comm (h.ij a b ha hb) hx, e, h.comm hx ha, h.comm hx hb]⟩
theorem imp_iff (h : Lat q m j) (h1 : 1 ≤ q) (hd : All3 q (disB m j)) {x y z : Nat} (hx : x < q) (hy : y < q) (hz : z < q) : m (m z x) y = m z x ↔ m z (imp q m j x y) = z :=
  bk_iff h h1 h h1 (fun z hz => h.im z x hz hx) (keep_meet h h1 hd hx) hz hy
/-- The reference's look at z, the first k looked at. -/
def tpB (m : Nat → Nat → Nat) (x y z : Nat) : Nat → Bool
  | 0 => leB m (m x z) y
  | k + 1 => tpB m x y z k && (!leB m (m x k) y || leB m k z)
theorem tpB_iff {x y z : Nat} : ∀ k, tpB m x y z k = true ↔ m (m x z) y = m x z ∧ ∀ w, w < k → m (m x w) y = m x w → m w z = w
  | 0 => by simp [tpB, leB]
  | k + 1 => by
    rw [tpB, Bool.and_eq_true, tpB_iff k]
    constructor
    · rintro ⟨⟨h1, h2⟩, h3⟩
      refine ⟨h1, fun w hw hl => ?_⟩
      by_cases e : w = k
      · subst e
        rw [Bool.or_eq_true, Bool.not_eq_true'] at h3
        rcases h3 with h3 | h3
        · rw [leB_iff.2 hl] at h3; cases h3
        · exact leB_iff.1 h3
      · exact h2 w (by omega) hl
    · rintro ⟨h1, h2⟩
      refine ⟨⟨h1, fun w hw => h2 w (by omega)⟩, ?_⟩
      cases hl : leB m (m x k) y
      · rfl
      · simp [leB_iff.2 (h2 k (by omega) (leB_iff.1 hl))]
theorem tp_one (h : Lat q m j) (h1 : 1 ≤ q) (hd : All3 q (disB m j)) {x y z : Nat} (hx : x < q) (hy : y < q) (hz : z < q) : tpB m x y z q = true ↔ z = imp q m j x y := by
  have hi := imp_lt h h1 x y
  have low : m (m x (imp q m j x y)) y = m x (imp q m j x y) := by
    rw [h.comm hx hi]; exact (imp_iff h h1 hd hx hy hi).2 (h.le_refl hi)
  rw [tpB_iff]
  constructor
  · rintro ⟨h2, h3⟩
    refine h.le_anti hz hi ((imp_iff h h1 hd hx hy hz).1 (by rw [h.comm hz hx]; exact h2)) (h3 _ hi low)
  · rintro rfl
    exact ⟨low, fun w hw hl => (imp_iff h h1 hd hx hy hw).1 (by rw [h.comm hw hx]; exact hl)⟩
/-- Not x. -/
def nt (q : Nat) (m j : Nat → Nat → Nat) (x : Nat) : Nat := imp q m j x (en m q)
def rgB (q : Nat) (m j : Nat → Nat → Nat) (x : Nat) : Bool := nt q m j (nt q m j x) == x
def regs (q : Nat) (m j : Nat → Nat → Nat) : List Nat := filt (rgB q m j) q
/-- The same on elements. -/
def fI (h : Lat q m j) (h1 : 1 ≤ q) (x y : Fin q) : Fin q := ⟨imp q m j x.1 y.1, imp_lt h h1 _ _⟩
def fO (h : Lat q m j) (h1 : 1 ≤ q) : Fin q := ⟨en m q, en_lt h1 h.im q (Nat.le_refl _)⟩
theorem fle (h : Lat q m j) {x y : Fin q} : h.al.le x y ↔ m x.1 y.1 = x.1 := by
  show (⟨m x.1 y.1, _⟩ : Fin q) = x ↔ _
  rw [Fin.ext_iff]
theorem f_res (h : Lat q m j) (h1 : 1 ≤ q) (hd : All3 q (disB m j)) (x y z : Fin q) : h.al.le (h.al.m z x) y ↔ h.al.le z (fI h h1 x y) := by
  rw [fle, fle]; exact imp_iff h h1 hd x.2 y.2 z.2
theorem f_low (h : Lat q m j) (h1 : 1 ≤ q) (x : Fin q) : h.al.le (fO h h1) x := (fle h).2 (h.least h1 x.2)
theorem rg_iff (h : Lat q m j) (h1 : 1 ≤ q) (hd : All3 q (disB m j)) (x : Fin q) : rgB q m j x.1 = true ↔ h.al.le (nI (fI h h1) (fO h h1) (nI (fI h h1) (fO h h1) x)) x := by
  have e : (nI (fI h h1) (fO h h1) (nI (fI h h1) (fO h h1) x)).1 = nt q m j (nt q m j x.1) := rfl
  unfold rgB
  rw [beq_iff_eq, ← e]
  constructor
  · intro h2
    have : nI (fI h h1) (fO h h1) (nI (fI h h1) (fO h h1) x) = x := Fin.ext h2
    rw [this]; exact h.al.refl _
  · intro h2
    exact congrArg Fin.val (h.al.anti h2 (nn_up (f_res h h1 hd) x))
theorem rg_meet (h : Lat q m j) (h1 : 1 ≤ q) (hd : All3 q (disB m j)) {x y : Nat} (hx : x < q) (hy : y < q) (rx : rgB q m j x = true) (ry : rgB q m j y = true) : rgB q m j (m x y) = true :=
  (rg_iff h h1 hd (h.al.m ⟨x, hx⟩ ⟨y, hy⟩)).2 (nn_meet (f_res h h1 hd) ((rg_iff h h1 hd ⟨x, hx⟩).1 rx) ((rg_iff h h1 hd ⟨y, hy⟩).1 ry))
theorem rg_imp (h : Lat q m j) (h1 : 1 ≤ q) (hd : All3 q (disB m j)) {x y : Nat} (hx : x < q) (hy : y < q) (ry : rgB q m j y = true) : rgB q m j (imp q m j x y) = true :=
  (rg_iff h h1 hd (fI h h1 ⟨x, hx⟩ ⟨y, hy⟩)).2 (nn_imp (f_res h h1 hd) ((rg_iff h h1 hd ⟨y, hy⟩).1 ry))
theorem regs_all : ∀ {P : Nat → Bool} (k : Nat), (filt P k).length = k ↔ ∀ x, x < k → P x = true
  | P, 0 => by simp [filt]
  | P, k + 1 => by
    have hl := filt_len P k
    cases hp : P k
    · rw [filt_no hp]
      constructor
      · intro h; omega
      · intro h; have := h k (by omega); rw [hp] at this; cases this
    · rw [filt_yes hp, List.length_append, List.length_singleton]
      constructor
      · intro h x hx
        by_cases e : x = k
        · rw [e]; exact hp
        · exact (regs_all k).1 (by omega) x (by omega)
      · intro h
        rw [(regs_all k).2 fun x hx => h x (by omega)]
/-- Boolean just if each element has one other. -/
theorem boole (h : Lat q m j) (h1 : 1 ≤ q) (hd : All3 q (disB m j)) : (regs q m j).length = q ↔ ∀ x, x < q → (oths q m j x q).length = 1 := by
  have hdis := h.dis.2 hd
  have hgt : ∀ x : Fin q, h.al.le x ⟨en j q, en_lt h1 h.ij q (Nat.le_refl _)⟩ := fun x => (fle h).2 (by
    have hx := x.2
    have he := en_lt h1 h.ij q (Nat.le_refl _)
    have := h.turn.least h1 hx
    rw [h.turn.comm he hx] at this
    exact (h.le_join hx he).2 this)
  rw [regs, regs_all]
  constructor
  · intro hall x hx
    have key := all_nn (f_res h h1 hd) (f_low h h1) hgt (fun y => (rg_iff h h1 hd y).1 (hall y.1 y.2)) ⟨x, hx⟩
    have hle : (oths q m j x q).length ≤ 1 := oths_one (fun y z hy hz a b => by
      simp only [othB, Bool.and_eq_true, beq_iff_eq] at a b
      exact h.one hd hx hy hz (a.1.trans b.1.symm) (a.2.trans b.2.symm)) q (Nat.le_refl _)
    have hmem : (nI (fI h h1) (fO h h1) ⟨x, hx⟩).1 ∈ oths q m j x q := (oths_mem q m j x q _).2 ⟨(nI (fI h h1) (fO h h1) ⟨x, hx⟩).2, by
      simp only [othB, Bool.and_eq_true, beq_iff_eq]
      exact ⟨congrArg Fin.val key.1, congrArg Fin.val key.2⟩⟩
    have := List.length_pos_of_mem hmem
    omega
  · intro hall x hx
    obtain ⟨y, hy⟩ : ∃ y, y ∈ oths q m j x q := List.exists_mem_of_length_pos (by rw [hall x hx]; decide)
    obtain ⟨hyq, ho⟩ := (oths_mem q m j x q y).1 hy
    simp only [othB, Bool.and_eq_true, beq_iff_eq] at ho
    have e1 : h.al.m ⟨x, hx⟩ ⟨y, hyq⟩ = fO h h1 := Fin.ext ho.1
    have e2 : h.al.j ⟨x, hx⟩ ⟨y, hyq⟩ = ⟨en j q, en_lt h1 h.ij q (Nat.le_refl _)⟩ := Fin.ext ho.2
    exact (rg_iff h h1 hd ⟨x, hx⟩).2 (oth_nn (f_res h h1 hd) hdis (f_low h h1) hgt e1 e2)
end
end Go.Proofs.Ytfkkjebgccnlnaa
