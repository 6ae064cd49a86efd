/-
  Marks of things and things with marks as numbers; how sets are closed; plain facts. Conditions: as each theorem says.
  Marks of things and things with marks go back and forth: plain facts. Conditions: as each theorem says.
  The set that comes next: plain facts (Ganter). Conditions: as each theorem says.
-/
import Derived.Test.YthhnngmfbbljaaaGreatFilM
import Derived.Test.YthhnngmfbbljaaaGreatDualT
namespace Go.Proofs.YthhnngmfbbljaaaGreat
set_option maxRecDepth 100000

/-- The rounds of marksOf. -/
def mko (h : Nat → Nat) (m s : Nat) : Nat → Nat
  | 0 => pw m - 1
  | k + 1 => if s.testBit k = true then mko h m s k &&& h k else mko h m s k
theorem mko_yes {h : Nat → Nat} {m s k : Nat} (e : s.testBit k = true) : mko h m s (k + 1) = mko h m s k &&& h k := by simp [mko, e]
theorem mko_no {h : Nat → Nat} {m s k : Nat} (e : s.testBit k = false) : mko h m s (k + 1) = mko h m s k := by simp [mko, e]
theorem mko_lt (h : Nat → Nat) (m s : Nat) : ∀ k, mko h m s k < pw m
  | 0 => by have := pw_pos m; simp only [mko]; omega
  | k + 1 => by
    have ih := mko_lt h m s k
    cases e : s.testBit k
    · rw [mko_no e]; exact ih
    · rw [mko_yes e]; exact Nat.lt_of_le_of_lt Nat.and_le_left ih
theorem full_bit (m i : Nat) : (pw m - 1).testBit i = decide (i < m) := by unfold pw; exact Nat.testBit_two_pow_sub_one m i
/-- Have all of the first n things of s mark i? -/
def hasI (h : Nat → Nat) (n s i : Nat) : Bool := allB (fun j => !s.testBit j || (h j).testBit i) n
theorem mko_bit (h : Nat → Nat) (m s i : Nat) : ∀ k, (mko h m s k).testBit i = (decide (i < m) && hasI h k s i)
  | 0 => by simp [mko, full_bit, hasI, allB]
  | k + 1 => by
    have ih := mko_bit h m s i k
    have e2 : hasI h (k + 1) s i = (hasI h k s i && (!s.testBit k || (h k).testBit i)) := rfl
    rw [e2]
    cases e : s.testBit k
    · rw [mko_no e, ih]; simp
    · rw [mko_yes e, Nat.testBit_and, ih]; simp [Bool.and_assoc]
/-- The marks that all of a set of things have. -/
def mks (h : Nat → Nat) (n m s : Nat) : Nat := mko h m s n
theorem mks_lt (h : Nat → Nat) (n m s : Nat) : mks h n m s < pw m := mko_lt h m s n
theorem mks_bit (h : Nat → Nat) (n m s i : Nat) : (mks h n m s).testBit i = (decide (i < m) && hasI h n s i) := mko_bit h m s i n
theorem mks_set (h : Nat → Nat) (n m s : Nat) : mks h n m s = setBy (hasI h n s) m :=
  eq_of_bits (mks_lt h n m s) (setBy_lt _ _) fun i hi => by rw [mks_bit, setBy_bit]
theorem mks_iff {h : Nat → Nat} {n m s i : Nat} : (mks h n m s).testBit i = true ↔ i < m ∧ ∀ j, j < n → s.testBit j = true → (h j).testBit i = true := by
  rw [mks_bit]
  simp only [Bool.and_eq_true, decide_eq_true_eq, hasI, allB_iff, Bool.or_eq_true, Bool.not_eq_true']
  constructor
  · rintro ⟨h1, h2⟩
    exact ⟨h1, fun j hj hs => (h2 j hj).resolve_left (by rw [hs]; simp)⟩
  · rintro ⟨h1, h2⟩
    refine ⟨h1, fun j hj => ?_⟩
    cases e : s.testBit j
    · exact .inl rfl
    · exact .inr (h2 j hj e)

/-- Has thing j all marks of M? -/
def hasA (h : Nat → Nat) (M j : Nat) : Bool := lack M (h j) == 0
/-- The things that have all marks of M. -/
def ths (h : Nat → Nat) (n M : Nat) : Nat := setBy (hasA h M) n
theorem ths_lt (h : Nat → Nat) (n M : Nat) : ths h n M < pw n := setBy_lt _ _
theorem ths_iff {h : Nat → Nat} {n M j : Nat} (hM : M < 1024) (hh : ∀ k, k < n → h k < 1024) : (ths h n M).testBit j = true ↔ j < n ∧ ∀ i, M.testBit i = true → (h j).testBit i = true := by
  unfold ths
  rw [setBy_bit]
  simp only [Bool.and_eq_true, decide_eq_true_eq, hasA, beq_iff_eq]
  constructor
  · rintro ⟨h1, h2⟩
    exact ⟨h1, (lack_zero _ _ (by omega) (by have := hh j h1; omega)).1 h2⟩
  · rintro ⟨h1, h2⟩
    exact ⟨h1, (lack_zero _ _ (by omega) (by have := hh j h1; omega)).2 h2⟩
/-- The least set of things of a concept that has all of s; likewise of marks. -/
def clt (h : Nat → Nat) (n m s : Nat) : Nat := ths h n (mks h n m s)
def clm (h : Nat → Nat) (n m M : Nat) : Nat := mks h n m (ths h n M)
theorem clt_lt (h : Nat → Nat) (n m s : Nat) : clt h n m s < pw n := ths_lt _ _ _
theorem clm_lt (h : Nat → Nat) (n m M : Nat) : clm h n m M < pw m := mks_lt _ _ _ _

theorem fil_congr {I J : Nat → Bool} : ∀ k, (∀ i, i < k → I i = J i) → fil I k = fil J k
  | 0, _ => rfl
  | k + 1, h => by simp only [fil, h k (by omega), fil_congr k (fun i hi => h i (by omega))]
/-- The sets of things of all concepts. -/
def isT (h : Nat → Nat) (n m s : Nat) : Bool := clt h n m s == s
def tsets (h : Nat → Nat) (n m : Nat) : List Nat := fil (isT h n m) (pw n)
/-- The concepts. -/
def cons (h : Nat → Nat) (n m : Nat) : List (Nat × Nat) := (tsets h n m).map fun s => (s, mks h n m s)

/-- What firstBehind finds: marks k - 1 down to 0 are looked at. -/
def nxt (C : Nat → Nat) (s : Nat) : Nat → Option Nat
  | 0 => none
  | k + 1 => if s.testBit k = true then nxt C s k else
    if C (s &&& (pw k - 1) ||| pw k) &&& (pw k - 1) = s &&& (pw k - 1) then some (C (s &&& (pw k - 1) ||| pw k)) else nxt C s k
theorem nxt_in {C : Nat → Nat} {s k : Nat} (e : s.testBit k = true) : nxt C s (k + 1) = nxt C s k := by simp [nxt, e]
theorem nxt_yes {C : Nat → Nat} {s k : Nat} (e : s.testBit k = false) (h : C (s &&& (pw k - 1) ||| pw k) &&& (pw k - 1) = s &&& (pw k - 1)) : nxt C s (k + 1) = some (C (s &&& (pw k - 1) ||| pw k)) := by simp [nxt, e, h]
theorem nxt_no {C : Nat → Nat} {s k : Nat} (e : s.testBit k = false) (h : ¬ C (s &&& (pw k - 1) ||| pw k) &&& (pw k - 1) = s &&& (pw k - 1)) : nxt C s (k + 1) = nxt C s k := by simp [nxt, e, h]
end Go.Proofs.YthhnngmfbbljaaaGreat
namespace Go.Proofs.YthhnngmfbbljaaaGreat
set_option maxRecDepth 100000

theorem add_or_and : ∀ (k a b : Nat), a < 2 ^ k → b < 2 ^ k → a + b = (a ||| b) + (a &&& b)
  | 0, a, b, ha, hb => by
    obtain rfl : a = 0 := by omega
    obtain rfl : b = 0 := by omega
    rfl
  | k + 1, a, b, ha, hb => by
    have ih := add_or_and k (a / 2) (b / 2) (by rw [Nat.pow_succ] at ha; omega) (by rw [Nat.pow_succ] at hb; omega)
    have e1 : (a ||| b) / 2 = a / 2 ||| b / 2 := Nat.or_div_two
    have e2 : (a &&& b) / 2 = a / 2 &&& b / 2 := Nat.and_div_two
    have m1 : (a ||| b) % 2 = 1 ↔ a % 2 = 1 ∨ b % 2 = 1 := Nat.or_mod_two_eq_one
    have m2 : (a &&& b) % 2 = 1 ↔ a % 2 = 1 ∧ b % 2 = 1 := Nat.and_mod_two_eq_one
    omega
/-- All of a is in b. -/
theorem lack_iff {a b : Nat} (ha : a < 1024) (hb : b < 1024) : lack a b = 0 ↔ ∀ i, a.testBit i = true → b.testBit i = true := lack_zero a b (by omega) (by omega)

variable {h : Nat → Nat} {n m : Nat}
theorem mks_1024 (h : Nat → Nat) (n : Nat) {m : Nat} (m10 : m ≤ 10) (s : Nat) : mks h n m s < 1024 := Nat.lt_of_lt_of_le (mks_lt _ _ _ _) (pw_le m m10)
theorem ths_1024 (h : Nat → Nat) {n : Nat} (h10 : n ≤ 10) (M : Nat) : ths h n M < 1024 := Nat.lt_of_lt_of_le (ths_lt _ _ _) (pw_le n h10)
theorem set_1024 {n s : Nat} (h10 : n ≤ 10) (hs : s < pw n) : s < 1024 := Nat.lt_of_lt_of_le hs (pw_le n h10)
/-- What a set of things has is had by all of what it closes to. -/
theorem wil_in (h10 : n ≤ 10) (m10 : m ≤ 10) (hh : ∀ k, k < n → h k < 1024) {a : Nat} (ha : a < pw n) : lack a (ths h n (mks h n m a)) = 0 := by
  refine (lack_iff (set_1024 h10 ha) (ths_1024 h h10 _)).2 fun j hj => ?_
  have hjn : j < n := bit_of_lt ha hj
  exact (ths_iff (mks_1024 h n m10 a) hh).2 ⟨hjn, fun i hi => (mks_iff.1 hi).2 j hjn hj⟩
theorem wil_anti (m10 : m ≤ 10) {a b : Nat} (ha : a < 1024) (hb : b < 1024) (hab : lack a b = 0) : lack (mks h n m b) (mks h n m a) = 0 := by
  refine (lack_iff (mks_1024 h n m10 b) (mks_1024 h n m10 a)).2 fun i hi => ?_
  obtain ⟨h1, h2⟩ := mks_iff.1 hi
  exact mks_iff.2 ⟨h1, fun j hj hs => h2 j hj ((lack_iff ha hb).1 hab j hs)⟩
/-- Marks of what things close to are their marks. -/
theorem wil_same (h10 : n ≤ 10) (m10 : m ≤ 10) (hh : ∀ k, k < n → h k < 1024) {a : Nat} (ha : a < pw n) : mks h n m (ths h n (mks h n m a)) = mks h n m a := by
  apply Nat.eq_of_testBit_eq
  intro i
  rw [Bool.eq_iff_iff]
  constructor
  · intro hi
    exact (lack_iff (mks_1024 h n m10 _) (mks_1024 h n m10 a)).1 (wil_anti m10 (set_1024 h10 ha) (ths_1024 h h10 _) (wil_in h10 m10 hh ha)) i hi
  · intro hi
    exact mks_iff.2 ⟨(mks_iff.1 hi).1, fun j hj hs => ((ths_iff (mks_1024 h n m10 a) hh).1 hs).2 i hi⟩
theorem wil_or (a b : Nat) : mks h n m (a ||| b) = mks h n m a &&& mks h n m b := by
  apply Nat.eq_of_testBit_eq
  intro i
  rw [Nat.testBit_and, Bool.eq_iff_iff, Bool.and_eq_true, mks_iff, mks_iff, mks_iff]
  constructor
  · rintro ⟨h1, h2⟩
    exact ⟨⟨h1, fun j hj hs => h2 j hj (by rw [Nat.testBit_or, hs]; rfl)⟩, h1, fun j hj hs => h2 j hj (by rw [Nat.testBit_or, hs, Bool.or_true])⟩
  · rintro ⟨⟨h1, h2⟩, _, h3⟩
    refine ⟨h1, fun j hj hs => ?_⟩
    rw [Nat.testBit_or, Bool.or_eq_true] at hs
    rcases hs with hs | hs
    · exact h2 j hj hs
    · exact h3 j hj hs
end Go.Proofs.YthhnngmfbbljaaaGreat
namespace Go.Proofs.YthhnngmfbbljaaaGreat
set_option maxRecDepth 100000

/-- Set a comes ahead of set b. -/
def Lec (a b : Nat) : Prop := ∃ i, i < 10 ∧ (∀ j, j < i → a.testBit j = b.testBit j) ∧ a.testBit i = false ∧ b.testBit i = true
theorem Lec.asymm {a b : Nat} (h : Lec a b) (h' : Lec b a) : False := by
  obtain ⟨i, _, h1, h2, h3⟩ := h
  obtain ⟨j, _, g1, g2, g3⟩ := h'
  rcases Nat.lt_trichotomy i j with e | e | e
  · have := g1 i e; rw [h2, h3] at this; cases this
  · subst e; rw [h2] at g3; cases g3
  · have := h1 j e; rw [g2, g3] at this; cases this
theorem Lec.irrefl {a : Nat} (h : Lec a a) : False := h.asymm h
theorem Lec.trans {a b c : Nat} (h : Lec a b) (h' : Lec b c) : Lec a c := by
  obtain ⟨i, hi, h1, h2, h3⟩ := h
  obtain ⟨j, hj, g1, g2, g3⟩ := h'
  rcases Nat.lt_trichotomy i j with e | e | e
  · exact ⟨i, hi, fun k hk => (h1 k hk).trans (g1 k (by omega)), h2, by rw [← g1 i e]; exact h3⟩
  · subst e; rw [h3] at g2; cases g2
  · exact ⟨j, hj, fun k hk => (h1 k (by omega)).trans (g1 k hk), by rw [h1 j e]; exact g2, g3⟩
/-- The least place below k in which two sets differ. -/
theorem first_diff (a b : Nat) : ∀ k, (∀ j, j < k → a.testBit j = b.testBit j) ∨ ∃ i, i < k ∧ (∀ j, j < i → a.testBit j = b.testBit j) ∧ a.testBit i ≠ b.testBit i
  | 0 => .inl fun j hj => absurd hj (Nat.not_lt_zero _)
  | k + 1 => by
    rcases first_diff a b k with h | ⟨i, hi, h1, h2⟩
    · by_cases e : a.testBit k = b.testBit k
      · refine .inl fun j hj => ?_
        by_cases ej : j = k
        · rw [ej]; exact e
        · exact h j (by omega)
      · exact .inr ⟨k, by omega, h, e⟩
    · exact .inr ⟨i, by omega, h1, h2⟩
theorem Lec.total {a b : Nat} (ha : a < 1024) (hb : b < 1024) (hne : a ≠ b) : Lec a b ∨ Lec b a := by
  rcases first_diff a b 10 with h | ⟨i, hi, h1, h2⟩
  · exact absurd (eq_of_bits (n := 10) ha hb h) hne
  · cases e1 : a.testBit i <;> cases e2 : b.testBit i
    · rw [e1, e2] at h2; exact absurd rfl h2
    · exact .inl ⟨i, hi, h1, e1, e2⟩
    · exact .inr ⟨i, hi, fun j hj => (h1 j hj).symm, e2, e1⟩
    · rw [e1, e2] at h2; exact absurd rfl h2

/-- A way to close sets of m marks. -/
def Closing (m : Nat) (C : Nat → Nat) : Prop :=
  (∀ A, A < pw m → C A < pw m ∧ (∀ i, A.testBit i = true → (C A).testBit i = true) ∧ C (C A) = C A) ∧
  ∀ A x, A < pw m → x < pw m → C x = x → (∀ i, A.testBit i = true → x.testBit i = true) → ∀ i, (C A).testBit i = true → x.testBit i = true

theorem and_full_bit (x k j : Nat) : (x &&& (pw k - 1)).testBit j = (x.testBit j && decide (j < k)) := by rw [Nat.testBit_and, full_bit]
theorem and_full_eq {x y k : Nat} : x &&& (pw k - 1) = y &&& (pw k - 1) ↔ ∀ j, j < k → x.testBit j = y.testBit j := by
  constructor
  · intro h j hj
    have := congrArg (fun z => z.testBit j) h
    simp only [and_full_bit, hj, decide_true, Bool.and_true] at this
    exact this
  · intro h
    apply Nat.eq_of_testBit_eq
    intro j
    rw [and_full_bit, and_full_bit]
    by_cases hj : j < k
    · rw [h j hj]
    · simp [hj]
/-- What is looked at at mark k. -/
def seed (s k : Nat) : Nat := s &&& (pw k - 1) ||| pw k
theorem seed_bit (s k j : Nat) : (seed s k).testBit j = ((s.testBit j && decide (j < k)) || decide (k = j)) := by
  unfold seed
  rw [Nat.testBit_or, and_full_bit, pw_bit]
theorem seed_lt {s k m : Nat} (hk : k < m) : seed s k < pw m := by
  have h1 : s &&& (pw k - 1) < 2 ^ m := Nat.lt_of_lt_of_le (Nat.lt_of_le_of_lt Nat.and_le_right (show pw k - 1 < pw k by have := pw_pos k; omega)) (Nat.pow_le_pow_right (by decide) (by omega))
  have h2 : pw k < 2 ^ m := Nat.pow_lt_pow_right (by decide) hk
  exact Nat.or_lt_two_pow h1 h2
/-- Mark k does it. -/
def Pass (C : Nat → Nat) (s k : Nat) : Prop := s.testBit k = false ∧ ∀ j, j < k → (C (seed s k)).testBit j = s.testBit j
theorem nxt_some {C : Nat → Nat} {s b : Nat} : ∀ m, nxt C s m = some b → ∃ k, k < m ∧ Pass C s k ∧ b = C (seed s k) ∧ ∀ k', k < k' → k' < m → ¬ Pass C s k'
  | 0, h => by cases h
  | m + 1, h => by
    cases e : s.testBit m
    · by_cases h2 : C (s &&& (pw m - 1) ||| pw m) &&& (pw m - 1) = s &&& (pw m - 1)
      · rw [nxt_yes e h2] at h
        exact ⟨m, by omega, ⟨e, and_full_eq.1 h2⟩, (Option.some.inj h).symm, fun k' h3 h4 => by omega⟩
      · rw [nxt_no e h2] at h
        obtain ⟨k, h3, h4, h5, h6⟩ := nxt_some m h
        refine ⟨k, by omega, h4, h5, fun k' g1 g2 g3 => ?_⟩
        by_cases ek : k' = m
        · subst ek; exact h2 (and_full_eq.2 g3.2)
        · exact h6 k' g1 (by omega) g3
    · rw [nxt_in e] at h
      obtain ⟨k, h3, h4, h5, h6⟩ := nxt_some m h
      refine ⟨k, by omega, h4, h5, fun k' g1 g2 g3 => ?_⟩
      by_cases ek : k' = m
      · subst ek; have := g3.1; rw [e] at this; cases this
      · exact h6 k' g1 (by omega) g3
theorem nxt_none {C : Nat → Nat} {s : Nat} : ∀ m, nxt C s m = none → ∀ k, k < m → ¬ Pass C s k
  | 0, _, k, hk => absurd hk (Nat.not_lt_zero _)
  | m + 1, h, k, hk => by
    intro hp
    by_cases ek : k = m
    · subst ek
      rw [nxt_yes hp.1 (and_full_eq.2 hp.2)] at h
      cases h
    · cases e : s.testBit m
      · by_cases h2 : C (s &&& (pw m - 1) ||| pw m) &&& (pw m - 1) = s &&& (pw m - 1)
        · rw [nxt_yes e h2] at h; cases h
        · rw [nxt_no e h2] at h
          exact nxt_none m h k (by omega) hp
      · rw [nxt_in e] at h
        exact nxt_none m h k (by omega) hp
/-- A closed set behind s: the mark in which they part does it, and what is found there is in it. -/
theorem pass_of {C : Nat → Nat} {m s x : Nat} (hC : Closing m C) (hx : x < pw m) (hcl : C x = x) {i : Nat} (h1 : ∀ j, j < i → s.testBit j = x.testBit j) (h2 : s.testBit i = false) (h3 : x.testBit i = true) :
    i < m ∧ Pass C s i ∧ ∀ j, (C (seed s i)).testBit j = true → x.testBit j = true := by
  have hi : i < m := bit_of_lt hx h3
  have hsub : ∀ j, (seed s i).testBit j = true → x.testBit j = true := fun j hj => by
    rw [seed_bit, Bool.or_eq_true, Bool.and_eq_true, decide_eq_true_eq, decide_eq_true_eq] at hj
    rcases hj with ⟨g1, g2⟩ | rfl
    · rw [← h1 j g2]; exact g1
    · exact h3
  have hin := hC.2 _ x (seed_lt hi) hx hcl hsub
  refine ⟨hi, ⟨h2, fun j hj => ?_⟩, hin⟩
  rw [Bool.eq_iff_iff]
  constructor
  · intro g; rw [h1 j hj]; exact hin j g
  · intro g
    refine (hC.1 _ (seed_lt hi)).2.1 j ?_
    rw [seed_bit, g]; simp [hj]
/-- What nxt finds: nothing, if no closed set is behind; or the first one of those. -/
theorem nxt_is {C : Nat → Nat} {m s : Nat} (hC : Closing m C) (m10 : m ≤ 10) : (∀ x, nxt C s m = some x → x < pw m ∧ C x = x ∧ Lec s x ∧ ∀ y, y < pw m → C y = y → Lec s y → ¬ Lec y x) ∧ (nxt C s m = none → ∀ y, y < pw m → C y = y → ¬ Lec s y) := by
  constructor
  · intro x hx
    obtain ⟨k, hk, hp, rfl, hmax⟩ := nxt_some m hx
    have hA := hC.1 _ (seed_lt (s := s) hk)
    refine ⟨hA.1, hA.2.2, ⟨k, by omega, fun j hj => (hp.2 j hj).symm, hp.1, hA.2.1 k (by rw [seed_bit]; simp)⟩, fun y hy hcy hl hyx => ?_⟩
    obtain ⟨i, hi, h1, h2, h3⟩ := hl
    obtain ⟨him, hpi, hin⟩ := pass_of hC hy hcy h1 h2 h3
    rcases Nat.lt_trichotomy i k with e | e | e
    · refine Lec.asymm hyx ⟨i, hi, fun j hj => ?_, ?_, h3⟩
      · rw [hp.2 j (by omega)]; exact h1 j hj
      · rw [hp.2 i e]; exact h2
    · subst e
      obtain ⟨j, _, _, g2, g3⟩ := hyx
      rw [hin j g3] at g2; cases g2
    · exact hmax i e him hpi
  · intro hn y hy hcy hl
    obtain ⟨i, hi, h1, h2, h3⟩ := hl
    obtain ⟨him, hpi, _⟩ := pass_of hC hy hcy h1 h2 h3
    exact nxt_none m hn i him hpi

variable {h : Nat → Nat} {n m : Nat}
theorem clm_in (m10 : m ≤ 10) (hh : ∀ k, k < n → h k < 1024) {M : Nat} (hM : M < pw m) : ∀ i, M.testBit i = true → (clm h n m M).testBit i = true := fun i hi =>
  mks_iff.2 ⟨bit_of_lt hM hi, fun _ _ hs => ((ths_iff (set_1024 m10 hM) hh).1 hs).2 i hi⟩
theorem ths_anti (hh : ∀ k, k < n → h k < 1024) {M M' : Nat} (hM : M < 1024) (hM' : M' < 1024) (hs : ∀ i, M.testBit i = true → M'.testBit i = true) : ∀ j, (ths h n M').testBit j = true → (ths h n M).testBit j = true := fun j hj => by
  obtain ⟨h1, h2⟩ := (ths_iff hM' hh).1 hj
  exact (ths_iff hM hh).2 ⟨h1, fun i hi => h2 i (hs i hi)⟩
theorem mks_anti {s s' : Nat} (hs : ∀ j, s.testBit j = true → s'.testBit j = true) : ∀ i, (mks h n m s').testBit i = true → (mks h n m s).testBit i = true := fun i hi => by
  obtain ⟨h1, h2⟩ := mks_iff.1 hi
  exact mks_iff.2 ⟨h1, fun j hj hsj => h2 j hj (hs j hsj)⟩
theorem clm_closing (h10 : n ≤ 10) (m10 : m ≤ 10) (hh : ∀ k, k < n → h k < 1024) : Closing m (clm h n m) := by
  refine ⟨fun A hA => ⟨clm_lt _ _ _ _, clm_in m10 hh hA, ?_⟩, fun A x hA hx hcl hs i hi => ?_⟩
  · unfold clm
    exact wil_same h10 m10 hh (ths_lt _ _ _)
  · rw [← hcl]
    exact mks_anti (ths_anti hh (set_1024 m10 hA) (set_1024 m10 hx) hs) i hi
/-- The sets of marks of concepts are the closed ones. -/
theorem cons_mem {x y : Nat} : (x, y) ∈ cons h n m ↔ x < pw n ∧ clt h n m x = x ∧ y = mks h n m x := by
  unfold cons
  rw [List.mem_map]
  constructor
  · rintro ⟨s, hs, e⟩
    cases e
    obtain ⟨h1, h2⟩ := (fil_mem _ _ _).1 hs
    exact ⟨h1, by simpa [isT] using h2, rfl⟩
  · rintro ⟨h1, h2, rfl⟩
    exact ⟨x, (fil_mem _ _ _).2 ⟨h1, by simpa [isT] using h2⟩, rfl⟩
theorem intent_iff (h10 : n ≤ 10) (m10 : m ≤ 10) (hh : ∀ k, k < n → h k < 1024) {y : Nat} : (∃ x, (x, y) ∈ cons h n m) ↔ y < pw m ∧ clm h n m y = y := by
  constructor
  · rintro ⟨x, hx⟩
    obtain ⟨h1, h2, rfl⟩ := cons_mem.1 hx
    refine ⟨mks_lt _ _ _ _, ?_⟩
    unfold clm
    exact wil_same h10 m10 hh h1
  · rintro ⟨h1, h2⟩
    refine ⟨ths h n y, cons_mem.2 ⟨ths_lt _ _ _, ?_, h2.symm⟩⟩
    show ths h n (mks h n m (ths h n y)) = ths h n y
    rw [show mks h n m (ths h n y) = y from h2]
end Go.Proofs.YthhnngmfbbljaaaGreat
