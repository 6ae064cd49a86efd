/-
  The set that comes next: plain facts (Ganter). Conditions: as each theorem says.
-/
import Derived.Test.YtpmgengddnafeabWilM
namespace Go.Proofs.Ytpmgengddnafeab

/-- Set a comes ahead of set b. -/
def Lec (a b : Nat) : Prop := ∃ i, i < 10 ∧ (∀ j, j < i → a.testBit j = b.testBit j) ∧ a.testBit i = false ∧ b.testBit i = true
theorem Lec.asymm {a b : Nat} (h : Lec a b) (h' : Lec b a) : False := by
  obtain ⟨i, _, h1, h2, h3⟩ := h
  obtain ⟨j, _, g1, g2, g3⟩ := h'
  rcases Nat.lt_trichotomy i j with e | e | e
  · have := g1 i e; rw [h2, h3] at this; cases this
  · subst e; rw [h2] at g3; cases g3
  · have := h1 j e; rw [g2, g3] at this; cases this
theorem Lec.irrefl {a : Nat} (h : Lec a a) : False := h.asymm h
theorem Lec.trans {a b c : Nat} (h : Lec a b) (h' : Lec b c) : Lec a c := by
  obtain ⟨i, hi, h1, h2, h3⟩ := h
  obtain ⟨j, hj, g1, g2, g3⟩ := h'
  rcases Nat.lt_trichotomy i j with e | e | e
  · exact ⟨i, hi, fun k hk => (h1 k hk).trans (g1 k (by omega)), h2, by rw [← g1 i e]; exact h3⟩
  · subst e; rw [h3] at g2; cases g2
  · exact ⟨j, hj, fun k hk => (h1 k (by omega)).trans (g1 k hk), by rw [h1 j e]; exact g2, g3⟩
/-- The least place below k in which two sets differ. -/
theorem first_diff (a b : Nat) : ∀ k, (∀ j, j < k → a.testBit j = b.testBit j) ∨ ∃ i, i < k ∧ (∀ j, j < i → a.testBit j = b.testBit j) ∧ a.testBit i ≠ b.testBit i
  | 0 => .inl fun j hj => absurd hj (Nat.not_lt_zero _)
  | k + 1 => by
    rcases first_diff a b k with h | ⟨i, hi, h1, h2⟩
    · by_cases e : a.testBit k = b.testBit k
      · refine .inl fun j hj => ?_
        by_cases ej : j = k
        · rw [ej]; exact e
        · exact h j (by omega)
      · exact .inr ⟨k, by omega, h, e⟩
    · exact .inr ⟨i, by omega, h1, h2⟩
theorem Lec.total {a b : Nat} (ha : a < 1024) (hb : b < 1024) (hne : a ≠ b) : Lec a b ∨ Lec b a := by
  rcases first_diff a b 10 with h | ⟨i, hi, h1, h2⟩
  · exact absurd (eq_of_bits (n := 10) ha hb h) hne
  · cases e1 : a.testBit i <;> cases e2 : b.testBit i
    · rw [e1, e2] at h2; exact absurd rfl h2
    · exact .inl ⟨i, hi, h1, e1, e2⟩
    · exact .inr ⟨i, hi, fun j hj => (h1 j hj).symm, e2, e1⟩
    · rw [e1, e2] at h2; exact absurd rfl h2

/-- A way to close sets of m marks. -/
def Closing (m : Nat) (C : Nat → Nat) : Prop :=
  (∀ A, A < pw m → C A < pw m ∧ (∀ i, A.testBit i = true → (C A).testBit i = true) ∧ C (C A) = C A) ∧
  ∀ A x, A < pw m → x < pw m → C x = x → (∀ i, A.testBit i = true → x.testBit i = true) → ∀ i, (C A).testBit i = true → x.testBit i = true

theorem and_full_bit (x k j : Nat) : (x &&& (pw k - 1)).testBit j = (x.testBit j && decide (j < k)) := by rw [Nat.testBit_and, full_bit]
theorem and_full_eq {x y k : Nat} : x &&& (pw k - 1) = y &&& (pw k - 1) ↔ ∀ j, j < k → x.testBit j = y.testBit j := by
  constructor
  · intro h j hj
    have := congrArg (fun z => z.testBit j) h
    simp only [and_full_bit, hj, decide_true, Bool.and_true] at this
    exact this
  · intro h
    apply Nat.eq_of_testBit_eq
    intro j
    rw [and_full_bit, and_full_bit]
    by_cases hj : j < k
    · rw [h j hj]
    · simp [hj]
/-- What is looked at at mark k. -/
def seed (s k : Nat) : Nat := s &&& (pw k - 1) ||| pw k
theorem seed_bit (s k j : Nat) : (seed s k).testBit j = ((s.testBit j && decide (j < k)) || decide (k = j)) := by
  unfold seed
  rw [Nat.testBit_or, and_full_bit, pw_bit]
theorem seed_lt {s k m : Nat} (hk : k < m) : seed s k < pw m := by
  have h1 : s &&& (pw k - 1) < 2 ^ m := Nat.lt_of_lt_of_le (Nat.lt_of_le_of_lt Nat.and_le_right (show pw k - 1 < pw k by have := pw_pos k; omega)) (Nat.pow_le_pow_right (by decide) (by omega))
  have h2 : pw k < 2 ^ m := Nat.pow_lt_pow_right (by decide) hk
  exact Nat.or_lt_two_pow h1 h2
/-- Mark k does it. -/
def Pass (C : Nat → Nat) (s k : Nat) : Prop := s.testBit k = false ∧ ∀ j, j < k → (C (seed s k)).testBit j = s.testBit j
theorem nxt_some {C : Nat → Nat} {s b : Nat} : ∀ m, nxt C s m = some b → ∃ k, k < m ∧ Pass C s k ∧ b = C (seed s k) ∧ ∀ k', k < k' → k' < m → ¬ Pass C s k'
  | 0, h => by cases h
  | m + 1, h => by
    cases e : s.testBit m
    · by_cases h2 : C (s &&& (pw m - 1) ||| pw m) &&& (pw m - 1) = s &&& (pw m - 1)
      · rw [nxt_yes e h2] at h
        exact ⟨m, by omega, ⟨e, and_full_eq.1 h2⟩, (Option.some.inj h).symm, fun k' h3 h4 => by omega⟩
      · rw [nxt_no e h2] at h
        obtain ⟨k, h3, h4, h5, h6⟩ := nxt_some m h
        refine ⟨k, by omega, h4, h5, fun k' g1 g2 g3 => ?_⟩
        by_cases ek : k' = m
        · subst ek; exact h2 (and_full_eq.2 g3.2)
        · exact h6 k' g1 (by omega) g3
    · rw [nxt_in e] at h
      obtain ⟨k, h3, h4, h5, h6⟩ := nxt_some m h
      refine ⟨k, by omega, h4, h5, fun k' g1 g2 g3 => ?_⟩
      by_cases ek : k' = m
      · subst ek; have := g3.1; rw [e] at this; cases this
      · exact h6 k' g1 (by omega) g3
theorem nxt_none {C : Nat → Nat} {s : Nat} : ∀ m, nxt C s m = none → ∀ k, k < m → ¬ Pass C s k
  | 0, _, k, hk => absurd hk (Nat.not_lt_zero _)
  | m + 1, h, k, hk => by
    intro hp
    by_cases ek : k = m
    · subst ek
      rw [nxt_yes hp.1 (and_full_eq.2 hp.2)] at h
      cases h
    · cases e : s.testBit m
      · by_cases h2 : C (s &&& (pw m - 1) ||| pw m) &&& (pw m - 1) = s &&& (pw m - 1)
        · rw [nxt_yes e h2] at h; cases h
        · rw [nxt_no e h2] at h
          exact nxt_none m h k (by omega) hp
      · rw [nxt_in e] at h
        exact nxt_none m h k (by omega) hp
/-- A closed set behind s: the mark in which they part does it, and what is found there is in it. -/
theorem pass_of {C : Nat → Nat} {m s x : Nat} (hC : Closing m C) (hx : x < pw m) (hcl : C x = x) {i : Nat} (h1 : ∀ j, j < i → s.testBit j = x.testBit j) (h2 : s.testBit i = false) (h3 : x.testBit i = true) :
    i < m ∧ Pass C s i ∧ ∀ j, (C (seed s i)).testBit j = true → x.testBit j = true := by
  have hi : i < m := bit_of_lt hx h3
  have hsub : ∀ j, (seed s i).testBit j = true → x.testBit j = true := fun j hj => by
    rw [seed_bit, Bool.or_eq_true, Bool.and_eq_true, decide_eq_true_eq, decide_eq_true_eq] at hj
    rcases hj with ⟨g1, g2⟩ | rfl
    · rw [← h1 j g2]; exact g1
    · exact h3
  have hin := hC.2 _ x (seed_lt hi) hx hcl hsub
  refine ⟨hi, ⟨h2, fun j hj => ?_⟩, hin⟩
  rw [Bool.eq_iff_iff]
  constructor
  · intro g; rw [h1 j hj]; exact hin j g
  · intro g
    refine (hC.1 _ (seed_lt hi)).2.1 j ?_
    rw [seed_bit, g]; simp [hj]
/-- What nxt finds: nothing, if no closed set is behind; or the first one of those. -/
theorem nxt_is {C : Nat → Nat} {m s : Nat} (hC : Closing m C) (m10 : m ≤ 10) : (∀ x, nxt C s m = some x → x < pw m ∧ C x = x ∧ Lec s x ∧ ∀ y, y < pw m → C y = y → Lec s y → ¬ Lec y x) ∧ (nxt C s m = none → ∀ y, y < pw m → C y = y → ¬ Lec s y) := by
  constructor
  · intro x hx
    obtain ⟨k, hk, hp, rfl, hmax⟩ := nxt_some m hx
    have hA := hC.1 _ (seed_lt (s := s) hk)
    refine ⟨hA.1, hA.2.2, ⟨k, by omega, fun j hj => (hp.2 j hj).symm, hp.1, hA.2.1 k (by rw [seed_bit]; simp)⟩, fun y hy hcy hl hyx => ?_⟩
    obtain ⟨i, hi, h1, h2, h3⟩ := hl
    obtain ⟨him, hpi, hin⟩ := pass_of hC hy hcy h1 h2 h3
    rcases Nat.lt_trichotomy i k with e | e | e
    · refine Lec.asymm hyx ⟨i, hi, fun j hj => ?_, ?_, h3⟩
      · rw [hp.2 j (by omega)]; exact h1 j hj
      · rw [hp.2 i e]; exact h2
    · subst e
      obtain ⟨j, _, _, g2, g3⟩ := hyx
      rw [hin j g3] at g2; cases g2
    · exact hmax i e him hpi
  · intro hn y hy hcy hl
    obtain ⟨i, hi, h1, h2, h3⟩ := hl
    obtain ⟨him, hpi, _⟩ := pass_of hC hy hcy h1 h2 h3
    exact nxt_none m hn i him hpi

variable {h : Nat → Nat} {n m : Nat}
theorem clm_in (m10 : m ≤ 10) (hh : ∀ k, k < n → h k < 1024) {M : Nat} (hM : M < pw m) : ∀ i, M.testBit i = true → (clm h n m M).testBit i = true := fun i hi =>
  mks_iff.2 ⟨bit_of_lt hM hi, fun _ _ hs => ((ths_iff (set_1024 m10 hM) hh).1 hs).2 i hi⟩
theorem ths_anti (hh : ∀ k, k < n → h k < 1024) {M M' : Nat} (hM : M < 1024) (hM' : M' < 1024) (hs : ∀ i, M.testBit i = true → M'.testBit i = true) : ∀ j, (ths h n M').testBit j = true → (ths h n M).testBit j = true := fun j hj => by
  obtain ⟨h1, h2⟩ := (ths_iff hM' hh).1 hj
  exact (ths_iff hM hh).2 ⟨h1, fun i hi => h2 i (hs i hi)⟩
theorem mks_anti {s s' : Nat} (hs : ∀ j, s.testBit j = true → s'.testBit j = true) : ∀ i, (mks h n m s').testBit i = true → (mks h n m s).testBit i = true := fun i hi => by
  obtain ⟨h1, h2⟩ := mks_iff.1 hi
  exact mks_iff.2 ⟨h1, fun j hj hsj => h2 j hj (hs j hsj)⟩
theorem clm_closing (h10 : n ≤ 10) (m10 : m ≤ 10) (hh : ∀ k, k < n → h k < 1024) : Closing m (clm h n m) := by
  refine ⟨fun A hA => ⟨clm_lt _ _ _ _, clm_in m10 hh hA, ?_⟩, fun A x hA hx hcl hs i hi => ?_⟩
  · unfold clm
    exact wil_same h10 m10 hh (ths_lt _ _ _)
  · rw [← hcl]
    exact mks_anti (ths_anti hh (set_1024 m10 hA) (set_1024 m10 hx) hs) i hi
/-- The sets of marks of concepts are the closed ones. -/
theorem cons_mem {x y : Nat} : (x, y) ∈ cons h n m ↔ x < pw n ∧ clt h n m x = x ∧ y = mks h n m x := by
  unfold cons
  rw [List.mem_map]
  constructor
  · rintro ⟨s, hs, e⟩
    cases e
    obtain ⟨h1, h2⟩ := (fil_mem _ _ _).1 hs
    exact ⟨h1, by simpa [isT] using h2, rfl⟩
  · rintro ⟨h1, h2, rfl⟩
    exact ⟨x, (fil_mem _ _ _).2 ⟨h1, by simpa [isT] using h2⟩, rfl⟩
theorem intent_iff (h10 : n ≤ 10) (m10 : m ≤ 10) (hh : ∀ k, k < n → h k < 1024) {y : Nat} : (∃ x, (x, y) ∈ cons h n m) ↔ y < pw m ∧ clm h n m y = y := by
  constructor
  · rintro ⟨x, hx⟩
    obtain ⟨h1, h2, rfl⟩ := cons_mem.1 hx
    refine ⟨mks_lt _ _ _ _, ?_⟩
    unfold clm
    exact wil_same h10 m10 hh h1
  · rintro ⟨h1, h2⟩
    refine ⟨ths h n y, cons_mem.2 ⟨ths_lt _ _ _, ?_, h2.symm⟩⟩
    show ths h n (mks h n m (ths h n y)) = ths h n y
    rw [show mks h n m (ths h n y) = y from h2]
end Go.Proofs.Ytpmgengddnafeab
