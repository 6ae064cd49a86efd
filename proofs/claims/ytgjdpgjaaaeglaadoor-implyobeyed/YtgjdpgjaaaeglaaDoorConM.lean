/-
  Marks of things and things with marks as numbers; how sets are closed; plain facts. Conditions: as each theorem says.
-/
import Derived.Test.YtgjdpgjaaaeglaaDoorNats
namespace Go.Proofs.YtgjdpgjaaaeglaaDoor

/-- Is P so of the first k? -/
def allBQ (P : Nat → Bool) : Nat → Bool
  | 0 => true
  | k + 1 => allBQ P k && P k
theorem allB_iffQ (P : Nat → Bool) : ∀ k, allBQ P k = true ↔ ∀ i, i < k → P i = true
  | 0 => by simp [allBQ]
  | k + 1 => by
    have ih := allB_iffQ P k
    simp only [allBQ, Bool.and_eq_true, ih]
    constructor
    · rintro ⟨h1, h2⟩ i hi
      by_cases e : i = k
      · subst e; exact h2
      · exact h1 i (by omega)
    · intro h
      exact ⟨fun i hi => h i (by omega), h k (by omega)⟩

/-- The rounds of marksOf. -/
def mko (h : Nat → Nat) (m s : Nat) : Nat → Nat
  | 0 => pw m - 1
  | k + 1 => if s.testBit k = true then mko h m s k &&& h k else mko h m s k
theorem mko_yes {h : Nat → Nat} {m s k : Nat} (e : s.testBit k = true) : mko h m s (k + 1) = mko h m s k &&& h k := by simp [mko, e]
theorem mko_no {h : Nat → Nat} {m s k : Nat} (e : s.testBit k = false) : mko h m s (k + 1) = mko h m s k := by simp [mko, e]
theorem mko_lt (h : Nat → Nat) (m s : Nat) : ∀ k, mko h m s k < pw m
  | 0 => by have := pw_pos m; simp only [mko]; omega
  | k + 1 => by
    have ih := mko_lt h m s k
    cases e : s.testBit k
    · rw [mko_no e]; exact ih
    · rw [mko_yes e]; exact Nat.lt_of_le_of_lt Nat.and_le_left ih
theorem full_bitQ (m i : Nat) : (pw m - 1).testBit i = decide (i < m) := by unfold pw; exact Nat.testBit_two_pow_sub_one m i
/-- Have all of the first n things of s mark i? -/
def hasI (h : Nat → Nat) (n s i : Nat) : Bool := allBQ (fun j => !s.testBit j || (h j).testBit i) n
theorem mko_bit (h : Nat → Nat) (m s i : Nat) : ∀ k, (mko h m s k).testBit i = (decide (i < m) && hasI h k s i)
  | 0 => by simp [mko, full_bitQ, hasI, allBQ]
  | k + 1 => by
    have ih := mko_bit h m s i k
    have e2 : hasI h (k + 1) s i = (hasI h k s i && (!s.testBit k || (h k).testBit i)) := rfl
    rw [e2]
    cases e : s.testBit k
    · rw [mko_no e, ih]; simp
    · rw [mko_yes e, Nat.testBit_and, ih]; simp [Bool.and_assoc]
/-- The marks that all of a set of things have. -/
def mks (h : Nat → Nat) (n m s : Nat) : Nat := mko h m s n
theorem mks_lt (h : Nat → Nat) (n m s : Nat) : mks h n m s < pw m := mko_lt h m s n
theorem mks_bit (h : Nat → Nat) (n m s i : Nat) : (mks h n m s).testBit i = (decide (i < m) && hasI h n s i) := mko_bit h m s i n
theorem mks_set (h : Nat → Nat) (n m s : Nat) : mks h n m s = setBy (hasI h n s) m :=
  eq_of_bits (mks_lt h n m s) (setBy_lt _ _) fun i hi => by rw [mks_bit, setBy_bit]
theorem mks_iff {h : Nat → Nat} {n m s i : Nat} : (mks h n m s).testBit i = true ↔ i < m ∧ ∀ j, j < n → s.testBit j = true → (h j).testBit i = true := by
  rw [mks_bit]
  simp only [Bool.and_eq_true, decide_eq_true_eq, hasI, allB_iffQ, Bool.or_eq_true, Bool.not_eq_true']
  constructor
  · rintro ⟨h1, h2⟩
    exact ⟨h1, fun j hj hs => (h2 j hj).resolve_left (by rw [hs]; simp)⟩
  · rintro ⟨h1, h2⟩
    refine ⟨h1, fun j hj => ?_⟩
    cases e : s.testBit j
    · exact .inl rfl
    · exact .inr (h2 j hj e)

/-- Has thing j all marks of M? -/
def hasA (h : Nat → Nat) (M j : Nat) : Bool := lack M (h j) == 0
/-- The things that have all marks of M. -/
def ths (h : Nat → Nat) (n M : Nat) : Nat := setBy (hasA h M) n
theorem ths_lt (h : Nat → Nat) (n M : Nat) : ths h n M < pw n := setBy_lt _ _
theorem ths_iff {h : Nat → Nat} {n M j : Nat} (hM : M < 1024) (hh : ∀ k, k < n → h k < 1024) : (ths h n M).testBit j = true ↔ j < n ∧ ∀ i, M.testBit i = true → (h j).testBit i = true := by
  unfold ths
  rw [setBy_bit]
  simp only [Bool.and_eq_true, decide_eq_true_eq, hasA, beq_iff_eq]
  constructor
  · rintro ⟨h1, h2⟩
    exact ⟨h1, (lack_zero _ _ (by omega) (by have := hh j h1; omega)).1 h2⟩
  · rintro ⟨h1, h2⟩
    exact ⟨h1, (lack_zero _ _ (by omega) (by have := hh j h1; omega)).2 h2⟩
/-- The least set of things of a concept that has all of s; likewise of marks. -/
def clt (h : Nat → Nat) (n m s : Nat) : Nat := ths h n (mks h n m s)
def clm (h : Nat → Nat) (n m M : Nat) : Nat := mks h n m (ths h n M)
theorem clt_lt (h : Nat → Nat) (n m s : Nat) : clt h n m s < pw n := ths_lt _ _ _
theorem clm_lt (h : Nat → Nat) (n m M : Nat) : clm h n m M < pw m := mks_lt _ _ _ _

/-- Those of the first k numbers that are so. -/
def filQ (I : Nat → Bool) : Nat → List Nat
  | 0 => []
  | k + 1 => if I k = true then filQ I k ++ [k] else filQ I k
theorem fil_yesQ {I : Nat → Bool} {k : Nat} (h : I k = true) : filQ I (k + 1) = filQ I k ++ [k] := by simp [filQ, h]
theorem fil_noQ {I : Nat → Bool} {k : Nat} (h : I k = false) : filQ I (k + 1) = filQ I k := by simp [filQ, h]
theorem fil_lenQ (I : Nat → Bool) : ∀ k, (filQ I k).length ≤ k
  | 0 => by simp [filQ]
  | k + 1 => by
    have ih := fil_lenQ I k
    cases h : I k
    · rw [fil_noQ h]; omega
    · rw [fil_yesQ h, List.length_append]; simp; exact ih
theorem fil_memQ (I : Nat → Bool) : ∀ k x, x ∈ filQ I k ↔ x < k ∧ I x = true
  | 0, x => by simp [filQ]
  | k + 1, x => by
    have ih := fil_memQ I k x
    cases h : I k
    · rw [fil_noQ h, ih]
      constructor
      · rintro ⟨a, b⟩; exact ⟨by omega, b⟩
      · rintro ⟨a, b⟩
        have : x ≠ k := fun e => by rw [e, h] at b; cases b
        exact ⟨by omega, b⟩
    · rw [fil_yesQ h, List.mem_append, ih, List.mem_singleton]
      constructor
      · rintro (⟨a, b⟩ | rfl)
        · exact ⟨by omega, b⟩
        · exact ⟨by omega, h⟩
      · rintro ⟨a, b⟩
        by_cases e : x = k
        · exact .inr e
        · exact .inl ⟨by omega, b⟩
theorem fil_congrQ {I J : Nat → Bool} : ∀ k, (∀ i, i < k → I i = J i) → filQ I k = filQ J k
  | 0, _ => rfl
  | k + 1, h => by simp only [filQ, h k (by omega), fil_congrQ k (fun i hi => h i (by omega))]
/-- The sets of things of all concepts. -/
def isT (h : Nat → Nat) (n m s : Nat) : Bool := clt h n m s == s
def tsets (h : Nat → Nat) (n m : Nat) : List Nat := filQ (isT h n m) (pw n)
/-- The concepts. -/
def cons (h : Nat → Nat) (n m : Nat) : List (Nat × Nat) := (tsets h n m).map fun s => (s, mks h n m s)

/-- What firstBehind finds: marks k - 1 down to 0 are looked at. -/
def nxt (C : Nat → Nat) (s : Nat) : Nat → Option Nat
  | 0 => none
  | k + 1 => if s.testBit k = true then nxt C s k else
    if C (s &&& (pw k - 1) ||| pw k) &&& (pw k - 1) = s &&& (pw k - 1) then some (C (s &&& (pw k - 1) ||| pw k)) else nxt C s k
theorem nxt_in {C : Nat → Nat} {s k : Nat} (e : s.testBit k = true) : nxt C s (k + 1) = nxt C s k := by simp [nxt, e]
theorem nxt_yes {C : Nat → Nat} {s k : Nat} (e : s.testBit k = false) (h : C (s &&& (pw k - 1) ||| pw k) &&& (pw k - 1) = s &&& (pw k - 1)) : nxt C s (k + 1) = some (C (s &&& (pw k - 1) ||| pw k)) := by simp [nxt, e, h]
theorem nxt_no {C : Nat → Nat} {s k : Nat} (e : s.testBit k = false) (h : ¬ C (s &&& (pw k - 1) ||| pw k) &&& (pw k - 1) = s &&& (pw k - 1)) : nxt C s (k + 1) = nxt C s k := by simp [nxt, e, h]
end Go.Proofs.YtgjdpgjaaaeglaaDoor
