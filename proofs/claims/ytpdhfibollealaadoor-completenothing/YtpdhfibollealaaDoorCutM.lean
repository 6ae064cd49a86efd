/-
  Lower and upper sets as numbers; what the program's rounds and the reference's make is the same. Conditions: as each theorem says.
-/
import Derived.Test.YtpdhfibollealaaDoorNats
namespace Go.Proofs.YtpdhfibollealaaDoor

/-- Is P so of the first k? -/
def allB (P : Nat → Bool) : Nat → Bool
  | 0 => true
  | k + 1 => allB P k && P k
theorem allB_iff (P : Nat → Bool) : ∀ k, allB P k = true ↔ ∀ i, i < k → P i = true
  | 0 => by simp [allB]
  | k + 1 => by
    have ih := allB_iff P k
    simp only [allB, Bool.and_eq_true, ih]
    constructor
    · rintro ⟨h1, h2⟩ i hi
      by_cases e : i = k
      · subst e; exact h2
      · exact h1 i (by omega)
    · intro h
      exact ⟨fun i hi => h i (by omega), h k (by omega)⟩
theorem allB_congr {P Q : Nat → Bool} (k : Nat) (h : ∀ i, i < k → P i = Q i) : allB P k = allB Q k := by
  rw [Bool.eq_iff_iff, allB_iff, allB_iff]
  exact ⟨fun a i hi => by rw [← h i hi]; exact a i hi, fun a i hi => by rw [h i hi]; exact a i hi⟩

/-- Is a below b, or b? -/
def upt (g : Nat → Nat) (a b : Nat) : Bool := decide (a = b) || (g b).testBit a
/-- A point and all below it. -/
def upto (g : Nat → Nat) (k : Nat) : Nat := g k ||| pw k
theorem upto_bit (g : Nat → Nat) (k i : Nat) : (upto g k).testBit i = upt g i k := by
  unfold upto upt
  rw [Nat.testBit_or, pw_bit, Bool.or_comm]
  congr 1
  by_cases h : k = i
  · subst h; simp
  · have : ¬ i = k := fun e => h e.symm
    simp [h, this]

/-- The rounds of lower. -/
def lwr (g : Nat → Nat) (n s : Nat) : Nat → Nat
  | 0 => pw n - 1
  | k + 1 => if s.testBit k = true then lwr g n s k &&& upto g k else lwr g n s k
theorem lwr_yes {g : Nat → Nat} {n s k : Nat} (h : s.testBit k = true) : lwr g n s (k + 1) = lwr g n s k &&& upto g k := by simp [lwr, h]
theorem lwr_no {g : Nat → Nat} {n s k : Nat} (h : s.testBit k = false) : lwr g n s (k + 1) = lwr g n s k := by simp [lwr, h]
theorem lwr_lt (g : Nat → Nat) (n s : Nat) : ∀ k, lwr g n s k < pw n
  | 0 => by have := pw_pos n; simp only [lwr]; omega
  | k + 1 => by
    have ih := lwr_lt g n s k
    cases h : s.testBit k
    · rw [lwr_no h]; exact ih
    · rw [lwr_yes h]; exact Nat.lt_of_le_of_lt Nat.and_le_left ih
theorem lwr_bit (g : Nat → Nat) (n s i : Nat) : ∀ k, (lwr g n s k).testBit i = (decide (i < n) && allB (fun j => !(s.testBit j) || upt g i j) k)
  | 0 => by
    simp only [lwr, allB, Bool.and_true]
    exact Nat.testBit_two_pow_sub_one n i
  | k + 1 => by
    have ih := lwr_bit g n s i k
    cases h : s.testBit k
    · rw [lwr_no h, ih]; simp [allB, h]
    · rw [lwr_yes h, Nat.testBit_and, ih, upto_bit]; simp [allB, h, Bool.and_assoc]
def low (g : Nat → Nat) (n s : Nat) : Nat := lwr g n s n
theorem low_lt (g : Nat → Nat) (n s : Nat) : low g n s < pw n := lwr_lt g n s n

/-- Of the reference's Bound: may i be in it? -/
def bnT (g : Nat → Nat) (s : Nat) (up : Bool) (i k : Nat) : Bool := s.testBit k && ((up && !(upt g k i)) || (!up && !(upt g i k)))
def bnA (g : Nat → Nat) (s : Nat) (up : Bool) (i : Nat) : Nat → Bool := allB (fun k => !(bnT g s up i k))
def bnd (g : Nat → Nat) (n s : Nat) (up : Bool) : Nat := setBy (fun i => bnA g s up i n) n
theorem bnd_lt (g : Nat → Nat) (n s : Nat) (up : Bool) : bnd g n s up < pw n := setBy_lt _ n
theorem bnd_bit (g : Nat → Nat) (n s : Nat) (up : Bool) (i : Nat) : (bnd g n s up).testBit i = (decide (i < n) && bnA g s up i n) := setBy_bit _ n i
theorem low_bound (g : Nat → Nat) (n s : Nat) : low g n s = bnd g n s false := by
  apply eq_of_bits (low_lt g n s) (bnd_lt g n s false)
  intro i hi
  rw [bnd_bit]
  show (lwr g n s n).testBit i = _
  rw [lwr_bit]
  congr 1
  exact allB_congr n (fun k _ => by simp [bnT, Bool.not_and])
theorem trn_bit (g : Nat → Nat) (u l i : Nat) : (trn g u l).testBit i = (decide (i < u) && (g i).testBit l) := setBy_bit _ u i
theorem low_dual (g : Nat → Nat) (n s : Nat) : low (trn g n) n s = bnd g n s true := by
  apply eq_of_bits (low_lt _ n s) (bnd_lt g n s true)
  intro i hi
  rw [bnd_bit]
  show (lwr (trn g n) n s n).testBit i = _
  rw [lwr_bit]
  congr 1
  refine allB_congr n (fun k _ => ?_)
  simp only [bnT, upt, trn_bit, hi, decide_true, Bool.true_and, Bool.not_true, Bool.false_and, Bool.or_false, Bool.not_and, Bool.not_not]
  congr 2
  by_cases e : i = k
  · subst e; simp
  · have : ¬ k = i := fun x => e x.symm
    simp [e, this]
/-- The least cut that has a set in it. -/
def cutW (g : Nat → Nat) (n s : Nat) : Nat := low g n (low (trn g n) n s)
theorem cutW_lt (g : Nat → Nat) (n s : Nat) : cutW g n s < pw n := low_lt _ _ _
theorem cutW_eq (g : Nat → Nat) (n s : Nat) : cutW g n s = bnd g n (bnd g n s true) false := by
  unfold cutW; rw [low_dual, low_bound]
def isCut (g : Nat → Nat) (n s : Nat) : Bool := decide (cutW g n s = s)

end Go.Proofs.YtpdhfibollealaaDoor
