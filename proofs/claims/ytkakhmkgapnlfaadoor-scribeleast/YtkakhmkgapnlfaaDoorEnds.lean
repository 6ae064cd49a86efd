/-
  What order.Ends and the reference's Ends answer; hasselaw.OrderEnds returns true for every order. No condition but that a slice reads as a slice of numbers.
-/
import Derived.Test.YtkakhmkgapnlfaaDoorSets
import Derived.Test.YtkakhmkgapnlfaaDoorChecks
namespace Go.Proofs.YtkakhmkgapnlfaaDoor
open Go.RowKit

theorem Chk.good {n : Int} {len : Nat} {f : Nat → Int} (h : Chk n len f 0) : n = (len : Int) ∧ len ≤ 10 ∧ Rng len f ∧ Ord len (nat f) := by
  rcases h with ⟨h, _⟩ | ⟨m, hm, h10, ⟨h, _⟩ | ⟨rfl, ⟨h, _⟩ | ⟨hr, ⟨h, _⟩ | ⟨_, ho⟩⟩⟩⟩
  · cases h
  · cases h
  · cases h
  · cases h
  · exact ⟨hm, h10, hr, ho⟩
theorem Rng.row {w : World} {a : Option Addr} {len : Nat} {f : Nat → Int} (hr : Rng len f) (h : Row w a len f) : Row w a len (fun k => (nat f k : Nat)) := by
  intro j hj
  have := h j hj
  have e : f j = (nat f j : Nat) := by have := hr j hj; unfold nat; omega
  rw [e] at this
  exact this
theorem Rng.small {len : Nat} {f : Nat → Int} (hr : Rng len f) : ∀ k, k < len → nat f k < pw len := fun k hk => by
  have := hr k hk; unfold nat; omega
theorem Rng.small2 {len : Nat} {f : Nat → Int} (hr : Rng len f) (hl : len ≤ 10) : ∀ k, k < len → nat f k < 1024 := fun k hk =>
  Nat.lt_of_lt_of_le (hr.small k hk) (pw_le len hl)

def leastOf (g : Nat → Nat) (n : Nat) : Nat := setBy (fun p => g p == 0) n
def mostOf (g : Nat → Nat) (n : Nat) : Nat := setBy (fun p => trn g n p == 0) n

def EndsPost (n : Int) (len : Nat) (f : Nat → Int) (e : Ending) : Prop :=
  ∃ c : Int, Chk n len f c ∧ ((c ≠ 0 ∧ e = .returned (.tuple #[.int .i64 0, .int .i64 0, .int .i64 c])) ∨
    (c = 0 ∧ e = .returned (.tuple #[.int .i64 (leastOf (nat f) len : Nat), .int .i64 (mostOf (nat f) len : Nat), .int .i64 0])))

def lowTo (g : Nat → Nat) (i : Nat) : Nat → Bool
  | 0 => true
  | k + 1 => lowTo g i k && !(g i).testBit k
def highTo (g : Nat → Nat) (i : Nat) : Nat → Bool
  | 0 => true
  | k + 1 => highTo g i k && !(g k).testBit i
theorem lowTo_iff (g : Nat → Nat) (i : Nat) : ∀ n, lowTo g i n = true ↔ ∀ k, k < n → (g i).testBit k = false
  | 0 => by simp [lowTo]
  | n + 1 => by
    simp only [lowTo, Bool.and_eq_true, Bool.not_eq_true', lowTo_iff g i n]
    exact ⟨fun h => upto_succ h.1 h.2, fun h => ⟨fun k hk => h k (by omega), h n (by omega)⟩⟩
theorem highTo_iff (g : Nat → Nat) (i : Nat) : ∀ n, highTo g i n = true ↔ ∀ k, k < n → (g k).testBit i = false
  | 0 => by simp [highTo]
  | n + 1 => by
    simp only [highTo, Bool.and_eq_true, Bool.not_eq_true', highTo_iff g i n]
    exact ⟨fun h => upto_succ h.1 h.2, fun h => ⟨fun k hk => h k (by omega), h n (by omega)⟩⟩
theorem least_eq (g : Nat → Nat) (n : Nat) (hg : ∀ k, k < n → g k < pw n) : leastOf g n = setBy (fun i => lowTo g i n) n := by
  refine setBy_congr n fun i hi => ?_
  rw [Bool.eq_iff_iff, lowTo_iff]
  simp only [beq_iff_eq]
  constructor
  · intro h k _; rw [h]; simp
  · intro h
    refine eq_of_bits (hg i hi) (pw_pos n) fun k hk => ?_
    rw [h k hk]; simp
theorem most_eq (g : Nat → Nat) (n : Nat) : mostOf g n = setBy (fun i => highTo g i n) n := by
  refine setBy_congr n fun i hi => ?_
  rw [Bool.eq_iff_iff, highTo_iff]
  simp only [beq_iff_eq]
  constructor
  · intro h k hk
    have := setBy_bit (fun x => (g x).testBit i) n k
    rw [show setBy (fun x => (g x).testBit i) n = 0 from h] at this
    simpa [hk] using this.symm
  · intro h
    refine eq_of_bits (trn_small g n i n (Nat.le_refl _)) (pw_pos n) fun k hk => ?_
    rw [show trn g n i = setBy (fun x => (g x).testBit i) n from rfl, setBy_bit]
    simp [h k hk]

end Go.Proofs.YtkakhmkgapnlfaaDoor
