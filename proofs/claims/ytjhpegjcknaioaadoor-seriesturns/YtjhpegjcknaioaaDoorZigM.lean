/-
  Plain facts on zigs: the two ways to ask for one tell the same. Conditions: an order of ten points at most.
-/
import Derived.Test.YtjhpegjcknaioaaDoorFourM
import Derived.Test.YtjhpegjcknaioaaDoorVtlM
namespace Go.Proofs.YtjhpegjcknaioaaDoor

def all4 (a b c d : Nat) : Nat := pw a ||| pw b ||| pw c ||| pw d
theorem all4_bit (a b c d i : Nat) : (all4 a b c d).testBit i = true ↔ i = a ∨ i = b ∨ i = c ∨ i = d := by
  unfold all4
  simp only [Nat.testBit_or, pw_bit, Bool.or_eq_true, decide_eq_true_eq]
  constructor
  · rintro (((h | h) | h) | h) <;> simp [h]
  · rintro (h | h | h | h) <;> simp [h]
/-- Four points that cannot be split, as the program asks for them. -/
def pzig (g : Nat → Nat) (a b c d : Nat) : Bool := ((g a &&& all4 a b c d) == 0) && ((g b &&& all4 a b c d) == 0) && ((g c &&& all4 a b c d) == (pw a ||| pw b)) && ((g d &&& all4 a b c d) == pw b) && !(a == b)
/-- As the document says it. -/
def zigP (g : Nat → Nat) (a b c d : Nat) : Bool := (g c).testBit a && (g c).testBit b && (g d).testBit b && apB g a b && apB g a d && apB g c d
theorem and_bits {G A S : Nat} : (G &&& A) = S ↔ ∀ i, (G.testBit i = true ∧ A.testBit i = true) ↔ S.testBit i = true := by
  constructor
  · rintro rfl i; rw [Nat.testBit_and, Bool.and_eq_true]
  · intro h
    apply Nat.eq_of_testBit_eq
    intro i
    rw [Bool.eq_iff_iff, Nat.testBit_and, Bool.and_eq_true]
    exact h i
theorem pzig_iff (g : Nat → Nat) (a b c d : Nat) : pzig g a b c d = true ↔ (∀ i, (g a).testBit i = true → ¬ (i = a ∨ i = b ∨ i = c ∨ i = d)) ∧ (∀ i, (g b).testBit i = true → ¬ (i = a ∨ i = b ∨ i = c ∨ i = d)) ∧
    (∀ i, ((g c).testBit i = true ∧ (i = a ∨ i = b ∨ i = c ∨ i = d)) ↔ (i = a ∨ i = b)) ∧ (∀ i, ((g d).testBit i = true ∧ (i = a ∨ i = b ∨ i = c ∨ i = d)) ↔ i = b) ∧ a ≠ b := by
  unfold pzig
  simp only [Bool.and_eq_true, beq_iff_eq, Bool.not_eq_true', and_bits, all4_bit, Nat.testBit_or, pw_bit, Bool.or_eq_true, decide_eq_true_eq, Nat.zero_testBit, Bool.false_eq_true, iff_false, not_and, beq_eq_false_iff_ne, ne_eq, and_assoc]
  constructor
  · rintro ⟨h1, h2, h3, h4, h5⟩
    exact ⟨h1, h2, fun i => (h3 i).trans ⟨fun k => k.imp Eq.symm Eq.symm, fun k => k.imp Eq.symm Eq.symm⟩, fun i => (h4 i).trans eq_comm, h5⟩
  · rintro ⟨h1, h2, h3, h4, h5⟩
    exact ⟨h1, h2, fun i => (h3 i).trans ⟨fun k => k.imp Eq.symm Eq.symm, fun k => k.imp Eq.symm Eq.symm⟩, fun i => (h4 i).trans eq_comm, h5⟩
theorem zigP_iff (g : Nat → Nat) (a b c d : Nat) : zigP g a b c d = true ↔ ((g c).testBit a = true ∧ (g c).testBit b = true ∧ (g d).testBit b = true) ∧ ((g b).testBit a = false ∧ (g a).testBit b = false) ∧ ((g d).testBit a = false ∧ (g a).testBit d = false) ∧ ((g d).testBit c = false ∧ (g c).testBit d = false) := by
  simp only [zigP, apB, Bool.and_eq_true, Bool.not_eq_true', and_assoc]
theorem pzig_eq {n : Nat} {g : Nat → Nat} (ho : Ord n g) {a b c d : Nat} (hn : n ≤ 10) (hg : Sm n n g) (ha : a < n) (hb : b < n) (hc : c < n) (hd : d < n) : pzig g a b c d = (diff a b c d && zigP g a b c d) := by
  rw [Bool.eq_iff_iff, Bool.and_eq_true, pzig_iff, zigP_iff]
  constructor
  · rintro ⟨h1, h2, h3, h4, h5⟩
    have ac : (g c).testBit a = true := ((h3 a).2 (.inl rfl)).1
    have bc : (g c).testBit b = true := ((h3 b).2 (.inr rfl)).1
    have bd : (g d).testBit b = true := ((h4 b).2 rfl).1
    have na : ∀ i, (i = a ∨ i = b ∨ i = c ∨ i = d) → (g a).testBit i = false := fun i hi => by cases e : (g a).testBit i; rfl; exact absurd hi (h1 i e)
    have nb : ∀ i, (i = a ∨ i = b ∨ i = c ∨ i = d) → (g b).testBit i = false := fun i hi => by cases e : (g b).testBit i; rfl; exact absurd hi (h2 i e)
    have d_ne_a : d ≠ a := fun e => by subst e; rw [na b (by simp)] at bd; cases bd
    have d_ne_b : d ≠ b := fun e => by subst e; rw [nb d (by simp)] at bd; cases bd
    have c_ne_a : c ≠ a := fun e => by subst e; rw [na b (by simp)] at bc; cases bc
    have c_ne_b : c ≠ b := fun e => by subst e; rw [nb c (by simp)] at bc; cases bc
    have ad : (g d).testBit a = false := by cases e : (g d).testBit a; rfl; exact absurd ((h4 a).1 ⟨e, .inl rfl⟩) h5
    have cd : (g d).testBit c = false := by cases e : (g d).testBit c; rfl; exact absurd ((h4 c).1 ⟨e, by simp⟩) c_ne_b
    have dc : (g c).testBit d = false := by
      cases e : (g c).testBit d
      · rfl
      · rcases (h3 d).1 ⟨e, by simp⟩ with k | k
        · exact absurd k d_ne_a
        · exact absurd k d_ne_b
    have c_ne_d : c ≠ d := fun e => by subst e; rw [ac] at ad; cases ad
    exact ⟨diff_of h5 (Ne.symm c_ne_a) (Ne.symm d_ne_a) (Ne.symm c_ne_b) (Ne.symm d_ne_b) c_ne_d, ⟨ac, bc, bd⟩, ⟨nb a (by simp), na b (by simp)⟩, ⟨ad, na d (by simp)⟩, cd, dc⟩
  · rintro ⟨hdf, ⟨ac, bc, bd⟩, ⟨ab, ba⟩, ⟨ad, da⟩, cd, dc⟩
    simp only [diff, Bool.and_eq_true, Bool.not_eq_true', beq_eq_false_iff_ne] at hdf
    obtain ⟨⟨⟨⟨⟨n1, n2⟩, n3⟩, n4⟩, n5⟩, n6⟩ := hdf
    have aa := (ho a ha).1
    have bb := (ho b hb).1
    have cc := (ho c hc).1
    have dd := (ho d hd).1
    have asym : ∀ {x y}, x < n → y < n → (g y).testBit x = true → (g x).testBit y = false := fun {x y} hx hy h => by
      cases e : (g x).testBit y
      · rfl
      · have := ord_tr hn hg ho hy hx h e
        rw [(ho x hx).1] at this; cases this
    have ca := asym ha hc ac
    have cb := asym hb hc bc
    have db := asym hb hd bd
    refine ⟨?_, ?_, ?_, ?_, n1⟩
    · rintro i hi (rfl | rfl | rfl | rfl)
      · rw [aa] at hi; cases hi
      · rw [ba] at hi; cases hi
      · rw [ca] at hi; cases hi
      · rw [da] at hi; cases hi
    · rintro i hi (rfl | rfl | rfl | rfl)
      · rw [ab] at hi; cases hi
      · rw [bb] at hi; cases hi
      · rw [cb] at hi; cases hi
      · rw [db] at hi; cases hi
    · intro i
      constructor
      · rintro ⟨hi, (rfl | rfl | rfl | rfl)⟩
        · exact .inl rfl
        · exact .inr rfl
        · rw [cc] at hi; cases hi
        · rw [dc] at hi; cases hi
      · rintro (rfl | rfl)
        · exact ⟨ac, .inl rfl⟩
        · exact ⟨bc, .inr (.inl rfl)⟩
    · intro i
      constructor
      · rintro ⟨hi, (rfl | rfl | rfl | rfl)⟩
        · rw [ad] at hi; cases hi
        · rfl
        · rw [cd] at hi; cases hi
        · rw [dd] at hi; cases hi
      · rintro rfl
        exact ⟨bd, .inr (.inl rfl)⟩
end Go.Proofs.YtjhpegjcknaioaaDoor
