/-
  Pieces of a set, if each point holds on to some others. Plain facts: no Go text here. Conditions: as each theorem says.
-/
import Derived.Test.YtjhpegjcknaioaaDoorSpM
namespace Go.Proofs.YtjhpegjcknaioaaDoor

/-- A set, with what the first points of a list hold on to. -/
def orH (h : Nat → Nat) (S : Nat) (l : List Nat) (P : Nat) : Nat → Nat
  | 0 => P
  | j + 1 => orH h S l P j ||| (h (nth l j) &&& S)
def nxt (h : Nat → Nat) (S P : Nat) : Nat := orH h S (pts P 10) P (pts P 10).length
def itr (h : Nat → Nat) (S p : Nat) : Nat → Nat
  | 0 => pw p
  | k + 1 => nxt h S (itr h S p k)
theorem orH_bit (h : Nat → Nat) (S : Nat) (l : List Nat) (P i : Nat) : ∀ j, (orH h S l P j).testBit i = true ↔ P.testBit i = true ∨ ∃ t, t < j ∧ (h (nth l t)).testBit i = true ∧ S.testBit i = true
  | 0 => by simp [orH]
  | j + 1 => by
    rw [orH, Nat.testBit_or, Bool.or_eq_true, orH_bit h S l P i j, Nat.testBit_and, Bool.and_eq_true]
    constructor
    · rintro ((h1 | ⟨t, h1, h2⟩) | h1)
      · exact .inl h1
      · exact .inr ⟨t, by omega, h2⟩
      · exact .inr ⟨j, by omega, h1⟩
    · rintro (h1 | ⟨t, h1, h2⟩)
      · exact .inl (.inl h1)
      · rcases Nat.lt_or_ge t j with h3 | h3
        · exact .inl (.inr ⟨t, h3, h2⟩)
        · obtain rfl : t = j := by omega
          exact .inr h2
theorem orH_lt {h : Nat → Nat} {S n : Nat} {l : List Nat} {P : Nat} (hS : S < pw n) (hP : P < pw n) : ∀ j, orH h S l P j < pw n
  | 0 => hP
  | j + 1 => Nat.or_lt_two_pow (orH_lt hS hP j) (Nat.and_lt_two_pow _ hS)
theorem nxt_lt {h : Nat → Nat} {S n P : Nat} (hS : S < pw n) (hP : P < pw n) : nxt h S P < pw n := orH_lt hS hP _
theorem nxt_bit {h : Nat → Nat} {S n P : Nat} (hn : n ≤ 10) (hP : P < pw n) (i : Nat) : (nxt h S P).testBit i = true ↔ P.testBit i = true ∨ ∃ x, P.testBit x = true ∧ (h x).testBit i = true ∧ S.testBit i = true := by
  unfold nxt
  rw [orH_bit]
  constructor
  · rintro (h1 | ⟨t, h1, h2, h3⟩)
    · exact .inl h1
    · exact .inr ⟨_, ((pts_mem 10).1 (nth_mem h1)).2, h2, h3⟩
  · rintro (h1 | ⟨x, h1, h2, h3⟩)
    · exact .inl h1
    · obtain ⟨t, ht, e⟩ := mem_nth ((pts_mem 10).2 ⟨Nat.lt_of_lt_of_le (bit_of_lt hP h1) hn, h1⟩)
      exact .inr ⟨t, ht, by rw [e]; exact h2, h3⟩
theorem itr_lt {h : Nat → Nat} {S n p : Nat} (hS : S < pw n) (hp : p < n) : ∀ k, itr h S p k < pw n
  | 0 => Nat.pow_lt_pow_right (by decide) hp
  | k + 1 => nxt_lt hS (itr_lt hS hp k)
theorem sub_le {a b : Nat} (h : Sub a b) : a ≤ b := by
  have e : a &&& b = a := by
    apply Nat.eq_of_testBit_eq
    intro i
    rw [Nat.testBit_and]
    cases hi : a.testBit i
    · rfl
    · rw [h i hi]; rfl
  rw [← e]; exact Nat.and_le_right
theorem itr_sub {h : Nat → Nat} {S n p : Nat} (hn : n ≤ 10) (hS : S < pw n) (hp : p < n) (k : Nat) : Sub (itr h S p k) (itr h S p (k + 1)) := fun i hi => (nxt_bit hn (itr_lt hS hp k) i).2 (.inl hi)
/-- The piece of p: what comes of it, when nothing is added any more. -/
def Pc (h : Nat → Nat) (S p P : Nat) : Prop := ∃ k, P = itr h S p k ∧ itr h S p (k + 1) = itr h S p k
theorem itr_stay {h : Nat → Nat} {S p k : Nat} (e : itr h S p (k + 1) = itr h S p k) : ∀ d, itr h S p (k + d) = itr h S p k
  | 0 => rfl
  | d + 1 => by
    rw [← Nat.add_assoc, itr, itr_stay e d]
    exact e
theorem Pc.one {h : Nat → Nat} {S p P P' : Nat} (a : Pc h S p P) (b : Pc h S p P') : P = P' := by
  obtain ⟨k, rfl, e⟩ := a
  obtain ⟨k', rfl, e'⟩ := b
  rcases Nat.le_total k k' with hle | hle
  · obtain ⟨d, rfl⟩ := Nat.exists_eq_add_of_le hle
    exact (itr_stay e d).symm
  · obtain ⟨d, rfl⟩ := Nat.exists_eq_add_of_le hle
    exact itr_stay e' d
/-- One comes from p to x, each next one being held on to, within S. -/
def Cn (h : Nat → Nat) (S p x : Nat) : Prop := ∀ Q : Nat → Prop, Q p → (∀ y z, Q y → (h y).testBit z = true → S.testBit z = true → Q z) → Q x
theorem Cn.self (h : Nat → Nat) (S p : Nat) : Cn h S p p := fun _ a _ => a
theorem Cn.next {h : Nat → Nat} {S p y z : Nat} (a : Cn h S p y) (h1 : (h y).testBit z = true) (h2 : S.testBit z = true) : Cn h S p z := fun Q q0 q1 => q1 y z (a Q q0 q1) h1 h2
theorem itr_cn {h : Nat → Nat} {S n p : Nat} (hn : n ≤ 10) (hS : S < pw n) (hp : p < n) : ∀ k i, (itr h S p k).testBit i = true → Cn h S p i
  | 0, i, hi => by
    have e : p = i := by unfold itr at hi; rw [pw_bit] at hi; exact of_decide_eq_true hi
    subst e; exact Cn.self h S p
  | k + 1, i, hi => by
    rcases (nxt_bit hn (itr_lt hS hp k) i).1 hi with h1 | ⟨x, h1, h2, h3⟩
    · exact itr_cn hn hS hp k i h1
    · exact (itr_cn hn hS hp k x h1).next h2 h3
theorem Pc.bit {h : Nat → Nat} {S n p P : Nat} (hn : n ≤ 10) (hS : S < pw n) (hp : p < n) (a : Pc h S p P) (i : Nat) : P.testBit i = true ↔ Cn h S p i := by
  obtain ⟨k, rfl, e⟩ := a
  refine ⟨itr_cn hn hS hp k i, fun c => c (fun x => (itr h S p k).testBit x = true) ?_ ?_⟩
  · have h0 : ∀ j, (itr h S p j).testBit p = true := fun j => by
      induction j with
      | zero => unfold itr; rw [pw_bit]; simp
      | succ j ih => exact itr_sub hn hS hp j p ih
    exact h0 k
  · intro y z h1 h2 h3
    rw [← e]
    exact (nxt_bit hn (itr_lt hS hp k) z).2 (.inr ⟨y, h1, h2, h3⟩)
theorem Pc.lt {h : Nat → Nat} {S n p P : Nat} (hS : S < pw n) (hp : p < n) (a : Pc h S p P) : P < pw n := by
  obtain ⟨k, rfl, _⟩ := a
  exact itr_lt hS hp k
/-- The list of pieces of S, till S' is left. -/
def PcL (h : Nat → Nat) : List Nat → Nat → Nat → Prop
  | [], S, S' => S = S'
  | P :: L, S, S' => S ≠ 0 ∧ Pc h S (lo S) P ∧ PcL h L (lack S P) S'
theorem PcL.more {h : Nat → Nat} : ∀ {L : List Nat} {S S' P : Nat}, PcL h L S S' → S' ≠ 0 → Pc h S' (lo S') P → PcL h (L ++ [P]) S (lack S' P)
  | [], _, _, _, e, h0, hp => by cases e; exact ⟨h0, hp, rfl⟩
  | _ :: _, _, _, _, ⟨h1, h2, h3⟩, h0, hp => ⟨h1, h2, PcL.more h3 h0 hp⟩
theorem PcL.one {h : Nat → Nat} : ∀ {L L' : List Nat} {S : Nat}, PcL h L S 0 → PcL h L' S 0 → L = L'
  | [], [], _, _, _ => rfl
  | [], _ :: _, _, e, ⟨h0, _⟩ => absurd e h0
  | _ :: _, [], _, ⟨h0, _⟩, e => absurd e h0
  | P :: L, P' :: L', S, ⟨_, h1, h2⟩, ⟨_, h1', h2'⟩ => by
    have e := h1.one h1'
    subst e
    rw [PcL.one h2 h2']
end Go.Proofs.YtjhpegjcknaioaaDoor
