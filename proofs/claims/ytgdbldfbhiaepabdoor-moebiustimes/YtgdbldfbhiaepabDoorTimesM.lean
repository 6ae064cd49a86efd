/-
  Pairs of points: the set of pairs up to one of them, as order.pairsUpTo makes it, and as the document says it. Plain facts: no Go text here. Conditions: as each theorem says.
-/
import Derived.Test.YtgdbldfbhiaepabDoorJoins
import Derived.Test.YtgdbldfbhiaepabDoorPoints
namespace Go.Proofs.YtgdbldfbhiaepabDoor
open Go.RowKit

theorem pw_add (a b : Nat) : pw (a + b) = pw a * pw b := Nat.pow_add 2 a b
theorem pts_mem (s : Nat) : ∀ k i, i ∈ pts s k ↔ i < k ∧ s.testBit i = true
  | 0, i => by simp [pts]
  | k + 1, i => by
    have ih := pts_mem s k i
    cases hb : s.testBit k
    · rw [pts_no hb, ih]
      constructor
      · rintro ⟨h1, h2⟩; exact ⟨by omega, h2⟩
      · rintro ⟨h1, h2⟩
        refine ⟨?_, h2⟩
        by_cases e : i = k
        · subst e; rw [hb] at h2; cases h2
        · omega
    · rw [pts_yes hb, List.mem_append, ih]
      constructor
      · rintro (⟨h1, h2⟩ | h)
        · exact ⟨by omega, h2⟩
        · simp at h; subst h; exact ⟨by omega, hb⟩
      · rintro ⟨h1, h2⟩
        by_cases e : i = k
        · subst e; exact .inr (by simp)
        · exact .inl ⟨by omega, h2⟩
theorem nth_mem {l : List Nat} {q : Nat} : q ∈ l ↔ ∃ j, j < l.length ∧ nth l j = q := by
  constructor
  · intro h
    obtain ⟨j, hj, e⟩ := List.getElem_of_mem h
    exact ⟨j, hj, by simp [nth, hj, e]⟩
  · rintro ⟨j, hj, e⟩
    have : nth l j = l[j] := by simp [nth, hj]
    rw [← e, this]
    exact List.getElem_mem hj

def prsTo (row n2 : Nat) (L : List Nat) : Nat → Nat
  | 0 => 0
  | k + 1 => prsTo row n2 L k ||| row * pw (nth L k * n2)
theorem shift_bit (row q z : Nat) : (row * pw q).testBit z = (decide (q ≤ z) && row.testBit (z - q)) := Nat.testBit_mul_two_pow row z q
theorem prsTo_bit (row n2 : Nat) (L : List Nat) (z : Nat) : ∀ k, (prsTo row n2 L k).testBit z = true ↔ ∃ j, j < k ∧ nth L j * n2 ≤ z ∧ row.testBit (z - nth L j * n2) = true
  | 0 => by simp [prsTo]
  | k + 1 => by
    rw [prsTo, Nat.testBit_or, Bool.or_eq_true, prsTo_bit row n2 L z k, shift_bit, Bool.and_eq_true, decide_eq_true_eq]
    constructor
    · rintro (⟨j, hj, h⟩ | h)
      · exact ⟨j, by omega, h⟩
      · exact ⟨k, by omega, h⟩
    · rintro ⟨j, hj, h⟩
      by_cases e : j = k
      · subst e; exact .inr h
      · exact .inl ⟨j, by omega, h⟩
theorem shift_lt {row n1 n2 q : Nat} (hr : row < pw n2) (hq : q < n1) : row * pw (q * n2) < pw (n1 * n2) := by
  have h1 : row * pw (q * n2) < pw n2 * pw (q * n2) := Nat.mul_lt_mul_of_pos_right hr (pw_pos _)
  have h2 : pw n2 * pw (q * n2) = pw (n2 + q * n2) := (pw_add _ _).symm
  have h3 : n2 + q * n2 ≤ n1 * n2 := by
    have : (q + 1) * n2 ≤ n1 * n2 := Nat.mul_le_mul_right _ hq
    rw [Nat.succ_mul] at this
    omega
  have h4 : pw (n2 + q * n2) ≤ pw (n1 * n2) := Nat.pow_le_pow_right (by decide) h3
  rw [h2] at h1
  exact Nat.lt_of_lt_of_le h1 h4
theorem prsTo_lt {row n1 n2 : Nat} {L : List Nat} (hr : row < pw n2) (hL : ∀ j, j < L.length → nth L j < n1) : ∀ k, k ≤ L.length → prsTo row n2 L k < pw (n1 * n2)
  | 0, _ => pw_pos _
  | k + 1, hk => Nat.or_lt_two_pow (prsTo_lt hr hL k (by omega)) (shift_lt hr (hL k (by omega)))

def upB (g : Nat → Nat) (a b : Nat) : Bool := (a == b) || (g b).testBit a
def tmP (g1 g2 : Nat → Nat) (n2 z t : Nat) : Bool := (z != t) && upB g1 (z / n2) (t / n2) && upB g2 (z % n2) (t % n2)
/-- The set of the pair t, as the document says it. -/
def tms (g1 g2 : Nat → Nat) (n1 n2 t : Nat) : Nat := setBy (fun z => tmP g1 g2 n2 z t) (n1 * n2)
/-- The set of the pair t, as the program makes it. -/
def tmq (g1 g2 : Nat → Nat) (n2 t : Nat) : Nat := lack (prsTo (g2 (t % n2) ||| pw (t % n2)) n2 (pts (g1 (t / n2) ||| pw (t / n2)) 10) (pts (g1 (t / n2) ||| pw (t / n2)) 10).length) (pw t)
theorem up_bit (g : Nat → Nat) (a b : Nat) : (g b ||| pw b).testBit a = upB g a b := by
  rw [Nat.testBit_or, pw_bit, upB, Bool.or_comm]
  congr 1
  rw [Bool.eq_iff_iff]; simp; exact eq_comm
theorem tm_eq {g1 g2 : Nat → Nat} {n1 n2 t : Nat} (hN : n1 * n2 ≤ 10) (h1 : ∀ k, k < n1 → g1 k < pw n1) (h2 : ∀ k, k < n2 → g2 k < pw n2) (hn1 : n1 ≤ 10) (ht : t < n1 * n2) : tmq g1 g2 n2 t = tms g1 g2 n1 n2 t := by
  have hn2 : 0 < n2 := by
    rcases Nat.eq_zero_or_pos n2 with h | h
    · rw [h, Nat.mul_zero] at ht; omega
    · exact h
  have hx : t / n2 < n1 := Nat.div_lt_of_lt_mul (by rw [Nat.mul_comm]; exact ht)
  have hy : t % n2 < n2 := Nat.mod_lt _ hn2
  have hs : g1 (t / n2) ||| pw (t / n2) < pw n1 := Nat.or_lt_two_pow (h1 _ hx) (Nat.pow_lt_pow_right (by decide) hx)
  have hr : g2 (t % n2) ||| pw (t % n2) < pw n2 := Nat.or_lt_two_pow (h2 _ hy) (Nat.pow_lt_pow_right (by decide) hy)
  have hb1 := up_bit g1 (b := t / n2)
  have hb2 := up_bit g2 (b := t % n2)
  unfold tmq tms
  generalize g1 (t / n2) ||| pw (t / n2) = s at *
  generalize g2 (t % n2) ||| pw (t % n2) = row at *
  have hL : ∀ j, j < (pts s 10).length → nth (pts s 10) j < n1 := fun j hj => by
    have := (pts_mem s 10 _).1 (nth_mem.2 ⟨j, hj, rfl⟩)
    exact bit_of_lt hs this.2
  have hP := prsTo_lt (n1 := n1) hr hL _ (Nat.le_refl _)
  have hpt : pw t < pw (n1 * n2) := Nat.pow_lt_pow_right (by decide) ht
  have hpN := pw_le (n1 * n2) hN
  refine eq_of_bits (n := n1 * n2) (Nat.lt_of_le_of_lt (lack_le _ _) hP) (setBy_lt _ _) fun z hz => ?_
  rw [lack_bit _ _ _ (by omega) (by omega), setBy_bit, pw_bit, Bool.eq_iff_iff]
  have hzq : z / n2 < n1 := Nat.div_lt_of_lt_mul (by rw [Nat.mul_comm]; exact hz)
  have key : (prsTo row n2 (pts s 10) (pts s 10).length).testBit z = true ↔ s.testBit (z / n2) = true ∧ row.testBit (z % n2) = true := by
    rw [prsTo_bit]
    constructor
    · rintro ⟨j, hj, hle, hb⟩
      have hlt := bit_of_lt hr hb
      have hq : z / n2 = nth (pts s 10) j := by
        rw [Nat.div_eq_iff hn2]
        have e := Nat.mul_comm (nth (pts s 10) j) n2
        omega
      have hm : z % n2 = z - nth (pts s 10) j * n2 := by
        have := Nat.div_add_mod z n2
        rw [hq, Nat.mul_comm] at this
        omega
      rw [hq, hm]
      exact ⟨((pts_mem s 10 _).1 (nth_mem.2 ⟨j, hj, rfl⟩)).2, hb⟩
    · rintro ⟨k1, k2⟩
      obtain ⟨j, hj, e⟩ := nth_mem.1 ((pts_mem s 10 (z / n2)).2 ⟨by omega, k1⟩)
      have := Nat.div_add_mod z n2
      rw [Nat.mul_comm] at this
      refine ⟨j, hj, by rw [e]; omega, ?_⟩
      rw [e, show z - z / n2 * n2 = z % n2 by omega]
      exact k2
  simp only [Bool.and_eq_true, Bool.not_eq_true', decide_eq_false_iff_not, decide_eq_true_eq, tmP, bne_iff_ne, ne_eq]
  rw [key, hb1, hb2]
  constructor
  · rintro ⟨⟨k1, k2⟩, k3⟩
    exact ⟨hz, ⟨fun e => k3 e.symm, k1⟩, k2⟩
  · rintro ⟨_, ⟨k3, k1⟩, k2⟩
    exact ⟨⟨k1, k2⟩, fun e => k3 e.symm⟩
end Go.Proofs.YtgdbldfbhiaepabDoor
