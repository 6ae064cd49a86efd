/-
  What order.Ideals and the reference's Inside, Ideal and Ideals answer. No condition but that a slice reads as a slice of numbers.
-/
import Derived.Test.YtomoodpgmkjacabNats
namespace Go.Proofs.Ytomoodpgmkjacab
open Go.RowKit

def fil (I : Nat → Bool) : Nat → List Nat
  | 0 => []
  | k + 1 => if I k = true then fil I k ++ [k] else fil I k
theorem fil_yes {I : Nat → Bool} {k : Nat} (h : I k = true) : fil I (k + 1) = fil I k ++ [k] := by simp [fil, h]
theorem fil_no {I : Nat → Bool} {k : Nat} (h : I k = false) : fil I (k + 1) = fil I k := by simp [fil, h]
theorem fil_len (I : Nat → Bool) : ∀ k, (fil I k).length ≤ k
  | 0 => by simp [fil]
  | k + 1 => by
    have ih := fil_len I k
    cases h : I k
    · rw [fil_no h]; omega
    · rw [fil_yes h, List.length_append]; simp; exact ih
def idlTo (g : Nat → Nat) (s : Nat) : Nat → Bool
  | 0 => true
  | k + 1 => idlTo g s k && !(s.testBit k && lack (g k) s != 0)
theorem idlTo_iff (g : Nat → Nat) (s : Nat) : ∀ n, idlTo g s n = true ↔ ∀ p, p < n → s.testBit p = true → lack (g p) s = 0
  | 0 => by simp [idlTo]
  | n + 1 => by
    simp only [idlTo, Bool.and_eq_true, idlTo_iff g s n]
    constructor
    · rintro ⟨h1, h2⟩
      refine upto_succ h1 fun hb => ?_
      simpa [hb] using h2
    · intro h
      refine ⟨fun p hp => h p (by omega), ?_⟩
      cases hb : s.testBit n
      · simp
      · simp [h n (by omega) hb]
theorem idlTo_false {g : Nat → Nat} {s n k : Nat} (hk : k < n) (hb : s.testBit k = true) (hl : lack (g k) s ≠ 0) : idlTo g s n = false := by
  cases e : idlTo g s n
  · rfl
  · exact absurd ((idlTo_iff g s n).1 e k hk hb) hl
def idls (g : Nat → Nat) (n : Nat) : List Nat := fil (fun s => idlTo g s n) (pw n)

theorem hv_bits {a k : Nat} (h : hv a k = 0) (i : Nat) (hi : k ≤ i) : a.testBit i = false := by
  have h2 : hv a i = 0 := by
    obtain ⟨d, rfl⟩ : ∃ d, i = k + d := ⟨i - k, by omega⟩
    unfold hv at h ⊢
    rw [Nat.pow_add, ← Nat.div_div_eq_div_mul, h, Nat.zero_div]
  rw [hv_bit, h2]; rfl

end Go.Proofs.Ytomoodpgmkjacab
