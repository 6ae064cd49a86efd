/-
  What the reference's Inside, MarksOf and ThingsOf answer. Conditions: a context of at most ten things and ten marks that lies in a slice of numbers.
-/
import Derived.Test.YtpmgengddnafeabConN
namespace Go.Proofs.Ytpmgengddnafeab
open Go.RowKit

theorem hv_bits {a k : Nat} (h : hv a k = 0) (i : Nat) (hi : k ≤ i) : a.testBit i = false := by
  have h2 : hv a i = 0 := by
    obtain ⟨d, rfl⟩ : ∃ d, i = k + d := ⟨i - k, by omega⟩
    unfold hv at h ⊢
    rw [Nat.pow_add, ← Nat.div_div_eq_div_mul, h, Nat.zero_div]
  rw [hv_bit, h2]; rfl
end Go.Proofs.Ytpmgengddnafeab
