/-
  What complete.Lower, Upper and cut answer. Conditions: none of Lower and Upper but that a slice reads as a slice of numbers; of cut an order and its dual.
-/
import Derived.Test.YtpmgengddnafeabLower
import Derived.Test.YtpmgengddnafeabCutO
namespace Go.Proofs.Ytpmgengddnafeab
open Go.RowKit

/-- What the errno must be for an order and a set. -/
def SCk (n : Int) (len : Nat) (f : Nat → Int) (s : Int) (c : Int) : Prop :=
  (c ≠ 0 ∧ Chk n len f c) ∨ (Chk n len f 0 ∧ ((c = 3 ∧ sts s len = false) ∨ (c = 0 ∧ sts s len = true)))
theorem SCk.unique {n : Int} {len : Nat} {f : Nat → Int} {s : Int} {c c' : Int} (h : SCk n len f s c) (h' : SCk n len f s c') : c = c' := by
  rcases h with ⟨h0, h⟩ | ⟨h, k⟩
  · rcases h' with ⟨_, h'⟩ | ⟨h', _⟩
    · exact h.unique h'
    · exact absurd (h.unique h') h0
  · rcases h' with ⟨h0, h'⟩ | ⟨_, k'⟩
    · exact absurd (h'.unique h) h0
    · rcases k with ⟨rfl, k⟩ | ⟨rfl, k⟩ <;> rcases k' with ⟨rfl, k'⟩ | ⟨rfl, k'⟩ <;> first | rfl | (rw [k] at k'; cases k')
/-- What a call answers that hands back a number and an errno. -/
def NumPost (c : Int) (x : Nat) (e : Ending) : Prop := ∃ v : Int, e = .returned (.tuple #[.int .i64 v, .int .i64 c]) ∧ ((c ≠ 0 ∧ v = 0) ∨ (c = 0 ∧ v = (x : Nat)))
theorem sts_nat {s : Int} {n : Nat} (h : sts s n = true) : ∃ k : Nat, s = k ∧ k < pw n := by
  simp only [sts, decide_eq_true_eq] at h
  exact ⟨s.toNat, by omega, by omega⟩

end Go.Proofs.Ytpmgengddnafeab
