/-
  Ends of an order as plain facts. No Go text here. No condition.
-/
import Derived.Test.YtjoklkbfcobfeabDoorIdeals
import Derived.Test.YtjoklkbfcobfeabDoorCoM
namespace Go.Proofs.YtjoklkbfcobfeabDoor
open Go.RowKit

def rst (n x : Nat) : Nat := pw n - 1 - x
theorem rst_bit {n x : Nat} (hx : x < pw n) (i : Nat) : (rst n x).testBit i = (decide (i < n) && !x.testBit i) := by
  have e : rst n x = 2 ^ n - (x + 1) := by unfold rst pw; omega
  rw [e, Nat.testBit_two_pow_sub_succ hx]
theorem fil_lt {I : Nat → Bool} : ∀ {K x : Nat}, x ∈ fil I K → x < K
  | 0, x, h => by cases h
  | K + 1, x, h => by
    cases e : I K
    · rw [fil_no e] at h; have := fil_lt h; omega
    · rw [fil_yes e, List.mem_append, List.mem_singleton] at h
      rcases h with h | rfl
      · have := fil_lt h; omega
      · omega
theorem nth_mem {l : List Nat} {k : Nat} (h : k < l.length) : nth l k ∈ l := by
  have e : nth l k = l[k] := by simp [nth, h]
  rw [e]; exact List.getElem_mem h
theorem idls_lt {g : Nat → Nat} {n k : Nat} (hk : k < (idls g n).length) : nth (idls g n) k < pw n := fil_lt (nth_mem hk)
/-- The end that an ideal and the rest of another one make. -/
def enx (n : Nat) (L : List Nat) (k j : Nat) : Nat := nth L k ||| rst n (nth L j)
/-- The ends of the first k ideals, and of the next one with the first j. -/
def enB (n : Nat) (L : List Nat) (k j s : Nat) : Bool := anyB (fun i => anyB (fun t => enx n L i t == s) L.length) k || anyB (fun t => enx n L k t == s) j
theorem enB_zero (n : Nat) (L : List Nat) : enB n L 0 0 = fun _ => false := rfl
theorem enB_step (n : Nat) (L : List Nat) (k j : Nat) : enB n L k (j + 1) = updB (enB n L k j) (enx n L k j) := by
  funext s
  show (_ || (_ || (enx n L k j == s))) = _
  by_cases e : s = enx n L k j
  · subst e; rw [updB_same]; simp
  · rw [updB_other _ e]
    have : (enx n L k j == s) = false := by simpa using fun h : enx n L k j = s => e h.symm
    rw [this, Bool.or_false]; rfl
theorem enB_next (n : Nat) (L : List Nat) (k : Nat) : enB n L k L.length = enB n L (k + 1) 0 := by
  funext s
  show (_ || _) = ((_ || _) || false)
  rw [Bool.or_false]
def ends (g : Nat → Nat) (n : Nat) : List Nat := fil (enB n (idls g n) (idls g n).length 0) (pw n)
theorem lack_full {n x : Nat} (h10 : n ≤ 10) (hx : x < pw n) : lack (pw n - 1) x = rst n x := by
  have h1 := full_lt h10
  have h2 := pw_le n h10
  apply Nat.eq_of_testBit_eq
  intro i
  rw [lack_bit _ _ _ (by omega) (by omega), full_bit, rst_bit hx]
theorem rst_lt {n x : Nat} : rst n x < pw n := by have := pw_pos n; unfold rst; omega
end Go.Proofs.YtjoklkbfcobfeabDoor
