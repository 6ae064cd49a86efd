/-
  The number of a row: plain facts. No Go text here. Conditions: at most ten points.
-/
import Derived.Test.YtklfnghgpmjnmaaDoorNthM
import Derived.Test.YtklfnghgpmjnmaaDoorGood
namespace Go.Proofs.YtklfnghgpmjnmaaDoor
open Go.RowKit

/-- What stands behind the first points of a list. -/
def sB (r : Nat → Nat) (i : Nat) : Nat := sumTo (fun j => pw (r j)) i
theorem sB_succ (r : Nat → Nat) (i : Nat) : sB r (i + 1) = sB r i + pw (r i) := rfl
/-- The first points of a list stand as they may. -/
def RowTo (u : Nat → Nat) (n : Nat) (f : Nat → Int) (i : Nat) : Prop := ∀ j, j < i → 0 ≤ f j ∧ f j < (n : Nat) ∧ may u (sB (nat f) j) (nat f j) = true
theorem RowTo.less {u : Nat → Nat} {n : Nat} {f : Nat → Int} {i : Nat} (h : RowTo u n f i) {j : Nat} (hj : j ≤ i) : RowTo u n f j := fun k hk => h k (by omega)
theorem nat_lt {f : Nat → Int} {j n : Nat} (h0 : 0 ≤ f j) (h1 : f j < (n : Nat)) : nat f j < n := by unfold nat; omega
theorem nat_eq {f : Nat → Int} {j : Nat} (h0 : 0 ≤ f j) : f j = (nat f j : Nat) := by unfold nat; omega
theorem RowTo.set {u : Nat → Nat} {n : Nat} {f : Nat → Int} : ∀ i, RowTo u n f i → sB (nat f) i < pw n ∧ miss n (sB (nat f) i) + i = n
  | 0, _ => ⟨pw_pos n, by rw [show sB (nat f) 0 = 0 from rfl, miss_empty]; rfl⟩
  | i + 1, h => by
    obtain ⟨h1, h2⟩ := RowTo.set i (h.less (by omega))
    obtain ⟨g0, g1, g2⟩ := h i (by omega)
    have hlt := nat_lt g0 g1
    have hb := may_out g2
    rw [sB_succ]
    refine ⟨add_lt h1 hlt hb, ?_⟩
    have := miss_add hb n hlt
    omega
theorem RowTo.le {u : Nat → Nat} {n : Nat} {f : Nat → Int} {i : Nat} (h : RowTo u n f i) : i ≤ n := by have := (RowTo.set i h).2; omega
/-- Is a list a row? -/
def IsRw (u : Nat → Nat) (n lr : Nat) (f : Nat → Int) : Prop := lr = n ∧ RowTo u n f n
/-- Its number, by its first points. -/
def rk (u : Nat → Nat) (n : Nat) (r : Nat → Nat) (i : Nat) : Nat := sumTo (fun j => sumTo (goes u n (sB r j)) (r j)) i
theorem rk_succ (u : Nat → Nat) (n : Nat) (r : Nat → Nat) (i : Nat) : rk u n r (i + 1) = rk u n r i + sumTo (goes u n (sB r i)) (r i) := rfl
theorem rk_small {u : Nat → Nat} {n : Nat} {f : Nat → Int} (h10 : n ≤ 10) {i : Nat} (h : RowTo u n f i) : rk u n (nat f) i ≤ 1000000000000 := by
  have hi := h.le
  have := sumTo_le (φ := fun j => sumTo (goes u n (sB (nat f) j)) (nat f j)) (B := 100000000000) i (fun j hj => by
    obtain ⟨g0, g1, _⟩ := h j hj
    exact sum_small h10 (RowTo.set j (h.less (by omega))).1 (Nat.le_of_lt (nat_lt g0 g1)))
  unfold rk
  omega
end Go.Proofs.YtklfnghgpmjnmaaDoor
