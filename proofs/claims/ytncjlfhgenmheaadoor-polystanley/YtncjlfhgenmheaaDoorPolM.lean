/-
  Lists that go up by a relation, counted step by step, and sums of them with binomials. Plain facts: no Go text here. Conditions: a rank that goes up; at most ten steps.
-/
import Derived.Test.YtncjlfhgenmheaaDoorMoeM
namespace Go.Proofs.YtncjlfhgenmheaaDoor
open Go.RowKit

/-- A binomial, as it is reckoned. -/
def bn (n : Int) : Nat → Int
  | 0 => 1
  | k + 1 => Int.tdiv (bn n k * (n - (k : Int))) ((k : Int) + 1)
theorem bn_succ (n : Int) (k : Nat) : bn n (k + 1) = Int.tdiv (bn n k * (n - (k : Int))) ((k : Int) + 1) := rfl
def bnOk (n : Int) (k : Nat) : Bool := decide (bn (n + 1) (k + 1) = bn n (k + 1) + bn n k) && decide (-1000000000000000 < bn n k ∧ bn n k < 1000000000000000) && decide (-1000000000000000 < bn n k * (n - (k : Int)) ∧ bn n k * (n - (k : Int)) < 1000000000000000)
theorem bn_table : ∀ i : Nat, i < 50 → ∀ k : Nat, k < 12 → bnOk ((i : Int) - 25) k = true := by decide +kernel
theorem bn_all {n : Int} (h1 : -25 ≤ n) (h2 : n < 25) {k : Nat} (hk : k < 12) : bnOk n k = true := by
  have h := bn_table (n + 25).toNat (by omega) k hk
  rw [show (((n + 25).toNat : Nat) : Int) - 25 = n by omega] at h
  exact h
theorem bn_pascal {n : Int} (h1 : -25 ≤ n) (h2 : n < 25) {k : Nat} (hk : k < 12) : bn (n + 1) (k + 1) = bn n (k + 1) + bn n k := by
  have h := bn_all h1 h2 hk
  unfold bnOk at h
  simp only [Bool.and_eq_true, decide_eq_true_eq] at h
  exact h.1.1
theorem bn_small {n : Int} (h1 : -25 ≤ n) (h2 : n < 25) {k : Nat} (hk : k < 12) : -1000000000000000 < bn n k ∧ bn n k < 1000000000000000 := by
  have h := bn_all h1 h2 hk
  unfold bnOk at h
  simp only [Bool.and_eq_true, decide_eq_true_eq] at h
  exact h.1.2
theorem bn_mul {n : Int} (h1 : -25 ≤ n) (h2 : n < 25) {k : Nat} (hk : k < 12) : -1000000000000000 < bn n k * (n - (k : Int)) ∧ bn n k * (n - (k : Int)) < 1000000000000000 := by
  have h := bn_all h1 h2 hk
  unfold bnOk at h
  simp only [Bool.and_eq_true, decide_eq_true_eq] at h
  exact h.2
theorem bn_none : ∀ k, bn 0 (k + 1) = 0
  | 0 => by decide
  | k + 1 => by rw [bn_succ, bn_none k]; simp

section
variable (Q : Nat → Nat → Bool) (v : Nat → Int) (m : Nat)
/-- What goes up by one step. -/
def up1 (f : Nat → Int) (i : Nat) : Int := sumI (fun j => if Q j i = true then f j else 0) m
/-- How much ends at each after k steps. -/
def stV : Nat → Nat → Int
  | 0, i => v i
  | k + 1, i => up1 Q m (stV k) i
/-- .. after k steps each of which may stay. -/
def mmV : Nat → Nat → Int
  | 0, i => v i
  | k + 1, i => mmV k i + up1 Q m (mmV k) i
end
section
variable {Q : Nat → Nat → Bool} {v : Nat → Int} {m : Nat}
theorem up1_congr {f g : Nat → Int} {i : Nat} (h : ∀ j, j < m → Q j i = true → f j = g j) : up1 Q m f i = up1 Q m g i :=
  sumI_congr m fun j hj => by
    cases hq : Q j i
    · simp
    · simp [h j hj hq]
theorem up1_add (f g : Nat → Int) (i : Nat) : up1 Q m (fun j => f j + g j) i = up1 Q m f i + up1 Q m g i := by
  unfold up1
  rw [← sumI_add]
  exact sumI_congr m fun j _ => by cases Q j i <;> simp
theorem up1_sum (F : Nat → Nat → Int) (i : Nat) : ∀ K, up1 Q m (fun j => sumI (fun k => F k j) K) i = sumI (fun k => up1 Q m (F k) i) K
  | 0 => (sumI_congr m fun j _ => by simp [sumI]).trans (sumI_zero m)
  | K + 1 => by
    rw [sumI, ← up1_sum F i K, ← up1_add]
    rfl
theorem up1_mul (c : Int) (f : Nat → Int) (i : Nat) : up1 Q m (fun j => c * f j) i = c * up1 Q m f i := by
  unfold up1
  rw [← sumI_mul]
  exact sumI_congr m fun j _ => by cases Q j i <;> simp
theorem up1_none {f : Nat → Int} {i : Nat} (h : ∀ j, j < m → Q j i = true → f j = 0) : up1 Q m f i = 0 :=
  (sumI_congr m fun j hj => by
    cases hq : Q j i
    · simp
    · simp [h j hj hq]).trans (sumI_zero m)
theorem stV_end {r : Nat → Nat} (hr : Rk Q m r) : ∀ k i, i < m → r i < k → stV Q v m k i = 0
  | 0, _, _, h => absurd h (Nat.not_lt_zero _)
  | k + 1, i, hi, h => up1_none fun j hj hq => stV_end hr k j hj (by have := hr j i hj hi hq; omega)
theorem sumI_shift (F : Nat → Int) : ∀ K, sumI (fun k => F (k + 1)) K + F 0 = sumI F (K + 1)
  | 0 => by simp [sumI]
  | K + 1 => by
    have := sumI_shift F K
    rw [sumI, sumI, ← this]
    omega
/-- A sum with binomials, of numbers of steps. -/
def byB (n : Int) (f : Nat → Nat → Int) (K i : Nat) : Int := sumI (fun k => bn n k * f k i) (K + 1)
theorem byB_next {r : Nat → Nat} (hr : Rk Q m r) {K : Nat} (hK : K ≤ 10) (hrK : ∀ i, i < m → r i ≤ K) {n : Int} (h1 : -25 ≤ n) (h2 : n < 25) {i : Nat} (hi : i < m) :
    byB (n + 1) (stV Q v m) K i = byB n (stV Q v m) K i + up1 Q m (fun j => byB n (stV Q v m) K j) i := by
  have e1 : up1 Q m (fun j => byB n (stV Q v m) K j) i = sumI (fun k => bn n k * stV Q v m (k + 1) i) (K + 1) := by
    unfold byB
    rw [up1_sum (fun k j => bn n k * stV Q v m k j)]
    exact sumI_congr _ fun k _ => up1_mul _ _ _
  have e2 : sumI (fun k => bn n k * stV Q v m (k + 1) i) (K + 1) = sumI (fun k => bn n k * stV Q v m (k + 1) i) K := by
    rw [sumI, stV_end hr (K + 1) i hi (by have := hrK i hi; omega)]; omega
  have e3 : ∀ n', byB n' (stV Q v m) K i = sumI (fun k => bn n' (k + 1) * stV Q v m (k + 1) i) K + v i := fun n' => by
    unfold byB
    rw [← sumI_shift]
    have : bn n' 0 * stV Q v m 0 i = v i := by simp [bn, stV]
    rw [this]
  rw [e1, e2, e3, e3]
  have e4 : sumI (fun k => bn (n + 1) (k + 1) * stV Q v m (k + 1) i) K = sumI (fun k => bn n (k + 1) * stV Q v m (k + 1) i) K + sumI (fun k => bn n k * stV Q v m (k + 1) i) K := by
    rw [← sumI_add]
    refine sumI_congr K fun k hk => ?_
    rw [bn_pascal h1 h2 (by omega), Int.add_mul]
  rw [e4]; omega
theorem byB_zero (K i : Nat) : byB 0 (stV Q v m) K i = v i := by
  unfold byB
  rw [← sumI_shift]
  have e : sumI (fun k => bn 0 (k + 1) * stV Q v m (k + 1) i) K = 0 := (sumI_congr K fun k _ => by rw [bn_none]; simp).trans (sumI_zero K)
  rw [e]; simp [bn, stV]
/-- Steps that may stay, by binomials. -/
theorem mmV_byB {r : Nat → Nat} (hr : Rk Q m r) {K : Nat} (hK : K ≤ 10) (hrK : ∀ i, i < m → r i ≤ K) : ∀ n : Nat, n ≤ 25 → ∀ i, i < m → mmV Q v m n i = byB (n : Int) (stV Q v m) K i
  | 0, _, i, _ => (byB_zero K i).symm
  | n + 1, hn, i, hi => by
    have ih := mmV_byB hr hK hrK n (by omega)
    rw [mmV, ih i hi, up1_congr (g := fun j => byB (n : Int) (stV Q v m) K j) fun j hj _ => ih j hj]
    have := byB_next (v := v) hr hK hrK (n := (n : Int)) (by omega) (by omega) hi
    rw [← this]; rfl
/-- What is undone step by step, by binomials of numbers below 0. -/
theorem back_byB {r : Nat → Nat} (hr : Rk Q m r) {K : Nat} (hK : K ≤ 10) (hrK : ∀ i, i < m → r i ≤ K) {x : Nat → Nat → Int} (h0 : ∀ i, i < m → x 0 i = v i)
    (hs : ∀ n i, n < 25 → i < m → x n i = x (n + 1) i + up1 Q m (x (n + 1)) i) : ∀ n : Nat, n ≤ 25 → ∀ d i, i < m → r i < d → x n i = byB (-(n : Int)) (stV Q v m) K i
  | 0, _, _, i, hi, _ => by rw [h0 i hi]; exact (byB_zero K i).symm
  | _ + 1, _, 0, _, _, h => absurd h (Nat.not_lt_zero _)
  | n + 1, hn, d + 1, i, hi, hd => by
    have ih := back_byB hr hK hrK h0 hs n (by omega) (r i + 1) i hi (by omega)
    have e1 := hs n i (by omega) hi
    have e2 : up1 Q m (x (n + 1)) i = up1 Q m (fun j => byB (-((n + 1 : Nat) : Int)) (stV Q v m) K j) i := up1_congr fun j hj hq => back_byB hr hK hrK h0 hs (n + 1) hn d j hj (by have := hr j i hj hi hq; omega)
    have e3 := byB_next (v := v) hr hK hrK (n := -((n + 1 : Nat) : Int)) (by omega) (by omega) hi
    rw [show -((n + 1 : Nat) : Int) + 1 = -(n : Int) by omega] at e3
    rw [ih, e3, e2] at e1
    omega
end
end Go.Proofs.YtncjlfhgenmheaaDoor
