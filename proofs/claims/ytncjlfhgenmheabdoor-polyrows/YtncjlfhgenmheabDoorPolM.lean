/-
  Plain facts on sums that wrap, and on numbers that are undone from their sums. No condition. No Go text here.
  Lists that go up by a relation, counted step by step, and sums of them with binomials. Plain facts: no Go text here. Conditions: a rank that goes up; at most ten steps.
-/
import Derived.Test.YtncjlfhgenmheabDoorBits
namespace Go.Proofs.YtncjlfhgenmheabDoor
open Go.RowKit

/-- A number as int keeps it. -/
def wz (x : Int) : Int := (x + 9223372036854775808) % 18446744073709551616 - 9223372036854775808
theorem wz_is (x : Int) : wz x = wrap64 x := by unfold wz wrap64; rfl
theorem wz_k (x : Int) : ∃ k : Int, wz x = x + 18446744073709551616 * k := ⟨-((x + 9223372036854775808) / 18446744073709551616), by unfold wz; omega⟩
theorem wz_eq {x y k : Int} (h : x = y + 18446744073709551616 * k) : wz x = wz y := by unfold wz; omega
theorem wz_small {x : Int} (h1 : -9223372036854775808 ≤ x) (h2 : x < 9223372036854775808) : wz x = x := by unfold wz; omega
theorem wz_range (x : Int) : -9223372036854775808 ≤ wz x ∧ wz x < 9223372036854775808 := by unfold wz; omega
theorem wz_wz (x : Int) : wz (wz x) = wz x := by unfold wz; omega
theorem wz_sub (a b : Int) : wrap64 (wz a - wz b) = wz (a - b) := by
  rw [← wz_is]
  obtain ⟨k, hk⟩ := wz_k a
  obtain ⟨j, hj⟩ := wz_k b
  exact wz_eq (k := k - j) (by rw [hk, hj]; omega)
theorem wz_add (a b : Int) : wrap64 (wz a + wz b) = wz (a + b) := by
  rw [← wz_is]
  obtain ⟨k, hk⟩ := wz_k a
  obtain ⟨j, hj⟩ := wz_k b
  exact wz_eq (k := k + j) (by rw [hk, hj]; omega)
theorem wz_mul (a b : Int) : wrap64 (wz a * wz b) = wz (a * b) := by
  rw [← wz_is]
  obtain ⟨k, hk⟩ := wz_k a
  obtain ⟨j, hj⟩ := wz_k b
  refine wz_eq (k := k * b + a * j + 18446744073709551616 * (k * j)) ?_
  rw [hk, hj, Int.add_mul, Int.mul_add, Int.mul_add]
  have e1 : 18446744073709551616 * k * b = 18446744073709551616 * (k * b) := Int.mul_assoc _ _ _
  have e2 : a * (18446744073709551616 * j) = 18446744073709551616 * (a * j) := by rw [← Int.mul_assoc, Int.mul_comm a, Int.mul_assoc]
  have e3 : 18446744073709551616 * k * (18446744073709551616 * j) = 18446744073709551616 * (18446744073709551616 * (k * j)) := by
    rw [Int.mul_assoc, ← Int.mul_assoc k, Int.mul_comm k, Int.mul_assoc]
  rw [e1, e2, e3]
  omega
theorem wz_wf (x : Int) : (Lit.int .i64 (wz x)).wf = true := by rw [wz_is]; exact wrap64_wf x
theorem wzi (x : Int) : IntKind.i64.wrap x = wz x := by rw [wz_is]; exact IntWalk.i64_left x

/-- Sums of numbers. -/
def sumI (F : Nat → Int) : Nat → Int
  | 0 => 0
  | k + 1 => sumI F k + F k
theorem sumI_congr {F G : Nat → Int} : ∀ n, (∀ k, k < n → F k = G k) → sumI F n = sumI G n
  | 0, _ => rfl
  | n + 1, h => by rw [sumI, sumI, sumI_congr n fun k hk => h k (by omega), h n (by omega)]
theorem sumI_zero : ∀ n, sumI (fun _ => 0) n = 0
  | 0 => rfl
  | n + 1 => by rw [sumI, sumI_zero n]; rfl
theorem sumI_add (F G : Nat → Int) : ∀ n, sumI (fun k => F k + G k) n = sumI F n + sumI G n
  | 0 => rfl
  | n + 1 => by rw [sumI, sumI, sumI, sumI_add F G n]; omega
theorem sumI_mul (c : Int) (F : Nat → Int) : ∀ n, sumI (fun k => c * F k) n = c * sumI F n
  | 0 => by simp [sumI]
  | n + 1 => by rw [sumI, sumI, sumI_mul c F n, Int.mul_add]
theorem sumI_swap (F : Nat → Nat → Int) (m : Nat) : ∀ n, sumI (fun k => sumI (fun j => F k j) m) n = sumI (fun j => sumI (fun k => F k j) n) m
  | 0 => (sumI_zero m).symm
  | n + 1 => by
    rw [sumI, sumI_swap F m n, ← sumI_add]
    rfl

/-- What is undone: each is its sum, less those of all that is below (fuel ahead). -/
def und (B : Nat → Nat → Bool) (s : Nat → Int) (n : Nat) : Nat → Nat → Int
  | 0, _ => 0
  | d + 1, x => s x - sumI (fun l => if B l x = true then und B s n d l else 0) n
/-- A rank that what is below has less of. -/
def Rk (B : Nat → Nat → Bool) (n : Nat) (r : Nat → Nat) : Prop := ∀ l x, l < n → x < n → B l x = true → r l < r x
def Uo (B : Nat → Nat → Bool) (s : Nat → Int) (n : Nat) (r : Nat → Nat) (x : Nat) : Int := und B s n (r x + 1) x
theorem und_eq {B : Nat → Nat → Bool} {s : Nat → Int} {n : Nat} {r : Nat → Nat} (hr : Rk B n r) : ∀ d x, x < n → r x < d → und B s n d x = Uo B s n r x
  | 0, x, _, h => absurd h (Nat.not_lt_zero _)
  | d + 1, x, hx, h => by
    unfold Uo
    rw [und, und]
    congr 1
    refine sumI_congr n fun l hl => ?_
    cases hb : B l x
    · simp
    · simp only [if_true]
      have h1 := hr l x hl hx hb
      rw [und_eq hr d l hl (by omega), und_eq hr (r x) l hl h1]
theorem Uo_eq {B : Nat → Nat → Bool} {s : Nat → Int} {n : Nat} {r : Nat → Nat} (hr : Rk B n r) {x : Nat} (hx : x < n) : Uo B s n r x = s x - sumI (fun l => if B l x = true then Uo B s n r l else 0) n := by
  conv => lhs; unfold Uo; rw [und]
  congr 1
  refine sumI_congr n fun l hl => ?_
  cases hb : B l x
  · simp
  · simp only [if_true]
    exact und_eq hr (r x) l hl (hr l x hl hx hb)
theorem Uo_one {B : Nat → Nat → Bool} {s : Nat → Int} {n : Nat} {r : Nat → Nat} (hr : Rk B n r) {V : Nat → Int} (hV : ∀ x, x < n → V x = s x - sumI (fun l => if B l x = true then V l else 0) n) :
    ∀ d x, x < n → r x < d → V x = Uo B s n r x
  | 0, x, _, h => absurd h (Nat.not_lt_zero _)
  | d + 1, x, hx, h => by
    rw [hV x hx, Uo_eq hr hx]
    congr 1
    refine sumI_congr n fun l hl => ?_
    cases hb : B l x
    · simp
    · simp only [if_true]
      exact Uo_one hr hV d l hl (by have := hr l x hl hx hb; omega)
end Go.Proofs.YtncjlfhgenmheabDoor
namespace Go.Proofs.YtncjlfhgenmheabDoor
open Go.RowKit

/-- A binomial, as it is reckoned. -/
def bn (n : Int) : Nat → Int
  | 0 => 1
  | k + 1 => Int.tdiv (bn n k * (n - (k : Int))) ((k : Int) + 1)
theorem bn_succ (n : Int) (k : Nat) : bn n (k + 1) = Int.tdiv (bn n k * (n - (k : Int))) ((k : Int) + 1) := rfl
def bnOk (n : Int) (k : Nat) : Bool := decide (bn (n + 1) (k + 1) = bn n (k + 1) + bn n k) && decide (-1000000000000000 < bn n k ∧ bn n k < 1000000000000000) && decide (-1000000000000000 < bn n k * (n - (k : Int)) ∧ bn n k * (n - (k : Int)) < 1000000000000000)
theorem bn_table : ∀ i : Nat, i < 50 → ∀ k : Nat, k < 12 → bnOk ((i : Int) - 25) k = true := by decide +kernel
theorem bn_all {n : Int} (h1 : -25 ≤ n) (h2 : n < 25) {k : Nat} (hk : k < 12) : bnOk n k = true := by
  have h := bn_table (n + 25).toNat (by omega) k hk
  rw [show (((n + 25).toNat : Nat) : Int) - 25 = n by omega] at h
  exact h
theorem bn_pascal {n : Int} (h1 : -25 ≤ n) (h2 : n < 25) {k : Nat} (hk : k < 12) : bn (n + 1) (k + 1) = bn n (k + 1) + bn n k := by
  have h := bn_all h1 h2 hk
  unfold bnOk at h
  simp only [Bool.and_eq_true, decide_eq_true_eq] at h
  exact h.1.1
theorem bn_small {n : Int} (h1 : -25 ≤ n) (h2 : n < 25) {k : Nat} (hk : k < 12) : -1000000000000000 < bn n k ∧ bn n k < 1000000000000000 := by
  have h := bn_all h1 h2 hk
  unfold bnOk at h
  simp only [Bool.and_eq_true, decide_eq_true_eq] at h
  exact h.1.2
theorem bn_mul {n : Int} (h1 : -25 ≤ n) (h2 : n < 25) {k : Nat} (hk : k < 12) : -1000000000000000 < bn n k * (n - (k : Int)) ∧ bn n k * (n - (k : Int)) < 1000000000000000 := by
  have h := bn_all h1 h2 hk
  unfold bnOk at h
  simp only [Bool.and_eq_true, decide_eq_true_eq] at h
  exact h.2
theorem bn_none : ∀ k, bn 0 (k + 1) = 0
  | 0 => by decide
  | k + 1 => by rw [bn_succ, bn_none k]; simp

section
variable (Q : Nat → Nat → Bool) (v : Nat → Int) (m : Nat)
/-- What goes up by one step. -/
def up1 (f : Nat → Int) (i : Nat) : Int := sumI (fun j => if Q j i = true then f j else 0) m
/-- How much ends at each after k steps. -/
def stV : Nat → Nat → Int
  | 0, i => v i
  | k + 1, i => up1 Q m (stV k) i
/-- .. after k steps each of which may stay. -/
def mmV : Nat → Nat → Int
  | 0, i => v i
  | k + 1, i => mmV k i + up1 Q m (mmV k) i
end
section
variable {Q : Nat → Nat → Bool} {v : Nat → Int} {m : Nat}
theorem up1_congr {f g : Nat → Int} {i : Nat} (h : ∀ j, j < m → Q j i = true → f j = g j) : up1 Q m f i = up1 Q m g i :=
  sumI_congr m fun j hj => by
    cases hq : Q j i
    · simp
    · simp [h j hj hq]
theorem up1_add (f g : Nat → Int) (i : Nat) : up1 Q m (fun j => f j + g j) i = up1 Q m f i + up1 Q m g i := by
  unfold up1
  rw [← sumI_add]
  exact sumI_congr m fun j _ => by cases Q j i <;> simp
theorem up1_sum (F : Nat → Nat → Int) (i : Nat) : ∀ K, up1 Q m (fun j => sumI (fun k => F k j) K) i = sumI (fun k => up1 Q m (F k) i) K
  | 0 => (sumI_congr m fun j _ => by simp [sumI]).trans (sumI_zero m)
  | K + 1 => by
    rw [sumI, ← up1_sum F i K, ← up1_add]
    rfl
theorem up1_mul (c : Int) (f : Nat → Int) (i : Nat) : up1 Q m (fun j => c * f j) i = c * up1 Q m f i := by
  unfold up1
  rw [← sumI_mul]
  exact sumI_congr m fun j _ => by cases Q j i <;> simp
theorem up1_none {f : Nat → Int} {i : Nat} (h : ∀ j, j < m → Q j i = true → f j = 0) : up1 Q m f i = 0 :=
  (sumI_congr m fun j hj => by
    cases hq : Q j i
    · simp
    · simp [h j hj hq]).trans (sumI_zero m)
theorem stV_end {r : Nat → Nat} (hr : Rk Q m r) : ∀ k i, i < m → r i < k → stV Q v m k i = 0
  | 0, _, _, h => absurd h (Nat.not_lt_zero _)
  | k + 1, i, hi, h => up1_none fun j hj hq => stV_end hr k j hj (by have := hr j i hj hi hq; omega)
theorem sumI_shift (F : Nat → Int) : ∀ K, sumI (fun k => F (k + 1)) K + F 0 = sumI F (K + 1)
  | 0 => by simp [sumI]
  | K + 1 => by
    have := sumI_shift F K
    rw [sumI, sumI, ← this]
    omega
/-- A sum with binomials, of numbers of steps. -/
def byB (n : Int) (f : Nat → Nat → Int) (K i : Nat) : Int := sumI (fun k => bn n k * f k i) (K + 1)
theorem byB_next {r : Nat → Nat} (hr : Rk Q m r) {K : Nat} (hK : K ≤ 10) (hrK : ∀ i, i < m → r i ≤ K) {n : Int} (h1 : -25 ≤ n) (h2 : n < 25) {i : Nat} (hi : i < m) :
    byB (n + 1) (stV Q v m) K i = byB n (stV Q v m) K i + up1 Q m (fun j => byB n (stV Q v m) K j) i := by
  have e1 : up1 Q m (fun j => byB n (stV Q v m) K j) i = sumI (fun k => bn n k * stV Q v m (k + 1) i) (K + 1) := by
    unfold byB
    rw [up1_sum (fun k j => bn n k * stV Q v m k j)]
    exact sumI_congr _ fun k _ => up1_mul _ _ _
  have e2 : sumI (fun k => bn n k * stV Q v m (k + 1) i) (K + 1) = sumI (fun k => bn n k * stV Q v m (k + 1) i) K := by
    rw [sumI, stV_end hr (K + 1) i hi (by have := hrK i hi; omega)]; omega
  have e3 : ∀ n', byB n' (stV Q v m) K i = sumI (fun k => bn n' (k + 1) * stV Q v m (k + 1) i) K + v i := fun n' => by
    unfold byB
    rw [← sumI_shift]
    have : bn n' 0 * stV Q v m 0 i = v i := by simp [bn, stV]
    rw [this]
  rw [e1, e2, e3, e3]
  have e4 : sumI (fun k => bn (n + 1) (k + 1) * stV Q v m (k + 1) i) K = sumI (fun k => bn n (k + 1) * stV Q v m (k + 1) i) K + sumI (fun k => bn n k * stV Q v m (k + 1) i) K := by
    rw [← sumI_add]
    refine sumI_congr K fun k hk => ?_
    rw [bn_pascal h1 h2 (by omega), Int.add_mul]
  rw [e4]; omega
theorem byB_zero (K i : Nat) : byB 0 (stV Q v m) K i = v i := by
  unfold byB
  rw [← sumI_shift]
  have e : sumI (fun k => bn 0 (k + 1) * stV Q v m (k + 1) i) K = 0 := (sumI_congr K fun k _ => by rw [bn_none]; simp).trans (sumI_zero K)
  rw [e]; simp [bn, stV]
/-- Steps that may stay, by binomials. -/
theorem mmV_byB {r : Nat → Nat} (hr : Rk Q m r) {K : Nat} (hK : K ≤ 10) (hrK : ∀ i, i < m → r i ≤ K) : ∀ n : Nat, n ≤ 25 → ∀ i, i < m → mmV Q v m n i = byB (n : Int) (stV Q v m) K i
  | 0, _, i, _ => (byB_zero K i).symm
  | n + 1, hn, i, hi => by
    have ih := mmV_byB hr hK hrK n (by omega)
    rw [mmV, ih i hi, up1_congr (g := fun j => byB (n : Int) (stV Q v m) K j) fun j hj _ => ih j hj]
    have := byB_next (v := v) hr hK hrK (n := (n : Int)) (by omega) (by omega) hi
    rw [← this]; rfl
/-- What is undone step by step, by binomials of numbers below 0. -/
theorem back_byB {r : Nat → Nat} (hr : Rk Q m r) {K : Nat} (hK : K ≤ 10) (hrK : ∀ i, i < m → r i ≤ K) {x : Nat → Nat → Int} (h0 : ∀ i, i < m → x 0 i = v i)
    (hs : ∀ n i, n < 25 → i < m → x n i = x (n + 1) i + up1 Q m (x (n + 1)) i) : ∀ n : Nat, n ≤ 25 → ∀ d i, i < m → r i < d → x n i = byB (-(n : Int)) (stV Q v m) K i
  | 0, _, _, i, hi, _ => by rw [h0 i hi]; exact (byB_zero K i).symm
  | _ + 1, _, 0, _, _, h => absurd h (Nat.not_lt_zero _)
  | n + 1, hn, d + 1, i, hi, hd => by
    have ih := back_byB hr hK hrK h0 hs n (by omega) (r i + 1) i hi (by omega)
    have e1 := hs n i (by omega) hi
    have e2 : up1 Q m (x (n + 1)) i = up1 Q m (fun j => byB (-((n + 1 : Nat) : Int)) (stV Q v m) K j) i := up1_congr fun j hj hq => back_byB hr hK hrK h0 hs (n + 1) hn d j hj (by have := hr j i hj hi hq; omega)
    have e3 := byB_next (v := v) hr hK hrK (n := -((n + 1 : Nat) : Int)) (by omega) (by omega) hi
    rw [show -((n + 1 : Nat) : Int) + 1 = -(n : Int) by omega] at e3
    rw [ih, e3, e2] at e1
    omega
end
end Go.Proofs.YtncjlfhgenmheabDoor
