/-
  Plain facts on sums that wrap, and on numbers that are undone from their sums. No condition. No Go text here.
-/
import Derived.Test.YtncjlfhgenmheaaDoorBits
namespace Go.Proofs.YtncjlfhgenmheaaDoor
open Go.RowKit

/-- A number as int keeps it. -/
def wz (x : Int) : Int := (x + 9223372036854775808) % 18446744073709551616 - 9223372036854775808
theorem wz_is (x : Int) : wz x = wrap64 x := by unfold wz wrap64; rfl
theorem wz_k (x : Int) : ∃ k : Int, wz x = x + 18446744073709551616 * k := ⟨-((x + 9223372036854775808) / 18446744073709551616), by unfold wz; omega⟩
theorem wz_eq {x y k : Int} (h : x = y + 18446744073709551616 * k) : wz x = wz y := by unfold wz; omega
theorem wz_small {x : Int} (h1 : -9223372036854775808 ≤ x) (h2 : x < 9223372036854775808) : wz x = x := by unfold wz; omega
theorem wz_range (x : Int) : -9223372036854775808 ≤ wz x ∧ wz x < 9223372036854775808 := by unfold wz; omega
theorem wz_wz (x : Int) : wz (wz x) = wz x := by unfold wz; omega
theorem wz_sub (a b : Int) : wrap64 (wz a - wz b) = wz (a - b) := by
  rw [← wz_is]
  obtain ⟨k, hk⟩ := wz_k a
  obtain ⟨j, hj⟩ := wz_k b
  exact wz_eq (k := k - j) (by rw [hk, hj]; omega)
theorem wz_add (a b : Int) : wrap64 (wz a + wz b) = wz (a + b) := by
  rw [← wz_is]
  obtain ⟨k, hk⟩ := wz_k a
  obtain ⟨j, hj⟩ := wz_k b
  exact wz_eq (k := k + j) (by rw [hk, hj]; omega)
theorem wz_mul (a b : Int) : wrap64 (wz a * wz b) = wz (a * b) := by
  rw [← wz_is]
  obtain ⟨k, hk⟩ := wz_k a
  obtain ⟨j, hj⟩ := wz_k b
  refine wz_eq (k := k * b + a * j + 18446744073709551616 * (k * j)) ?_
  rw [hk, hj, Int.add_mul, Int.mul_add, Int.mul_add]
  have e1 : 18446744073709551616 * k * b = 18446744073709551616 * (k * b) := Int.mul_assoc _ _ _
  have e2 : a * (18446744073709551616 * j) = 18446744073709551616 * (a * j) := by rw [← Int.mul_assoc, Int.mul_comm a, Int.mul_assoc]
  have e3 : 18446744073709551616 * k * (18446744073709551616 * j) = 18446744073709551616 * (18446744073709551616 * (k * j)) := by
    rw [Int.mul_assoc, ← Int.mul_assoc k, Int.mul_comm k, Int.mul_assoc]
  rw [e1, e2, e3]
  omega
theorem wz_wf (x : Int) : (Lit.int .i64 (wz x)).wf = true := by rw [wz_is]; exact wrap64_wf x
theorem wzi (x : Int) : IntKind.i64.wrap x = wz x := by rw [wz_is]; exact IntWalk.i64_left x

/-- Sums of numbers. -/
def sumI (F : Nat → Int) : Nat → Int
  | 0 => 0
  | k + 1 => sumI F k + F k
theorem sumI_congr {F G : Nat → Int} : ∀ n, (∀ k, k < n → F k = G k) → sumI F n = sumI G n
  | 0, _ => rfl
  | n + 1, h => by rw [sumI, sumI, sumI_congr n fun k hk => h k (by omega), h n (by omega)]
theorem sumI_zero : ∀ n, sumI (fun _ => 0) n = 0
  | 0 => rfl
  | n + 1 => by rw [sumI, sumI_zero n]; rfl
theorem sumI_add (F G : Nat → Int) : ∀ n, sumI (fun k => F k + G k) n = sumI F n + sumI G n
  | 0 => rfl
  | n + 1 => by rw [sumI, sumI, sumI, sumI_add F G n]; omega
theorem sumI_mul (c : Int) (F : Nat → Int) : ∀ n, sumI (fun k => c * F k) n = c * sumI F n
  | 0 => by simp [sumI]
  | n + 1 => by rw [sumI, sumI, sumI_mul c F n, Int.mul_add]
theorem sumI_swap (F : Nat → Nat → Int) (m : Nat) : ∀ n, sumI (fun k => sumI (fun j => F k j) m) n = sumI (fun j => sumI (fun k => F k j) n) m
  | 0 => (sumI_zero m).symm
  | n + 1 => by
    rw [sumI, sumI_swap F m n, ← sumI_add]
    rfl

/-- What is undone: each is its sum, less those of all that is below (fuel ahead). -/
def und (B : Nat → Nat → Bool) (s : Nat → Int) (n : Nat) : Nat → Nat → Int
  | 0, _ => 0
  | d + 1, x => s x - sumI (fun l => if B l x = true then und B s n d l else 0) n
/-- A rank that what is below has less of. -/
def Rk (B : Nat → Nat → Bool) (n : Nat) (r : Nat → Nat) : Prop := ∀ l x, l < n → x < n → B l x = true → r l < r x
def Uo (B : Nat → Nat → Bool) (s : Nat → Int) (n : Nat) (r : Nat → Nat) (x : Nat) : Int := und B s n (r x + 1) x
theorem und_eq {B : Nat → Nat → Bool} {s : Nat → Int} {n : Nat} {r : Nat → Nat} (hr : Rk B n r) : ∀ d x, x < n → r x < d → und B s n d x = Uo B s n r x
  | 0, x, _, h => absurd h (Nat.not_lt_zero _)
  | d + 1, x, hx, h => by
    unfold Uo
    rw [und, und]
    congr 1
    refine sumI_congr n fun l hl => ?_
    cases hb : B l x
    · simp
    · simp only [if_true]
      have h1 := hr l x hl hx hb
      rw [und_eq hr d l hl (by omega), und_eq hr (r x) l hl h1]
theorem Uo_eq {B : Nat → Nat → Bool} {s : Nat → Int} {n : Nat} {r : Nat → Nat} (hr : Rk B n r) {x : Nat} (hx : x < n) : Uo B s n r x = s x - sumI (fun l => if B l x = true then Uo B s n r l else 0) n := by
  conv => lhs; unfold Uo; rw [und]
  congr 1
  refine sumI_congr n fun l hl => ?_
  cases hb : B l x
  · simp
  · simp only [if_true]
    exact und_eq hr (r x) l hl (hr l x hl hx hb)
theorem Uo_one {B : Nat → Nat → Bool} {s : Nat → Int} {n : Nat} {r : Nat → Nat} (hr : Rk B n r) {V : Nat → Int} (hV : ∀ x, x < n → V x = s x - sumI (fun l => if B l x = true then V l else 0) n) :
    ∀ d x, x < n → r x < d → V x = Uo B s n r x
  | 0, x, _, h => absurd h (Nat.not_lt_zero _)
  | d + 1, x, hx, h => by
    rw [hV x hx, Uo_eq hr hx]
    congr 1
    refine sumI_congr n fun l hl => ?_
    cases hb : B l x
    · simp
    · simp only [if_true]
      exact Uo_one hr hV d l hl (by have := hr l x hl hx hb; omega)
end Go.Proofs.YtncjlfhgenmheaaDoor
