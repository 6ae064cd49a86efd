/-
  What the reference's Matchings answers. Conditions: a graph of at most ten points on either side that lies in a slice of numbers.
-/
import Derived.Test.YtahnkmdhhdgfhabMCount
namespace Go.Proofs.Ytahnkmdhhdgfhab
open Go.RowKit

theorem in_as2 (s p : Nat) (w : World) (b : Bool) (h : s.testBit p = b) (hs : s < 9223372036854775808) (hp : p < 63) :
    Calls Try.prog 17 #[.int .i64 s, .int .i64 p] w fun e w' => e = .returned (.bool b) ∧ w = w' :=
  (in_as s p w b h hs hp).mono fun _ _ ⟨h1, h2⟩ => ⟨h1, h2.symm⟩
/-- What one on the right brings. -/
def mone (t : Nat → Nat) (r d left taken k : Nat) : Nat := if fre t left taken k = true then mat t r d (left + 1) (taken + pw k) else 0
theorem mat_succ (t : Nat → Nat) (r d left taken : Nat) : mat t r (d + 1) left taken = sumTo (mone t r d left taken) r := rfl
theorem mone_yes {t : Nat → Nat} {r d left taken k : Nat} (h : fre t left taken k = true) : mone t r d left taken k = mat t r d (left + 1) (taken + pw k) := by simp [mone, h]
theorem mone_no {t : Nat → Nat} {r d left taken k : Nat} (h : fre t left taken k = false) : mone t r d left taken k = 0 := by simp [mone, h]
theorem add_lt {taken k r : Nat} (h : taken.testBit k = false) (ht : taken < pw r) (hk : k < r) : taken + pw k < pw r := by rw [← or_free h]; exact or_lt ht hk
theorem mone_sum_le (t : Nat → Nat) {r d left taken k : Nat} (hr : r ≤ 10) (hd : d ≤ 9) (hk : k ≤ r) : sumTo (mone t r d left taken) k ≤ 10000000000 := by
  have h := sumTo_le (φ := mone t r d left taken) (B := 1000000000) k (fun j _ => by
    have := mat_le t hr d (left + 1) (taken + pw j)
    have h2 : 10 ^ d ≤ 10 ^ 9 := Nat.pow_le_pow_right (by decide) hd
    unfold mone
    split
    · omega
    · exact Nat.zero_le _)
  have : k * 1000000000 ≤ 10 * 1000000000 := Nat.mul_le_mul (by omega) (Nat.le_refl _)
  omega

end Go.Proofs.Ytahnkmdhhdgfhab
