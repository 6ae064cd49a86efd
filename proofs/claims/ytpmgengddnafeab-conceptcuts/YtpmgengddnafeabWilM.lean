/-
  Marks of things and things with marks go back and forth: plain facts. Conditions: as each theorem says.
-/
import Derived.Test.YtpmgengddnafeabConM
namespace Go.Proofs.Ytpmgengddnafeab

theorem add_or_and : ∀ (k a b : Nat), a < 2 ^ k → b < 2 ^ k → a + b = (a ||| b) + (a &&& b)
  | 0, a, b, ha, hb => by
    obtain rfl : a = 0 := by omega
    obtain rfl : b = 0 := by omega
    rfl
  | k + 1, a, b, ha, hb => by
    have ih := add_or_and k (a / 2) (b / 2) (by rw [Nat.pow_succ] at ha; omega) (by rw [Nat.pow_succ] at hb; omega)
    have e1 : (a ||| b) / 2 = a / 2 ||| b / 2 := Nat.or_div_two
    have e2 : (a &&& b) / 2 = a / 2 &&& b / 2 := Nat.and_div_two
    have m1 : (a ||| b) % 2 = 1 ↔ a % 2 = 1 ∨ b % 2 = 1 := Nat.or_mod_two_eq_one
    have m2 : (a &&& b) % 2 = 1 ↔ a % 2 = 1 ∧ b % 2 = 1 := Nat.and_mod_two_eq_one
    omega
/-- All of a is in b. -/
theorem lack_iff {a b : Nat} (ha : a < 1024) (hb : b < 1024) : lack a b = 0 ↔ ∀ i, a.testBit i = true → b.testBit i = true := lack_zero a b (by omega) (by omega)

variable {h : Nat → Nat} {n m : Nat}
theorem mks_1024 (h : Nat → Nat) (n : Nat) {m : Nat} (m10 : m ≤ 10) (s : Nat) : mks h n m s < 1024 := Nat.lt_of_lt_of_le (mks_lt _ _ _ _) (pw_le m m10)
theorem ths_1024 (h : Nat → Nat) {n : Nat} (h10 : n ≤ 10) (M : Nat) : ths h n M < 1024 := Nat.lt_of_lt_of_le (ths_lt _ _ _) (pw_le n h10)
theorem set_1024 {n s : Nat} (h10 : n ≤ 10) (hs : s < pw n) : s < 1024 := Nat.lt_of_lt_of_le hs (pw_le n h10)
/-- What a set of things has is had by all of what it closes to. -/
theorem wil_in (h10 : n ≤ 10) (m10 : m ≤ 10) (hh : ∀ k, k < n → h k < 1024) {a : Nat} (ha : a < pw n) : lack a (ths h n (mks h n m a)) = 0 := by
  refine (lack_iff (set_1024 h10 ha) (ths_1024 h h10 _)).2 fun j hj => ?_
  have hjn : j < n := bit_of_lt ha hj
  exact (ths_iff (mks_1024 h n m10 a) hh).2 ⟨hjn, fun i hi => (mks_iff.1 hi).2 j hjn hj⟩
theorem wil_anti (m10 : m ≤ 10) {a b : Nat} (ha : a < 1024) (hb : b < 1024) (hab : lack a b = 0) : lack (mks h n m b) (mks h n m a) = 0 := by
  refine (lack_iff (mks_1024 h n m10 b) (mks_1024 h n m10 a)).2 fun i hi => ?_
  obtain ⟨h1, h2⟩ := mks_iff.1 hi
  exact mks_iff.2 ⟨h1, fun j hj hs => h2 j hj ((lack_iff ha hb).1 hab j hs)⟩
/-- Marks of what things close to are their marks. -/
theorem wil_same (h10 : n ≤ 10) (m10 : m ≤ 10) (hh : ∀ k, k < n → h k < 1024) {a : Nat} (ha : a < pw n) : mks h n m (ths h n (mks h n m a)) = mks h n m a := by
  apply Nat.eq_of_testBit_eq
  intro i
  rw [Bool.eq_iff_iff]
  constructor
  · intro hi
    exact (lack_iff (mks_1024 h n m10 _) (mks_1024 h n m10 a)).1 (wil_anti m10 (set_1024 h10 ha) (ths_1024 h h10 _) (wil_in h10 m10 hh ha)) i hi
  · intro hi
    exact mks_iff.2 ⟨(mks_iff.1 hi).1, fun j hj hs => ((ths_iff (mks_1024 h n m10 a) hh).1 hs).2 i hi⟩
theorem wil_or (a b : Nat) : mks h n m (a ||| b) = mks h n m a &&& mks h n m b := by
  apply Nat.eq_of_testBit_eq
  intro i
  rw [Nat.testBit_and, Bool.eq_iff_iff, Bool.and_eq_true, mks_iff, mks_iff, mks_iff]
  constructor
  · rintro ⟨h1, h2⟩
    exact ⟨⟨h1, fun j hj hs => h2 j hj (by rw [Nat.testBit_or, hs]; rfl)⟩, h1, fun j hj hs => h2 j hj (by rw [Nat.testBit_or, hs, Bool.or_true])⟩
  · rintro ⟨⟨h1, h2⟩, _, h3⟩
    refine ⟨h1, fun j hj hs => ?_⟩
    rw [Nat.testBit_or, Bool.or_eq_true] at hs
    rcases hs with hs | hs
    · exact h2 j hj hs
    · exact h3 j hj hs
end Go.Proofs.Ytpmgengddnafeab
