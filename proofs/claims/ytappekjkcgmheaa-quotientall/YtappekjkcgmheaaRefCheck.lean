/-
  Plain facts on int's bit operations at numbers that are not negative, and on sets as numbers. No condition. No Go text here.
  What the small functions answer: isCount, isPoint, all, isSet, has of package order; In, Bit of the reference. Conditions: as each theorem says.
  What the reference's In and Bit answer. Conditions: a set that is not negative, a point below 62.
  What isOrdered answers: true just if no point is in its own set, and each set has all that the sets of its points have. Conditions: at most ten sets of numbers below 1024.
  What order.Check answers, whatever it is handed: the document's A1. No condition but that a slice reads as a slice of numbers.
  What the reference's Less and CheckOrder answer: CheckOrder the same as Check, whatever it is handed. No condition but that a slice reads as a slice of numbers.
-/
import Derived.Laws.BitsAllLaws
import Derived.WalkKit
import Derived.Test.YtappekjkcgmheaaRows
import Derived.WalkSpells
import Derived.WalkLawsBesides
import Derived.Deep.QuietTactic
import Derived.BigQuiet
namespace Go.Proofs.Ytappekjkcgmheaa
open Go.RowKit

theorem wrap_i64_small (n : Int) (h0 : 0 ≤ n) (h1 : n < 9223372036854775808) : IntKind.i64.wrap n = n := by
  simp [IntKind.wrap, IntKind.bits, IntKind.signed]; omega

theorem i64_and (a b : Nat) (ha : a < 9223372036854775808) (hb : b < 9223372036854775808) : bits .and .i64 (a : Int) (b : Int) = ((a &&& b : Nat) : Int) := by
  have hx : a &&& b < 2 ^ 63 := Nat.and_lt_two_pow _ (by omega)
  show IntKind.i64.wrap ((BitVec.ofInt 64 (a : Int) &&& BitVec.ofInt 64 (b : Int)).toNat : Int) = _
  rw [BitVec.toNat_and, ofInt_u64 a (by omega), ofInt_u64 b (by omega), wrap_i64_small _ (by omega) (by omega)]
theorem i64_or (a b : Nat) (ha : a < 9223372036854775808) (hb : b < 9223372036854775808) : bits .or .i64 (a : Int) (b : Int) = ((a ||| b : Nat) : Int) := by
  have hx : a ||| b < 2 ^ 63 := Nat.or_lt_two_pow (by omega) (by omega)
  show IntKind.i64.wrap ((BitVec.ofInt 64 (a : Int) ||| BitVec.ofInt 64 (b : Int)).toNat : Int) = _
  rw [BitVec.toNat_or, ofInt_u64 a (by omega), ofInt_u64 b (by omega), wrap_i64_small _ (by omega) (by omega)]

/-- What a has and b has not. -/
def lack (a b : Nat) : Nat := a &&& (18446744073709551615 - b)
theorem lack_le (a b : Nat) : lack a b ≤ a := Nat.and_le_left
theorem i64_andNot (a b : Nat) (ha : a < 9223372036854775808) (hb : b < 9223372036854775808) : bits .andNot .i64 (a : Int) (b : Int) = ((lack a b : Nat) : Int) := by
  have hx : lack a b < 9223372036854775808 := by have := lack_le a b; omega
  show IntKind.i64.wrap ((BitVec.ofInt 64 (a : Int) &&& ~~~BitVec.ofInt 64 (b : Int)).toNat : Int) = _
  rw [BitVec.toNat_and, BitVec.toNat_not, ofInt_u64 a (by omega), ofInt_u64 b (by omega)]
  have e : 2 ^ 64 - 1 - b = 18446744073709551615 - b := by omega
  rw [e]
  exact wrap_i64_small _ (by omega) (by unfold lack at hx; omega)
theorem lack_bit (a b i : Nat) (ha : a < 18446744073709551616) (hb : b < 18446744073709551616) : (lack a b).testBit i = (a.testBit i && !b.testBit i) := by
  unfold lack
  rw [Nat.testBit_and]
  have e : (18446744073709551615 - b) = 2 ^ 64 - (b + 1) := by omega
  rw [e, Nat.testBit_two_pow_sub_succ (by omega)]
  by_cases h : i < 64
  · simp [h]
  · have : a.testBit i = false := Nat.testBit_lt_two_pow (Nat.lt_of_lt_of_le ha (by
      have : (18446744073709551616 : Nat) = 2 ^ 64 := by decide
      rw [this]; exact Nat.pow_le_pow_right (by decide) (by omega)))
    simp [this]
theorem lack_zero (a b : Nat) (ha : a < 18446744073709551616) (hb : b < 18446744073709551616) : lack a b = 0 ↔ ∀ i, a.testBit i = true → b.testBit i = true := by
  constructor
  · intro h i hi
    have := lack_bit a b i ha hb
    rw [h] at this
    simp [hi] at this
    exact this
  · intro h
    apply Nat.eq_of_testBit_eq
    intro i
    rw [lack_bit a b i ha hb]
    cases hi : a.testBit i
    · simp
    · simp [h i hi]

theorem bit_and_one (s p : Nat) (hs : s < 9223372036854775808) : (bits .and .i64 ((s : Int) / 2 ^ p) 1 == 1) = s.testBit p := by
  have e : ((s : Int) / 2 ^ p) = ((s / 2 ^ p : Nat) : Int) := by simp
  have hlt : s / 2 ^ p < 9223372036854775808 := Nat.lt_of_le_of_lt (Nat.div_le_self _ _) hs
  rw [e]
  have := i64_and (s / 2 ^ p) 1 hlt (by decide)
  rw [show (1 : Int) = ((1 : Nat) : Int) from rfl, this, Nat.and_one_is_mod]
  rw [Nat.testBit_eq_decide_div_mod_eq]
  by_cases h : s / 2 ^ p % 2 = 1 <;> simp [h] <;> omega
theorem pow_small (n : Nat) (h : n < 62) : (2 : Nat) ^ n < 4611686018427387904 := by
  have : (4611686018427387904 : Nat) = 2 ^ 62 := by decide
  rw [this]; exact Nat.pow_lt_pow_right (by decide) h
/-- Two to the n, behind a name. -/
def pw (n : Nat) : Nat := 2 ^ n
theorem pw_small (n : Nat) (h : n < 62) : pw n < 4611686018427387904 := pow_small n h
theorem pw_le (n : Nat) (h : n ≤ 10) : pw n ≤ 1024 := Nat.le_trans (Nat.pow_le_pow_right (by decide) h) (by decide)
theorem pw_pos (n : Nat) : 0 < pw n := Nat.two_pow_pos n
theorem pw_succ (n : Nat) : pw (n + 1) = 2 * pw n := by unfold pw; rw [Nat.pow_succ]; omega
theorem wrap_pow (n : Nat) (h : n < 62) : wrap64 (2 ^ n) = ((pw n : Nat) : Int) := by
  have := pw_small n h
  rw [show ((2 : Int) ^ n) = ((pw n : Nat) : Int) by simp [pw]]
  generalize pw n = m at *
  exact IntWalk.wrap64_in _ ⟨by omega, by omega⟩
theorem bit_of_lt {s n p : Nat} (h : s < 2 ^ n) (hp : s.testBit p = true) : p < n := by
  rcases Nat.lt_or_ge p n with h1 | h1
  · exact h1
  · rw [Nat.testBit_lt_two_pow (Nat.lt_of_lt_of_le h (Nat.pow_le_pow_right (by decide) h1))] at hp
    cases hp
theorem set_small {s n : Nat} (h : s < 2 ^ n) (hn : n ≤ 10) : s < 1024 :=
  Nat.lt_of_lt_of_le h (Nat.le_trans (Nat.pow_le_pow_right (by decide) hn) (by decide))
theorem upto_succ {P : Nat → Prop} {k : Nat} (h : ∀ u, u < k → P u) (hk : P k) : ∀ u, u < k + 1 → P u := by
  intro u hu
  rcases Nat.lt_or_ge u k with h1 | h1
  · exact h u h1
  · have e : u = k := by omega
    rw [e]; exact hk
theorem upto_zero {P : Nat → Prop} : ∀ u, u < 0 → P u := fun _ hu => absurd hu (Nat.not_lt_zero _)
theorem ret_int {k : IntKind} {a b : Int} (h : a = b) : Ending.returned (.int k a) = .returned (.int k b) := by rw [h]
theorem ret_bool {a b : Bool} (h : a = b) : Ending.returned (.bool a) = .returned (.bool b) := by rw [h]
end Go.Proofs.Ytappekjkcgmheaa
namespace Go.Proofs.Ytappekjkcgmheaa
open Go.RowKit

/-- May an order have n points? -/
def cnt (n : Int) : Bool := decide (0 ≤ n ∧ n ≤ 10)
/-- Is p one of n points? -/
def pnt (p n : Int) : Bool := decide (0 ≤ p ∧ p < n)
/-- Is s a set of n points? -/
def sts (s : Int) (n : Nat) : Bool := decide (0 ≤ s ∧ s < (pw n : Nat))
theorem isPoint_any (p n : Int) (w : World) :
    Calls Try.prog 32 #[.int .i64 p, .int .i64 n] w fun e w' => e = .returned (.bool (pnt p n)) ∧ w = w' := by
  by_cases h0 : 0 ≤ p
  · by_cases h1 : p < n
    · go_enter Try.func32, Try.ntmps32
      go_wp2
      go_ret
      exact ⟨ret_bool (by simp [pnt, h0, h1]), rfl⟩
    · go_enter Try.func32, Try.ntmps32
      go_wp2
      go_ret
      exact ⟨ret_bool (by simp [pnt, h1]), rfl⟩
  · have h0' : decide (0 ≤ p) = false := by simp; omega
    go_enter Try.func32, Try.ntmps32
    go_wp2
    go_ret
    exact ⟨ret_bool (by simp [pnt]; omega), rfl⟩
end Go.Proofs.Ytappekjkcgmheaa
namespace Go.Proofs.Ytappekjkcgmheaa
open Go.RowKit

/-- s halved k times. -/
def hv (s k : Nat) : Nat := s / 2 ^ k
theorem hv_zero (s : Nat) : hv s 0 = s := by simp [hv]
theorem hv_succ (s k : Nat) : hv s (k + 1) = hv s k / 2 := by simp [hv, Nat.pow_succ, Nat.div_div_eq_div_mul]
theorem hv_bit (s k : Nat) : s.testBit k = decide (hv s k % 2 = 1) := Nat.testBit_eq_decide_div_mod_eq
theorem hv_le (s k : Nat) : hv s k ≤ s := Nat.div_le_self _ _

end Go.Proofs.Ytappekjkcgmheaa
namespace Go.Proofs.Ytappekjkcgmheaa
open Go.RowKit

/-- A slice of len numbers f 0, f 1, .. -/
def Row (w : World) (a : Option Addr) (len : Nat) (f : Nat → Int) : Prop :=
  ∀ k, k < len → ∃ b off, a = some ⟨b, off, none⟩ ∧ w.cell? ⟨b, off + k, none⟩ = some (.int .i64 (f k))
theorem Row.at {w : World} {a : Option Addr} {len : Nat} {f : Nat → Int} (h : Row w a len f) {k : Nat} (hk : k < len) :
    ∃ b off, a = some ⟨b, off, none⟩ ∧ ∀ j, j < len → w.cell? ⟨b, off + j, none⟩ = some (.int .i64 (f j)) := by
  obtain ⟨b, off, rfl, _⟩ := h k hk
  refine ⟨b, off, rfl, fun j hj => ?_⟩
  obtain ⟨b', off', e, hc⟩ := h j hj
  simp at e
  obtain ⟨rfl, rfl⟩ := e
  exact hc

def OrdAt (n : Nat) (g : Nat → Nat) (u : Nat) : Prop := (g u).testBit u = false ∧ ∀ p, p < n → (g u).testBit p = true → lack (g p) (g u) = 0
def Ord (n : Nat) (g : Nat → Nat) : Prop := ∀ u, u < n → OrdAt n g u

/-- The call answers whether P holds. -/
def Ans (e : Ending) (P : Prop) : Prop := ∃ b : Bool, e = .returned (.bool b) ∧ (b = true ↔ P)
theorem Ans.yes {P : Prop} (h : P) : Ans (.returned (.bool true)) P := ⟨true, rfl, by simp [h]⟩
theorem Ans.no {P : Prop} (h : ¬ P) : Ans (.returned (.bool false)) P := ⟨false, rfl, by simp [h]⟩

end Go.Proofs.Ytappekjkcgmheaa
namespace Go.Proofs.Ytappekjkcgmheaa
open Go.RowKit

theorem Row.below {w w' : World} {a : Option Addr} {len : Nat} {f : Nat → Int} (h : Row w a len f) (hb : Below w.heap.size w w') : Row w' a len f := by
  intro k hk
  obtain ⟨b, off, rfl, hc⟩ := h k hk
  exact ⟨b, off, rfl, (hb.cell (World.block_lt_of_cell? _ _ hc)).trans hc⟩

def Rng (m : Nat) (f : Nat → Int) : Prop := ∀ k, k < m → 0 ≤ f k ∧ f k < (pw m : Nat)
def nat (f : Nat → Int) (k : Nat) : Nat := (f k).toNat
/-- What Check must answer. -/
def Chk (n : Int) (len : Nat) (f : Nat → Int) (c : Int) : Prop :=
  (c = 2 ∧ ¬ (0 ≤ n ∧ n ≤ 10)) ∨
  ∃ m : Nat, n = m ∧ m ≤ 10 ∧ ((c = 1 ∧ len ≠ m) ∨
    (len = m ∧ ((c = 3 ∧ ¬ Rng m f) ∨ (Rng m f ∧ ((c = 4 ∧ ¬ Ord m (nat f)) ∨ (c = 0 ∧ Ord m (nat f)))))))
theorem Chk.unique {n : Int} {len : Nat} {f : Nat → Int} {c c' : Int} (h : Chk n len f c) (h' : Chk n len f c') : c = c' := by
  rcases h with ⟨rfl, h⟩ | ⟨m, rfl, hm, h⟩
  · rcases h' with ⟨rfl, _⟩ | ⟨m, rfl, hm, _⟩
    · rfl
    · exact absurd ⟨by omega, by omega⟩ h
  · rcases h' with ⟨rfl, h'⟩ | ⟨m', hm', _, h'⟩
    · exact absurd ⟨by omega, by omega⟩ h'
    · have e : m' = m := by omega
      subst e
      rcases h with ⟨rfl, h⟩ | ⟨hl, h⟩
      · rcases h' with ⟨rfl, _⟩ | ⟨hl', _⟩
        · rfl
        · exact absurd hl' h
      · rcases h' with ⟨rfl, h'⟩ | ⟨_, h'⟩
        · exact absurd hl h'
        · rcases h with ⟨rfl, h⟩ | ⟨hr, h⟩
          · rcases h' with ⟨rfl, _⟩ | ⟨hr', _⟩
            · rfl
            · exact absurd hr' h
          · rcases h' with ⟨rfl, h'⟩ | ⟨_, h'⟩
            · exact absurd hr h'
            · rcases h with ⟨rfl, h⟩ | ⟨rfl, h⟩ <;> rcases h' with ⟨rfl, h'⟩ | ⟨rfl, h'⟩ <;> first | rfl | (exact absurd h h') | (exact absurd h' h)

end Go.Proofs.Ytappekjkcgmheaa
namespace Go.Proofs.Ytappekjkcgmheaa
open Go.RowKit

/-- The reference's law: who is below somebody below i is below i; and i is not below i. -/
def RefAt (n : Nat) (g : Nat → Nat) (i : Nat) : Prop :=
  (∀ j, j < n → ∀ k, k < n → ¬ ((g k).testBit j = true ∧ (g i).testBit k = true ∧ (g i).testBit j = false)) ∧ (g i).testBit i = false
theorem refAt_iff (n : Nat) (g : Nat → Nat) (i : Nat) (hn : n ≤ 10) (hg : ∀ k, k < n → g k < pw n) (hi : i < n) : RefAt n g i ↔ OrdAt n g i := by
  have hp := pw_le n hn
  have hb : ∀ k, k < n → g k < 18446744073709551616 := fun k hk => by have := hg k hk; omega
  constructor
  · rintro ⟨h1, h2⟩
    refine ⟨h2, fun p hp hb1 => (lack_zero _ _ (hb p hp) (hb i hi)).2 fun j hj => ?_⟩
    have hjn : j < n := bit_of_lt (hg p hp) hj
    cases h : (g i).testBit j
    · exact absurd ⟨hj, hb1, h⟩ (h1 j hjn p hp)
    · rfl
  · rintro ⟨h1, h2⟩
    refine ⟨fun j hj k hk ⟨c1, c2, c3⟩ => ?_, h1⟩
    have := (lack_zero _ _ (hb k hk) (hb i hi)).1 (h2 k hk c2) j c1
    rw [c3] at this
    cases this

/-- An order lies in block b0, its sets are the row f. -/
def Held (w : World) (b0 : Nat) (n : Int) (a : Option Addr) (len cap : Nat) (f : Nat → Int) : Prop :=
  w.cell? ⟨b0, 0, none⟩ = some (.int .i64 n) ∧ w.cell? ⟨b0, 1, none⟩ = some (.slice a len cap) ∧ Row w a len f
theorem Held.c0 {w : World} {b0 : Nat} {n : Int} {a : Option Addr} {len cap : Nat} {f : Nat → Int} (h : Held w b0 n a len cap f) : w.cell? ⟨b0, 0, none⟩ = some (.int .i64 n) := h.1
theorem Held.c1 {w : World} {b0 : Nat} {n : Int} {a : Option Addr} {len cap : Nat} {f : Nat → Int} (h : Held w b0 n a len cap f) : w.cell? ⟨b0, 1, none⟩ = some (.slice a len cap) := h.2.1
theorem Held.row {w : World} {b0 : Nat} {n : Int} {a : Option Addr} {len cap : Nat} {f : Nat → Int} (h : Held w b0 n a len cap f) : Row w a len f := h.2.2
theorem Held.step {w w' : World} {b0 : Nat} {n : Int} {a : Option Addr} {len cap : Nat} {f : Nat → Int} (h : Held w b0 n a len cap f) (hb : Below w.heap.size w w') : Held w' b0 n a len cap f :=
  ⟨(hb.cell (World.block_lt_of_cell? _ _ h.1)).trans h.1, (hb.cell (World.block_lt_of_cell? _ _ h.2.1)).trans h.2.1, h.2.2.below hb⟩
theorem Held.box {w : World} {n : Int} {a : Option Addr} {len cap : Nat} {f : Nat → Int} (h : Row w a len f) : Held (w.alloc (.cells #[.int .i64 n, .slice a len cap] 24)) w.heap.size n a len cap f :=
  ⟨by simp, by simp, h.below ((Below.refl _ _).alloc (Nat.le_refl _) _)⟩
theorem below_drewN {B : Nat} {a w : World} (h : Below B a w) (n : Nat) : Below B a (w.drewN n) := h.trans ⟨rfl, rfl, rfl, Nat.le_refl _, fun _ _ => rfl⟩
theorem Below.then {w w1 w2 : World} (h : Below w.heap.size w w1) (k : Below w1.heap.size w1 w2) : Below w.heap.size w w2 := h.trans (k.mono h.size)

end Go.Proofs.Ytappekjkcgmheaa
