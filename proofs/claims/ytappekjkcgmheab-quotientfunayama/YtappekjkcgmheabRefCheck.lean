/-
  What the small functions answer: isCount, isPoint, all, isSet, has of package order; In, Bit of the reference. Conditions: as each theorem says.
  What the reference's In and Bit answer. Conditions: a set that is not negative, a point below 62.
  What isOrdered answers: true just if no point is in its own set, and each set has all that the sets of its points have. Conditions: at most ten sets of numbers below 1024.
  What order.Check answers, whatever it is handed: the document's A1. No condition but that a slice reads as a slice of numbers.
  What the reference's Less and CheckOrder answer: CheckOrder the same as Check, whatever it is handed. No condition but that a slice reads as a slice of numbers.
-/
import Derived.Test.YtappekjkcgmheabRows
import Derived.Test.YtappekjkcgmheabBits
import Derived.WalkKit
import Derived.WalkSpells
import Derived.WalkLawsBesides
import Derived.Deep.QuietTactic
import Derived.BigQuiet
namespace Go.Proofs.Ytappekjkcgmheab
open Go.RowKit

/-- May an order have n points? -/
def cnt (n : Int) : Bool := decide (0 ≤ n ∧ n ≤ 10)
/-- Is p one of n points? -/
def pnt (p n : Int) : Bool := decide (0 ≤ p ∧ p < n)
/-- Is s a set of n points? -/
def sts (s : Int) (n : Nat) : Bool := decide (0 ≤ s ∧ s < (pw n : Nat))
theorem isPoint_any (p n : Int) (w : World) :
    Calls Try.prog 39 #[.int .i64 p, .int .i64 n] w fun e w' => e = .returned (.bool (pnt p n)) ∧ w = w' := by
  by_cases h0 : 0 ≤ p
  · by_cases h1 : p < n
    · go_enter Try.func39, Try.ntmps39
      go_wp2
      go_ret
      exact ⟨ret_bool (by simp [pnt, h0, h1]), rfl⟩
    · go_enter Try.func39, Try.ntmps39
      go_wp2
      go_ret
      exact ⟨ret_bool (by simp [pnt, h1]), rfl⟩
  · have h0' : decide (0 ≤ p) = false := by simp; omega
    go_enter Try.func39, Try.ntmps39
    go_wp2
    go_ret
    exact ⟨ret_bool (by simp [pnt]; omega), rfl⟩
end Go.Proofs.Ytappekjkcgmheab
namespace Go.Proofs.Ytappekjkcgmheab
open Go.RowKit

/-- s halved k times. -/
def hv (s k : Nat) : Nat := s / 2 ^ k
theorem hv_zero (s : Nat) : hv s 0 = s := by simp [hv]
theorem hv_succ (s k : Nat) : hv s (k + 1) = hv s k / 2 := by simp [hv, Nat.pow_succ, Nat.div_div_eq_div_mul]
theorem hv_bit (s k : Nat) : s.testBit k = decide (hv s k % 2 = 1) := Nat.testBit_eq_decide_div_mod_eq
theorem hv_le (s k : Nat) : hv s k ≤ s := Nat.div_le_self _ _

end Go.Proofs.Ytappekjkcgmheab
namespace Go.Proofs.Ytappekjkcgmheab
open Go.RowKit

/-- A slice of len numbers f 0, f 1, .. -/
def Row (w : World) (a : Option Addr) (len : Nat) (f : Nat → Int) : Prop :=
  ∀ k, k < len → ∃ b off, a = some ⟨b, off, none⟩ ∧ w.cell? ⟨b, off + k, none⟩ = some (.int .i64 (f k))
theorem Row.at {w : World} {a : Option Addr} {len : Nat} {f : Nat → Int} (h : Row w a len f) {k : Nat} (hk : k < len) :
    ∃ b off, a = some ⟨b, off, none⟩ ∧ ∀ j, j < len → w.cell? ⟨b, off + j, none⟩ = some (.int .i64 (f j)) := by
  obtain ⟨b, off, rfl, _⟩ := h k hk
  refine ⟨b, off, rfl, fun j hj => ?_⟩
  obtain ⟨b', off', e, hc⟩ := h j hj
  simp at e
  obtain ⟨rfl, rfl⟩ := e
  exact hc

def OrdAt (n : Nat) (g : Nat → Nat) (u : Nat) : Prop := (g u).testBit u = false ∧ ∀ p, p < n → (g u).testBit p = true → lack (g p) (g u) = 0
def Ord (n : Nat) (g : Nat → Nat) : Prop := ∀ u, u < n → OrdAt n g u

/-- The call answers whether P holds. -/
def Ans (e : Ending) (P : Prop) : Prop := ∃ b : Bool, e = .returned (.bool b) ∧ (b = true ↔ P)
theorem Ans.yes {P : Prop} (h : P) : Ans (.returned (.bool true)) P := ⟨true, rfl, by simp [h]⟩
theorem Ans.no {P : Prop} (h : ¬ P) : Ans (.returned (.bool false)) P := ⟨false, rfl, by simp [h]⟩

end Go.Proofs.Ytappekjkcgmheab
namespace Go.Proofs.Ytappekjkcgmheab
open Go.RowKit

theorem Row.below {w w' : World} {a : Option Addr} {len : Nat} {f : Nat → Int} (h : Row w a len f) (hb : Below w.heap.size w w') : Row w' a len f := by
  intro k hk
  obtain ⟨b, off, rfl, hc⟩ := h k hk
  exact ⟨b, off, rfl, (hb.cell (World.block_lt_of_cell? _ _ hc)).trans hc⟩

def Rng (m : Nat) (f : Nat → Int) : Prop := ∀ k, k < m → 0 ≤ f k ∧ f k < (pw m : Nat)
def nat (f : Nat → Int) (k : Nat) : Nat := (f k).toNat
/-- What Check must answer. -/
def Chk (n : Int) (len : Nat) (f : Nat → Int) (c : Int) : Prop :=
  (c = 2 ∧ ¬ (0 ≤ n ∧ n ≤ 10)) ∨
  ∃ m : Nat, n = m ∧ m ≤ 10 ∧ ((c = 1 ∧ len ≠ m) ∨
    (len = m ∧ ((c = 3 ∧ ¬ Rng m f) ∨ (Rng m f ∧ ((c = 4 ∧ ¬ Ord m (nat f)) ∨ (c = 0 ∧ Ord m (nat f)))))))
theorem Chk.unique {n : Int} {len : Nat} {f : Nat → Int} {c c' : Int} (h : Chk n len f c) (h' : Chk n len f c') : c = c' := by
  rcases h with ⟨rfl, h⟩ | ⟨m, rfl, hm, h⟩
  · rcases h' with ⟨rfl, _⟩ | ⟨m, rfl, hm, _⟩
    · rfl
    · exact absurd ⟨by omega, by omega⟩ h
  · rcases h' with ⟨rfl, h'⟩ | ⟨m', hm', _, h'⟩
    · exact absurd ⟨by omega, by omega⟩ h'
    · have e : m' = m := by omega
      subst e
      rcases h with ⟨rfl, h⟩ | ⟨hl, h⟩
      · rcases h' with ⟨rfl, _⟩ | ⟨hl', _⟩
        · rfl
        · exact absurd hl' h
      · rcases h' with ⟨rfl, h'⟩ | ⟨_, h'⟩
        · exact absurd hl h'
        · rcases h with ⟨rfl, h⟩ | ⟨hr, h⟩
          · rcases h' with ⟨rfl, _⟩ | ⟨hr', _⟩
            · rfl
            · exact absurd hr' h
          · rcases h' with ⟨rfl, h'⟩ | ⟨_, h'⟩
            · exact absurd hr h'
            · rcases h with ⟨rfl, h⟩ | ⟨rfl, h⟩ <;> rcases h' with ⟨rfl, h'⟩ | ⟨rfl, h'⟩ <;> first | rfl | (exact absurd h h') | (exact absurd h' h)

end Go.Proofs.Ytappekjkcgmheab
namespace Go.Proofs.Ytappekjkcgmheab
open Go.RowKit

/-- The reference's law: who is below somebody below i is below i; and i is not below i. -/
def RefAt (n : Nat) (g : Nat → Nat) (i : Nat) : Prop :=
  (∀ j, j < n → ∀ k, k < n → ¬ ((g k).testBit j = true ∧ (g i).testBit k = true ∧ (g i).testBit j = false)) ∧ (g i).testBit i = false
theorem refAt_iff (n : Nat) (g : Nat → Nat) (i : Nat) (hn : n ≤ 10) (hg : ∀ k, k < n → g k < pw n) (hi : i < n) : RefAt n g i ↔ OrdAt n g i := by
  have hp := pw_le n hn
  have hb : ∀ k, k < n → g k < 18446744073709551616 := fun k hk => by have := hg k hk; omega
  constructor
  · rintro ⟨h1, h2⟩
    refine ⟨h2, fun p hp hb1 => (lack_zero _ _ (hb p hp) (hb i hi)).2 fun j hj => ?_⟩
    have hjn : j < n := bit_of_lt (hg p hp) hj
    cases h : (g i).testBit j
    · exact absurd ⟨hj, hb1, h⟩ (h1 j hjn p hp)
    · rfl
  · rintro ⟨h1, h2⟩
    refine ⟨fun j hj k hk ⟨c1, c2, c3⟩ => ?_, h1⟩
    have := (lack_zero _ _ (hb k hk) (hb i hi)).1 (h2 k hk c2) j c1
    rw [c3] at this
    cases this

/-- An order lies in block b0, its sets are the row f. -/
def Held (w : World) (b0 : Nat) (n : Int) (a : Option Addr) (len cap : Nat) (f : Nat → Int) : Prop :=
  w.cell? ⟨b0, 0, none⟩ = some (.int .i64 n) ∧ w.cell? ⟨b0, 1, none⟩ = some (.slice a len cap) ∧ Row w a len f
theorem Held.c0 {w : World} {b0 : Nat} {n : Int} {a : Option Addr} {len cap : Nat} {f : Nat → Int} (h : Held w b0 n a len cap f) : w.cell? ⟨b0, 0, none⟩ = some (.int .i64 n) := h.1
theorem Held.c1 {w : World} {b0 : Nat} {n : Int} {a : Option Addr} {len cap : Nat} {f : Nat → Int} (h : Held w b0 n a len cap f) : w.cell? ⟨b0, 1, none⟩ = some (.slice a len cap) := h.2.1
theorem Held.row {w : World} {b0 : Nat} {n : Int} {a : Option Addr} {len cap : Nat} {f : Nat → Int} (h : Held w b0 n a len cap f) : Row w a len f := h.2.2
theorem Held.step {w w' : World} {b0 : Nat} {n : Int} {a : Option Addr} {len cap : Nat} {f : Nat → Int} (h : Held w b0 n a len cap f) (hb : Below w.heap.size w w') : Held w' b0 n a len cap f :=
  ⟨(hb.cell (World.block_lt_of_cell? _ _ h.1)).trans h.1, (hb.cell (World.block_lt_of_cell? _ _ h.2.1)).trans h.2.1, h.2.2.below hb⟩
theorem Held.box {w : World} {n : Int} {a : Option Addr} {len cap : Nat} {f : Nat → Int} (h : Row w a len f) : Held (w.alloc (.cells #[.int .i64 n, .slice a len cap] 24)) w.heap.size n a len cap f :=
  ⟨by simp, by simp, h.below ((Below.refl _ _).alloc (Nat.le_refl _) _)⟩
theorem below_drewN {B : Nat} {a w : World} (h : Below B a w) (n : Nat) : Below B a (w.drewN n) := h.trans ⟨rfl, rfl, rfl, Nat.le_refl _, fun _ _ => rfl⟩
theorem Below.then {w w1 w2 : World} (h : Below w.heap.size w w1) (k : Below w1.heap.size w1 w2) : Below w.heap.size w w2 := h.trans (k.mono h.size)

end Go.Proofs.Ytappekjkcgmheab
