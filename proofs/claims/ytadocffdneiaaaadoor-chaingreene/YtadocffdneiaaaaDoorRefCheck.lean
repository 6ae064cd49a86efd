/-
  What the reference's Less and CheckOrder answer: CheckOrder the same as Check, whatever it is handed. No condition but that a slice reads as a slice of numbers.
-/
import Derived.Test.YtadocffdneiaaaaDoorCheck
import Derived.Deep.QuietTactic
import Derived.BigQuiet
namespace Go.Proofs.YtadocffdneiaaaaDoor
open Go.RowKit

/-- The reference's law: who is below somebody below i is below i; and i is not below i. -/
def RefAt (n : Nat) (g : Nat → Nat) (i : Nat) : Prop :=
  (∀ j, j < n → ∀ k, k < n → ¬ ((g k).testBit j = true ∧ (g i).testBit k = true ∧ (g i).testBit j = false)) ∧ (g i).testBit i = false
theorem refAt_iff (n : Nat) (g : Nat → Nat) (i : Nat) (hn : n ≤ 10) (hg : ∀ k, k < n → g k < pw n) (hi : i < n) : RefAt n g i ↔ OrdAt n g i := by
  have hp := pw_le n hn
  have hb : ∀ k, k < n → g k < 18446744073709551616 := fun k hk => by have := hg k hk; omega
  constructor
  · rintro ⟨h1, h2⟩
    refine ⟨h2, fun p hp hb1 => (lack_zero _ _ (hb p hp) (hb i hi)).2 fun j hj => ?_⟩
    have hjn : j < n := bit_of_lt (hg p hp) hj
    cases h : (g i).testBit j
    · exact absurd ⟨hj, hb1, h⟩ (h1 j hjn p hp)
    · rfl
  · rintro ⟨h1, h2⟩
    refine ⟨fun j hj k hk ⟨c1, c2, c3⟩ => ?_, h1⟩
    have := (lack_zero _ _ (hb k hk) (hb i hi)).1 (h2 k hk c2) j c1
    rw [c3] at this
    cases this

/-- An order lies in block b0, its sets are the row f. -/
def Held (w : World) (b0 : Nat) (n : Int) (a : Option Addr) (len cap : Nat) (f : Nat → Int) : Prop :=
  w.cell? ⟨b0, 0, none⟩ = some (.int .i64 n) ∧ w.cell? ⟨b0, 1, none⟩ = some (.slice a len cap) ∧ Row w a len f
theorem Held.c0 {w : World} {b0 : Nat} {n : Int} {a : Option Addr} {len cap : Nat} {f : Nat → Int} (h : Held w b0 n a len cap f) : w.cell? ⟨b0, 0, none⟩ = some (.int .i64 n) := h.1
theorem Held.c1 {w : World} {b0 : Nat} {n : Int} {a : Option Addr} {len cap : Nat} {f : Nat → Int} (h : Held w b0 n a len cap f) : w.cell? ⟨b0, 1, none⟩ = some (.slice a len cap) := h.2.1
theorem Held.row {w : World} {b0 : Nat} {n : Int} {a : Option Addr} {len cap : Nat} {f : Nat → Int} (h : Held w b0 n a len cap f) : Row w a len f := h.2.2
theorem Held.step {w w' : World} {b0 : Nat} {n : Int} {a : Option Addr} {len cap : Nat} {f : Nat → Int} (h : Held w b0 n a len cap f) (hb : Below w.heap.size w w') : Held w' b0 n a len cap f :=
  ⟨(hb.cell (World.block_lt_of_cell? _ _ h.1)).trans h.1, (hb.cell (World.block_lt_of_cell? _ _ h.2.1)).trans h.2.1, h.2.2.below hb⟩
theorem Held.box {w : World} {n : Int} {a : Option Addr} {len cap : Nat} {f : Nat → Int} (h : Row w a len f) : Held (w.alloc (.cells #[.int .i64 n, .slice a len cap] 24)) w.heap.size n a len cap f :=
  ⟨by simp, by simp, h.below ((Below.refl _ _).alloc (Nat.le_refl _) _)⟩
theorem below_drewN {B : Nat} {a w : World} (h : Below B a w) (n : Nat) : Below B a (w.drewN n) := h.trans ⟨rfl, rfl, rfl, Nat.le_refl _, fun _ _ => rfl⟩
theorem Below.then {w w1 w2 : World} (h : Below w.heap.size w w1) (k : Below w1.heap.size w1 w2) : Below w.heap.size w w2 := h.trans (k.mono h.size)

end Go.Proofs.YtadocffdneiaaaaDoor
