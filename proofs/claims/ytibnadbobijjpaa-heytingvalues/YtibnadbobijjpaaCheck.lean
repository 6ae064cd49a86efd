/-
  What order.Check answers, whatever it is handed: the document's A1. No condition but that a slice reads as a slice of numbers.
-/
import Derived.Test.YtibnadbobijjpaaOrdered
namespace Go.Proofs.Ytibnadbobijjpaa
open Go.RowKit

theorem Row.below {w w' : World} {a : Option Addr} {len : Nat} {f : Nat → Int} (h : Row w a len f) (hb : Below w.heap.size w w') : Row w' a len f := by
  intro k hk
  obtain ⟨b, off, rfl, hc⟩ := h k hk
  exact ⟨b, off, rfl, (hb.cell (World.block_lt_of_cell? _ _ hc)).trans hc⟩

def Rng (m : Nat) (f : Nat → Int) : Prop := ∀ k, k < m → 0 ≤ f k ∧ f k < (pw m : Nat)
def nat (f : Nat → Int) (k : Nat) : Nat := (f k).toNat
/-- What Check must answer. -/
def Chk (n : Int) (len : Nat) (f : Nat → Int) (c : Int) : Prop :=
  (c = 2 ∧ ¬ (0 ≤ n ∧ n ≤ 10)) ∨
  ∃ m : Nat, n = m ∧ m ≤ 10 ∧ ((c = 1 ∧ len ≠ m) ∨
    (len = m ∧ ((c = 3 ∧ ¬ Rng m f) ∨ (Rng m f ∧ ((c = 4 ∧ ¬ Ord m (nat f)) ∨ (c = 0 ∧ Ord m (nat f)))))))
theorem Chk.unique {n : Int} {len : Nat} {f : Nat → Int} {c c' : Int} (h : Chk n len f c) (h' : Chk n len f c') : c = c' := by
  rcases h with ⟨rfl, h⟩ | ⟨m, rfl, hm, h⟩
  · rcases h' with ⟨rfl, _⟩ | ⟨m, rfl, hm, _⟩
    · rfl
    · exact absurd ⟨by omega, by omega⟩ h
  · rcases h' with ⟨rfl, h'⟩ | ⟨m', hm', _, h'⟩
    · exact absurd ⟨by omega, by omega⟩ h'
    · have e : m' = m := by omega
      subst e
      rcases h with ⟨rfl, h⟩ | ⟨hl, h⟩
      · rcases h' with ⟨rfl, _⟩ | ⟨hl', _⟩
        · rfl
        · exact absurd hl' h
      · rcases h' with ⟨rfl, h'⟩ | ⟨_, h'⟩
        · exact absurd hl h'
        · rcases h with ⟨rfl, h⟩ | ⟨hr, h⟩
          · rcases h' with ⟨rfl, _⟩ | ⟨hr', _⟩
            · rfl
            · exact absurd hr' h
          · rcases h' with ⟨rfl, h'⟩ | ⟨_, h'⟩
            · exact absurd hr h'
            · rcases h with ⟨rfl, h⟩ | ⟨rfl, h⟩ <;> rcases h' with ⟨rfl, h'⟩ | ⟨rfl, h'⟩ <;> first | rfl | (exact absurd h h') | (exact absurd h' h)

end Go.Proofs.Ytibnadbobijjpaa
