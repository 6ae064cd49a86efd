/-
  What isOrdered answers: true just if no point is in its own set, and each set has all that the sets of its points have. Conditions: at most ten sets of numbers below 1024.
-/
import Derived.Test.YtoagfjikjdacoaaRefLeaves
namespace Go.Proofs.Ytoagfjikjdacoaa
open Go.RowKit

/-- A slice of len numbers f 0, f 1, .. -/
def Row (w : World) (a : Option Addr) (len : Nat) (f : Nat → Int) : Prop :=
  ∀ k, k < len → ∃ b off, a = some ⟨b, off, none⟩ ∧ w.cell? ⟨b, off + k, none⟩ = some (.int .i64 (f k))
theorem Row.at {w : World} {a : Option Addr} {len : Nat} {f : Nat → Int} (h : Row w a len f) {k : Nat} (hk : k < len) :
    ∃ b off, a = some ⟨b, off, none⟩ ∧ ∀ j, j < len → w.cell? ⟨b, off + j, none⟩ = some (.int .i64 (f j)) := by
  obtain ⟨b, off, rfl, _⟩ := h k hk
  refine ⟨b, off, rfl, fun j hj => ?_⟩
  obtain ⟨b', off', e, hc⟩ := h j hj
  simp at e
  obtain ⟨rfl, rfl⟩ := e
  exact hc

def OrdAt (n : Nat) (g : Nat → Nat) (u : Nat) : Prop := (g u).testBit u = false ∧ ∀ p, p < n → (g u).testBit p = true → lack (g p) (g u) = 0
def Ord (n : Nat) (g : Nat → Nat) : Prop := ∀ u, u < n → OrdAt n g u

/-- The call answers whether P holds. -/
def Ans (e : Ending) (P : Prop) : Prop := ∃ b : Bool, e = .returned (.bool b) ∧ (b = true ↔ P)
theorem Ans.yes {P : Prop} (h : P) : Ans (.returned (.bool true)) P := ⟨true, rfl, by simp [h]⟩
theorem Ans.no {P : Prop} (h : ¬ P) : Ans (.returned (.bool false)) P := ⟨false, rfl, by simp [h]⟩

end Go.Proofs.Ytoagfjikjdacoaa
