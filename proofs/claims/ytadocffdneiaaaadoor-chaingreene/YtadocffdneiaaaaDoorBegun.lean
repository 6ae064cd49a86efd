/-
  What the reference's Same answers; that hasselaw.orderBegun answers true. Conditions: slices read as slices of numbers.
-/
import Derived.Test.YtadocffdneiaaaaDoorMake
namespace Go.Proofs.YtadocffdneiaaaaDoor
open Go.RowKit

theorem Row.drewN {w : World} {a : Option Addr} {len : Nat} {f : Nat → Int} (h : Row w a len f) (m : Nat) : Row (w.drewN m) a len f := h

def SameRows (la lb : Nat) (f g : Nat → Int) : Prop := la = lb ∧ ∀ k, k < la → f k = g k
def pBegun (k : Nat) : Int × Int := if k = 0 then (0, 1) else (1, 2)
def gBegun (k : Nat) : Nat := if k = 0 then 0 else if k = 1 then 1 else 3
theorem begun_sets : ∀ k, k < 3 → reachOut (mk pBegun 2) 3 3 k = gBegun k := by decide +kernel
theorem begun_ord : Ord 3 (reachOut (mk pBegun 2) 3 3) := by
  unfold Ord OrdAt; decide +kernel
theorem begun_pin : ∀ k, k < 2 → PIn ((3 : Nat) : Int) pBegun k := by
  unfold PIn; decide +kernel
theorem begun_mk {c : Int} (h : Mk 3 2 pBegun c) : c = 0 := by
  rcases h with ⟨_, h⟩ | ⟨m, hm, _, ⟨_, h⟩ | ⟨_, ⟨_, h⟩ | ⟨h, _⟩⟩⟩
  · exact absurd ⟨by decide, by decide⟩ h
  · have : m = 3 := by omega
    subst this; exact absurd begun_pin h
  · have : m = 3 := by omega
    subst this; exact absurd begun_ord h
  · exact h

end Go.Proofs.YtadocffdneiaaaaDoor
