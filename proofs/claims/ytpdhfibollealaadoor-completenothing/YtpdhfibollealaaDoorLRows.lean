/-
  Tables as they come in: slices of slices of numbers; what lattice.isSquare, isOfElements and tables answer. No condition but that slices read as slices of rows.
-/
import Derived.Test.YtpdhfibollealaaDoorTabs
namespace Go.Proofs.YtpdhfibollealaaDoor
open Go.RowKit

/-- A truth that says whether Q. -/
def BIs (e : Ending) (Q : Prop) : Prop := ∃ v, e = .returned (.bool v) ∧ (v = true ↔ Q)
/-- A slice of m rows. -/
def RR (w : World) (a : Option Addr) (m : Nat) (S : Nat → Option Addr × Nat × Nat) (F : Nat → Nat → Int) : Prop :=
  ∀ k, k < m → ∃ b off, a = some ⟨b, off, none⟩ ∧ w.cell? ⟨b, off + k, none⟩ = some (.slice (S k).1 (S k).2.1 (S k).2.2) ∧ (S k).2.1 ≤ maxLen ∧ Row w (S k).1 (S k).2.1 (F k)
theorem RR.below {w w' : World} {a : Option Addr} {m : Nat} {S : Nat → Option Addr × Nat × Nat} {F : Nat → Nat → Int} (h : RR w a m S F) (hb : Below w.heap.size w w') : RR w' a m S F := fun k hk => by
  obtain ⟨b, off, e, hc, hl, hr⟩ := h k hk
  exact ⟨b, off, e, (hb.cell (World.block_lt_of_cell? _ _ hc)).trans hc, hl, hr.below hb⟩
/-- n rows of n; all of them elements. -/
def Sq (n : Int) (la : Nat) (S : Nat → Option Addr × Nat × Nat) : Prop := (la : Int) = n ∧ ∀ k, k < la → ((S k).2.1 : Int) = n
def Rg (n : Int) (la : Nat) (S : Nat → Option Addr × Nat × Nat) (F : Nat → Nat → Int) : Prop := ∀ x, x < la → ∀ y, y < (S x).2.1 → 0 ≤ F x y ∧ F x y < n

end Go.Proofs.YtpdhfibollealaaDoor
