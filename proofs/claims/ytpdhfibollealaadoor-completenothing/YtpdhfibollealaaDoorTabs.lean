/-
  Tables of numbers that lie in slices of slices, and what lattice.isLawful answers of two. Conditions: at most forty elements, all that stands there is one of them.
-/
import Derived.Test.YtpdhfibollealaaDoorAlways
namespace Go.Proofs.YtpdhfibollealaaDoor
open Go.RowKit

/-- A table of n rows of n elements. -/
def Tb (w : World) (b off n : Nat) (R : Nat → Nat × Nat × Nat) (m : Nat → Nat → Nat) : Prop :=
  ∀ x, x < n → w.cell? ⟨b, off + x, none⟩ = some (.slice (some ⟨(R x).1, (R x).2.1, none⟩) n (R x).2.2) ∧ ∀ y, y < n → w.cell? ⟨(R x).1, (R x).2.1 + y, none⟩ = some (.int .i64 (m x y : Nat))
theorem Tb.step {w w' : World} {b off n : Nat} {R : Nat → Nat × Nat × Nat} {m : Nat → Nat → Nat} (h : Tb w b off n R m) (hb : Below w.heap.size w w') : Tb w' b off n R m := fun x hx =>
  ⟨(hb.cell (World.block_lt_of_cell? _ _ (h x hx).1)).trans (h x hx).1, fun y hy => (hb.cell (World.block_lt_of_cell? _ _ ((h x hx).2 y hy))).trans ((h x hx).2 y hy)⟩
theorem cell_step {w w' : World} {p : Addr} {v : Value} (hb : Below w.heap.size w w') (h : w.cell? p = some v) : w'.cell? p = some v := (hb.cell (World.block_lt_of_cell? _ _ h)).trans h
theorem int_beq (a b : Nat) : (((a : Nat) : Int) == ((b : Nat) : Int)) = (a == b) := by
  rw [Bool.eq_iff_iff, beq_iff_eq, beq_iff_eq]
  omega

end Go.Proofs.YtpdhfibollealaaDoor
