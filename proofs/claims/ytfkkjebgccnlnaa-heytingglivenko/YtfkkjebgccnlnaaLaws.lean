/-
  What lattice.Modular and lattice.Distributive answer, whatever they are handed. No condition but that slices read as slices of rows.
-/
import Derived.Test.YtfkkjebgccnlnaaLChk
namespace Go.Proofs.Ytfkkjebgccnlnaa
set_option maxRecDepth 100000
open Go.RowKit

/-- What such a call must answer. -/
def LawPost (P : (Nat → Nat → Nat) → (Nat → Nat → Nat) → Nat → Nat → Nat → Bool) (n : Int) (la : Nat) (SA : Nat → Option Addr × Nat × Nat) (FA : Nat → Nat → Int) (lb : Nat) (SB : Nat → Option Addr × Nat × Nat) (FB : Nat → Nat → Int) (e : Ending) : Prop :=
  ∃ (c : Int) (v : Bool), LCk n la SA FA lb SB FB c ∧ e = .returned (.tuple #[.bool v, .int .i64 c]) ∧ ((c ≠ 0 ∧ v = false) ∨ (c = 0 ∧ (v = true ↔ All3 n.toNat (P (nat2 FA) (nat2 FB)))))

/-- A lattice in a variable. -/
def LB (w : World) (B : Nat) (n : Int) (a : Option Addr) (la ca : Nat) (b : Option Addr) (lb cb : Nat) : Prop :=
  w.cell? ⟨B, 0, none⟩ = some (.int .i64 n) ∧ w.cell? ⟨B, 1, none⟩ = some (.slice a la ca) ∧ w.cell? ⟨B, 2, none⟩ = some (.slice b lb cb)
theorem LB.step {w w' : World} {B : Nat} {n : Int} {a : Option Addr} {la ca : Nat} {b : Option Addr} {lb cb : Nat} (h : LB w B n a la ca b lb cb) (hb : Below w.heap.size w w') : LB w' B n a la ca b lb cb :=
  ⟨cell_step hb h.1, cell_step hb h.2.1, cell_step hb h.2.2⟩
theorem LB.new (w : World) (n : Int) (a : Option Addr) (la ca : Nat) (b : Option Addr) (lb cb : Nat) : LB (w.alloc (.cells #[.int .i64 n, .slice a la ca, .slice b lb cb] 24)) w.heap.size n a la ca b lb cb :=
  ⟨by simp, by simp, by simp⟩

end Go.Proofs.Ytfkkjebgccnlnaa
