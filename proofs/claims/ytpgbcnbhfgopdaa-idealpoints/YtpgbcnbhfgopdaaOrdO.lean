/-
  What lattice.Order answers, whatever it is handed. No condition but that slices read as slices of rows.
-/
import Derived.Test.YtpgbcnbhfgopdaaBoth
import Derived.Test.YtpgbcnbhfgopdaaDualT
namespace Go.Proofs.Ytpgbcnbhfgopdaa
open Go.RowKit

/-- Who is above an element. -/
def upF (m : Nat → Nat → Nat) (n x : Nat) : Nat := setBy (fun y => !(x == y) && m x y == x) n
theorem upF_bit (m : Nat → Nat → Nat) (n x y : Nat) : (upF m n x).testBit y = (decide (y < n) && (!(x == y) && m x y == x)) := setBy_bit _ n y
theorem upF_at {m : Nat → Nat → Nat} {n x y : Nat} (hy : y < n) : (upF m n x).testBit y = (!(x == y) && m x y == x) := by
  rw [upF_bit]; simp [hy]
/-- What Order must answer. -/
def OLk (n c0 c : Int) : Prop := (c0 ≠ 0 ∧ c = c0) ∨ (c0 = 0 ∧ ((c = 2 ∧ 10 < n) ∨ (c = 0 ∧ n ≤ 10)))
def OrdLPost (n : Int) (la : Nat) (SA : Nat → Option Addr × Nat × Nat) (FA : Nat → Nat → Int) (lb : Nat) (SB : Nat → Option Addr × Nat × Nat) (FB : Nat → Nat → Int) (e : Ending) (w' : World) : Prop :=
  ∃ (c0 c : Int) (x : Value), LCk n la SA FA lb SB FB c0 ∧ OLk n c0 c ∧ e = .returned (.tuple #[x, .int .i64 c]) ∧ OrdErr c n n.toNat (fun k => (trn (upF (nat2 FA) n.toNat) n.toNat k : Nat)) x w'

end Go.Proofs.Ytpgbcnbhfgopdaa
