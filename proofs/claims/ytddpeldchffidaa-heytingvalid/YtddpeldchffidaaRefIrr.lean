/-
  What the reference's Under and IrreducibleOf answer. Conditions: tables of at most forty elements.
-/
import Derived.Test.YtddpeldchffidaaIrr
namespace Go.Proofs.Ytddpeldchffidaa
set_option maxRecDepth 100000
open Go.RowKit

theorem int_beq' (a b : Nat) : (((a : Nat) : Int) == ((b : Nat) : Int)) = (a == b) := by
  rw [Bool.eq_iff_iff]; simp; omega
set_option maxHeartbeats 1000000 in
theorem under_any (n b1 o1 ca : Nat) (b2 : Option Addr) (lb cb : Nat) (R1 : Nat → Nat × Nat × Nat) (m : Nat → Nat → Nat) (x y : Nat) (w : World) (v : Bool) (hv : leB m x y = v) (ht1 : Tb w b1 o1 n R1 m) (hx : x < n) (hy : y < n) :
    Calls Try.prog 38 #[.agg #[.int .i64 (n : Int), .slice (some ⟨b1, o1, none⟩) n ca, .slice b2 lb cb], .int .i64 (x : Nat), .int .i64 (y : Nat)] w fun e w' => e = .returned (.bool v) ∧ Below w.heap.size w w' := by
  have B1 : Below w.heap.size w (w.alloc (.cells #[.int .i64 (n : Int), .slice (some ⟨b1, o1, none⟩) n ca, .slice b2 lb cb] 24)) := (Below.refl _ _).alloc (Nat.le_refl _) _
  have ht := ht1.step B1
  have HB : Hid (Below w.heap.size w (w.alloc (.cells #[.int .i64 (n : Int), .slice (some ⟨b1, o1, none⟩) n ca, .slice b2 lb cb] 24))) := B1
  have r1 := (ht x hx).1
  have r2 := (ht x hx).2 y hy
  have i1 : (x : Int) < (n : Int) := by omega
  have i2 : (y : Int) < (n : Int) := by omega
  have hq : (((m x y : Nat) : Int) == ((x : Nat) : Int)) = v := by rw [int_beq']; exact hv
  clear ht ht1 B1 hv
  go_enter Try.func38, Try.ntmps38
  go_wp2_with fail
  go_ret
  exact ⟨rfl, HB.out⟩

end Go.Proofs.Ytddpeldchffidaa
