/-
  What lattice.inBoth and lattice.isBelow answer. Conditions: the closure answers so of either table, in each world that leaves the first one as it was; at most forty elements.
-/
import Derived.Test.YtjofhlbadpjkoaaLaws
namespace Go.Proofs.Ytjofhlbadpjkoaa
open Go.RowKit

/-- A closure that answers p of a table. -/
def Clo1 (F : Nat) (caps : Array Value) (V : Value) (p : Bool) (w : World) : Prop :=
  ∀ W : World, Below w.heap.size w W → Calls Try.prog F (#[V] ++ caps) W fun e w' => e = .returned (.bool p) ∧ Below W.heap.size W w'
theorem Clo1.step {F : Nat} {caps : Array Value} {V : Value} {p : Bool} {w W : World} (h : Clo1 F caps V p w) (hb : Below w.heap.size w W) : Clo1 F caps V p W :=
  fun W' hW => h W' (Below.then hb hW)

set_option maxHeartbeats 1000000 in
theorem isBelow_any (q b off cap : Nat) (b' : Option Addr) (lb cb : Nat) (R : Nat → Nat × Nat × Nat) (m : Nat → Nat → Nat) (x y : Nat) (w : World) (ht : Tb w b off q R m) (hx : x < q) (hy : y < q) :
    Calls Try.prog 60 #[.agg #[.int .i64 (q : Nat), .slice (some ⟨b, off, none⟩) q cap, .slice b' lb cb], .int .i64 (x : Nat), .int .i64 (y : Nat)] w fun e w' => e = .returned (.bool (!(x == y) && m x y == x)) ∧ Below w.heap.size w w' := by
  have B1 : Below w.heap.size w (w.alloc (.cells #[.int .i64 (q : Nat), .slice (some ⟨b, off, none⟩) q cap, .slice b' lb cb] 27)) := (Below.refl _ _).alloc (Nat.le_refl _) _
  have HB1 : Hid (Below w.heap.size w (w.alloc (.cells #[.int .i64 (q : Nat), .slice (some ⟨b, off, none⟩) q cap, .slice b' lb cb] 27))) := B1
  have r1 := cell_step B1 (ht x hx).1
  have e1 := cell_step B1 ((ht x hx).2 y hy)
  have ix : (x : Int) < (q : Int) := by omega
  have iy : (y : Int) < (q : Int) := by omega
  clear B1 ht
  obtain ⟨v1, hv1⟩ : ∃ v, (x == y) = v := ⟨_, rfl⟩
  obtain ⟨v2, hv2⟩ : ∃ v, (m x y == x) = v := ⟨_, rfl⟩
  rw [hv1, hv2]
  rw [← int_beq] at hv1 hv2
  rcases v1 with _ | _
  · have hq : ((x : Int) != (y : Int)) = true := by simp only [bne, hv1, Bool.not_false]
    rcases v2 with _ | _
    · go_enter Try.func60, Try.ntmps60
      go_wp2_with fail
      go_ret
      exact ⟨rfl, HB1.out⟩
    · go_enter Try.func60, Try.ntmps60
      go_wp2_with fail
      go_ret
      exact ⟨rfl, HB1.out⟩
  · have hq : ((x : Int) != (y : Int)) = false := by simp only [bne, hv1, Bool.not_true]
    go_enter Try.func60, Try.ntmps60
    go_wp2_with fail
    go_ret
    exact ⟨rfl, HB1.out⟩
end Go.Proofs.Ytjofhlbadpjkoaa
