/-
  What lattice.inBoth and lattice.isBelow answer. Conditions: the closure answers so of either table, in each world that leaves the first one as it was; at most forty elements.
-/
import Derived.Test.YtgdbldfbhiaepabLaws
namespace Go.Proofs.Ytgdbldfbhiaepab
open Go.RowKit

set_option maxHeartbeats 1000000 in
theorem isUpTo_any (q b off cap : Nat) (b' : Option Addr) (lb cb : Nat) (R : Nat → Nat × Nat × Nat) (m : Nat → Nat → Nat) (x y : Nat) (w : World) (v : Bool) (hv : (m x y == x) = v) (ht1 : Tb w b off q R m) (hx : x < q) (hy : y < q) :
    Calls Try.prog 29 #[.agg #[.int .i64 (q : Nat), .slice (some ⟨b, off, none⟩) q cap, .slice b' lb cb], .int .i64 (x : Nat), .int .i64 (y : Nat)] w fun e w' => e = .returned (.bool v) ∧ Below w.heap.size w w' := by
  have B1 : Below w.heap.size w (w.alloc (.cells #[.int .i64 (q : Nat), .slice (some ⟨b, off, none⟩) q cap, .slice b' lb cb] 24)) := (Below.refl _ _).alloc (Nat.le_refl _) _
  have ht := ht1.step B1
  have HB : Hid (Below w.heap.size w (w.alloc (.cells #[.int .i64 (q : Nat), .slice (some ⟨b, off, none⟩) q cap, .slice b' lb cb] 24))) := B1
  have r1 := (ht x hx).1
  have r2 := (ht x hx).2 y hy
  have i1 : (x : Int) < (q : Int) := by omega
  have i2 : (y : Int) < (q : Int) := by omega
  have hq : (((m x y : Nat) : Int) == ((x : Nat) : Int)) = v := by rw [int_beq]; exact hv
  clear ht ht1 B1 hv
  go_enter Try.func29, Try.ntmps29
  go_wp2_with fail
  go_ret
  exact ⟨rfl, HB.out⟩

set_option maxHeartbeats 1000000 in
theorem isBelow_any (q b off cap : Nat) (b' : Option Addr) (lb cb : Nat) (R : Nat → Nat × Nat × Nat) (m : Nat → Nat → Nat) (x y : Nat) (w : World) (ht : Tb w b off q R m) (hx : x < q) (hy : y < q) :
    Calls Try.prog 21 #[.agg #[.int .i64 (q : Nat), .slice (some ⟨b, off, none⟩) q cap, .slice b' lb cb], .int .i64 (x : Nat), .int .i64 (y : Nat)] w fun e w' => e = .returned (.bool (!(x == y) && m x y == x)) ∧ Below w.heap.size w w' := by
  have B1 : Below w.heap.size w (w.alloc (.cells #[.int .i64 (q : Nat), .slice (some ⟨b, off, none⟩) q cap, .slice b' lb cb] 24)) := (Below.refl _ _).alloc (Nat.le_refl _) _
  have HB1 : Hid (Below w.heap.size w (w.alloc (.cells #[.int .i64 (q : Nat), .slice (some ⟨b, off, none⟩) q cap, .slice b' lb cb] 24))) := B1
  have HT : Hid (Tb (w.alloc (.cells #[.int .i64 (q : Nat), .slice (some ⟨b, off, none⟩) q cap, .slice b' lb cb] 24)) b off q R m) := ht.step B1
  clear B1 ht
  obtain ⟨v1, hv1⟩ : ∃ v, (x == y) = v := ⟨_, rfl⟩
  obtain ⟨v2, hv2⟩ : ∃ v, (m x y == x) = v := ⟨_, rfl⟩
  rw [hv1, hv2]
  rw [← int_beq] at hv1
  rcases v1 with _ | _
  · have hq : ((x : Int) != (y : Int)) = true := by simp only [bne, hv1, Bool.not_false]
    go_enter Try.func21, Try.ntmps21
    go_wp2_with fail
    refine (isUpTo_any q b off cap b' lb cb R m x y _ v2 hv2 HT.out hx hy).mono ?_
    rintro e w1 ⟨rfl, hb1⟩
    have HB2 : Hid (Below w.heap.size w w1) := Below.then HB1.out hb1
    clear hb1 HB1 HT
    go_wp2_with fail
    go_ret
    exact ⟨rfl, HB2.out⟩
  · have hq : ((x : Int) != (y : Int)) = false := by simp only [bne, hv1, Bool.not_true]
    go_enter Try.func21, Try.ntmps21
    go_wp2_with fail
    go_ret
    exact ⟨rfl, HB1.out⟩
end Go.Proofs.Ytgdbldfbhiaepab
