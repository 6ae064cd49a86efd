/-
  What lattice.inBoth and lattice.isBelow answer. Conditions: the closure answers so of either table, in each world that leaves the first one as it was; at most forty elements.
-/
import Derived.Test.YtjcinkippaknnaaDoorLaws
namespace Go.Proofs.YtjcinkippaknnaaDoor
open Go.RowKit

/-- A closure that answers p of a table. -/
def Clo1 (F : Nat) (caps : Array Value) (V : Value) (p : Bool) (w : World) : Prop :=
  ∀ W : World, Below w.heap.size w W → Calls Tryd.prog F (#[V] ++ caps) W fun e w' => e = .returned (.bool p) ∧ Below W.heap.size W w'
theorem Clo1.step {F : Nat} {caps : Array Value} {V : Value} {p : Bool} {w W : World} (h : Clo1 F caps V p w) (hb : Below w.heap.size w W) : Clo1 F caps V p W :=
  fun W' hW => h W' (Below.then hb hW)

set_option maxHeartbeats 2000000 in
theorem inBoth_any (n : Int) (a : Option Addr) (la ca : Nat) (b : Option Addr) (lb cb F : Nat) (caps : Array Value) (p q : Bool) (w : World) (hF : Ent F)
    (hA : Clo1 F caps (.slice a la ca) p w) (hB : Clo1 F caps (.slice b lb cb) q w) :
    Calls Tryd.prog 54 #[.agg #[.int .i64 n, .slice a la ca, .slice b lb cb], .func (.func F) #[] caps] w fun e w' => e = .returned (.bool (p && q)) ∧ Below w.heap.size w w' := by
  have HA : Hid (Clo1 F caps (.slice a la ca) p w) := hA
  have HB : Hid (Clo1 F caps (.slice b lb cb) q w) := hB
  have HB1 : Hid (Below w.heap.size w (w.alloc (.cells #[.int .i64 n, .slice a la ca, .slice b lb cb] 24))) := (Below.refl _ _).alloc (Nat.le_refl _) _
  clear hA hB
  have ix0 := index2_0 (.slice a la ca) (.slice b lb cb)
  have ix1 := index2_1 (.slice a la ca) (.slice b lb cb)
  go_enter Tryd.func54, Tryd.ntmps54
  go_wp2_with fail
  refine (tables_any n a b la ca lb cb _).mono ?_
  rintro e w1 ⟨rfl, hb1⟩
  have HB2 : Hid (Below w.heap.size w w1) := Below.then HB1.out hb1
  clear hb1 HB1
  go_wp2_with fail
  go_loopw [9] (fun i wx => ∃ k : Nat, k ≤ 2 ∧ i = .int .i64 k ∧ Hid (Below w.heap.size w wx) ∧ Hid ((0 < k → p = true) ∧ (1 < k → q = true))) (fun i _ => 2 - (intOf i).toNat)
  case atStart => exact ⟨0, Nat.zero_le _, rfl, HB2.out, fun h => absurd h (Nat.lt_irrefl _), fun h => absurd h (by omega)⟩
  case round =>
    clear HB2
    obtain ⟨k, hk, rfl, HW, HK⟩ := hrel
    rcases (by omega : k = 0 ∨ k = 1 ∨ k = 2) with rfl | rfl | rfl
    · have HC := HA.out _ HW.out
      rcases p with _ | _
      · go_wp2_with fail
        rw [hF, Oper.upon_enter]
        refine HC.mono ?_
        rintro e w' ⟨rfl, hbw⟩
        have HW2 : Hid (Below w.heap.size w w') := Below.then HW.out hbw
        clear HC hbw
        go_wp2_with fail
        go_ret
        exact ⟨by rw [Bool.false_and]; rfl, HW2.out⟩
      · go_wp2_with fail
        rw [hF, Oper.upon_enter]
        refine HC.mono ?_
        rintro e w' ⟨rfl, hbw⟩
        have HW2 : Hid (Below w.heap.size w w') := Below.then HW.out hbw
        clear HC hbw
        go_wp2_with fail
        go_roundw
        case rel => exact ⟨1, by omega, rfl, HW2.out, fun _ => by first | rfl | trivial, fun h => absurd h (by omega)⟩
        case measure => simp [intOf]
    · have HC := HB.out _ HW.out
      obtain rfl : p = true := HK.out.1 (by omega)
      rcases q with _ | _
      · go_wp2_with fail
        rw [hF, Oper.upon_enter]
        refine HC.mono ?_
        rintro e w' ⟨rfl, hbw⟩
        have HW2 : Hid (Below w.heap.size w w') := Below.then HW.out hbw
        clear HC hbw
        go_wp2_with fail
        go_ret
        exact ⟨rfl, HW2.out⟩
      · go_wp2_with fail
        rw [hF, Oper.upon_enter]
        refine HC.mono ?_
        rintro e w' ⟨rfl, hbw⟩
        have HW2 : Hid (Below w.heap.size w w') := Below.then HW.out hbw
        clear HC hbw
        go_wp2_with fail
        go_roundw
        case rel => exact ⟨2, by omega, rfl, HW2.out, fun _ => by first | rfl | trivial, fun _ => by first | rfl | trivial⟩
        case measure => simp [intOf]
    · obtain rfl : p = true := HK.out.1 (by omega)
      obtain rfl : q = true := HK.out.2 (by omega)
      go_wp2_with fail
      go_ret
      exact ⟨rfl, HW.out⟩

set_option maxHeartbeats 1000000 in
theorem isBelow_any (q b off cap : Nat) (b' : Option Addr) (lb cb : Nat) (R : Nat → Nat × Nat × Nat) (m : Nat → Nat → Nat) (x y : Nat) (w : World) (ht : Tb w b off q R m) (hx : x < q) (hy : y < q) :
    Calls Tryd.prog 40 #[.agg #[.int .i64 (q : Nat), .slice (some ⟨b, off, none⟩) q cap, .slice b' lb cb], .int .i64 (x : Nat), .int .i64 (y : Nat)] w fun e w' => e = .returned (.bool (!(x == y) && m x y == x)) ∧ Below w.heap.size w w' := by
  have B1 : Below w.heap.size w (w.alloc (.cells #[.int .i64 (q : Nat), .slice (some ⟨b, off, none⟩) q cap, .slice b' lb cb] 24)) := (Below.refl _ _).alloc (Nat.le_refl _) _
  have HB1 : Hid (Below w.heap.size w (w.alloc (.cells #[.int .i64 (q : Nat), .slice (some ⟨b, off, none⟩) q cap, .slice b' lb cb] 24))) := B1
  have HT : Hid (Tb (w.alloc (.cells #[.int .i64 (q : Nat), .slice (some ⟨b, off, none⟩) q cap, .slice b' lb cb] 24)) b off q R m) := ht.step B1
  clear B1 ht
  obtain ⟨v1, hv1⟩ : ∃ v, (x == y) = v := ⟨_, rfl⟩
  obtain ⟨v2, hv2⟩ : ∃ v, (m x y == x) = v := ⟨_, rfl⟩
  rw [hv1, hv2]
  rw [← int_beq] at hv1
  rcases v1 with _ | _
  · have hq : ((x : Int) != (y : Int)) = true := by simp only [bne, hv1, Bool.not_false]
    go_enter Tryd.func40, Tryd.ntmps40
    go_wp2_with fail
    refine (isUpTo_any q b off cap b' lb cb R m x y _ v2 hv2 HT.out hx hy).mono ?_
    rintro e w1 ⟨rfl, hb1⟩
    have HB2 : Hid (Below w.heap.size w w1) := Below.then HB1.out hb1
    clear hb1 HB1 HT
    go_wp2_with fail
    go_ret
    exact ⟨rfl, HB2.out⟩
  · have hq : ((x : Int) != (y : Int)) = false := by simp only [bne, hv1, Bool.not_true]
    go_enter Tryd.func40, Tryd.ntmps40
    go_wp2_with fail
    go_ret
    exact ⟨rfl, HB1.out⟩

end Go.Proofs.YtjcinkippaknnaaDoor
