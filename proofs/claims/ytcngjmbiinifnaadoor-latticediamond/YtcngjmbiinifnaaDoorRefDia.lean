/-
  What the reference's Triple, Under and DiamondOf answer of a lattice. Conditions: at most forty elements; a lattice.
-/
import Derived.Deep.RegionHeld3
import Derived.Test.YtcngjmbiinifnaaDoorBoth
import Derived.Test.YtcngjmbiinifnaaDoorDiam
namespace Go.Proofs.YtcngjmbiinifnaaDoor
open Go.RowKit

set_option maxHeartbeats 2000000 in
theorem triple_any (n F : Nat) (caps : Array Value) (P : Nat → Nat → Nat → Bool) (w : World) (h40 : n ≤ 40) (hF : Ent F) (hcl : Clo n F caps P w) :
    Calls Tryd.prog 30 #[.int .i64 n, .func (.func F) #[] caps] w fun e w' => (∃ v l ok, e = .returned (.tuple #[v, .bool ok]) ∧ First3 n P l ok ∧ NSl w' v l) ∧ Below w.heap.size w w' := by
  have HCL : Hid (Clo n F caps P w) := hcl
  clear hcl
  go_enter Tryd.func30, Tryd.ntmps30
  go_wp2_with fail
  go_loopw [6] (fun i wx => ∃ a : Nat, a ≤ n ∧ i = .int .i64 a ∧ Hid (No3 n P a 0 0) ∧ Hid (Below w.heap.size w wx)) (fun i _ => n - (intOf i).toNat)
  case atStart => exact ⟨0, Nat.zero_le _, rfl, No3.zero n P, Below.refl _ _⟩
  case round =>
    obtain ⟨a, ha, rfl, HU, HW⟩ := hrel
    by_cases hal : a < n
    · go_wp2_with fail
      go_loopw [7] (fun i wx => ∃ b : Nat, b ≤ n ∧ i = .int .i64 b ∧ Hid (No3 n P a b 0) ∧ Hid (Below w.heap.size w wx)) (fun i _ => n - (intOf i).toNat)
      case atStart => exact ⟨0, Nat.zero_le _, rfl, HU.out, HW.out⟩
      case round =>
        clear HU HW
        obtain ⟨b, hb, rfl, HU, HW⟩ := hrel
        by_cases hbl : b < n
        · go_wp2_with fail
          go_loopw [8] (fun i wx => ∃ c : Nat, c ≤ n ∧ i = .int .i64 c ∧ Hid (No3 n P a b c) ∧ Hid (Below w.heap.size w wx)) (fun i _ => n - (intOf i).toNat)
          case atStart => exact ⟨0, Nat.zero_le _, rfl, HU.out, HW.out⟩
          case round =>
            clear HU HW
            obtain ⟨c, hc, rfl, HU, HW⟩ := hrel
            by_cases hcl : c < n
            · have HC := HCL.out a b c hal hbl hcl _ HW.out
              rcases (Bool.eq_false_or_eq_true (P a b c)).symm with hp | hp
              · have HN : Hid (No3 n P a b (c + 1)) := HU.out.next hp
                rw [hp] at HC
                clear HU hp
                go_wp2_with fail
                rw [hF, Oper.upon_enter]
                refine HC.mono ?_
                rintro e w' ⟨rfl, hbw⟩
                have HW2 : Hid (Below w.heap.size w w') := Below.then HW.out hbw
                clear HC hbw HW
                go_wp2_with fail
                go_roundw
                case rel => exact ⟨c + 1, by omega, by go_num, HN.out, HW2.out⟩
                case measure => simp [intOf]; omega
              · have HF : Hid (First3 n P [a, b, c] true) := .inl ⟨rfl, a, b, c, ⟨hal, hbl, hcl⟩, hp, HU.out, rfl⟩
                rw [hp] at HC
                clear HU hp
                go_wp2_with fail
                rw [hF, Oper.upon_enter]
                refine HC.mono ?_
                rintro e w' ⟨rfl, hbw⟩
                have HW2 : Hid (Below w.heap.size w w') := Below.then HW.out hbw
                have hsz := HW2.out.size
                clear HC hbw HW
                have HN3 := (show Hid _ from row3 w' a b c)
                have HB3 : Hid (Below w.heap.size w (w'.alloc (.cells #[.int .i64 (a : Nat), .int .i64 (b : Nat), .int .i64 (c : Nat)] 3))) := HW2.out.alloc hsz _
                clear hsz
                go_wp2_with fail
                go_ret2
                exact ⟨⟨_, _, _, rfl, HF.out, HN3.out⟩, HB3.out⟩
            · obtain rfl : c = n := by omega
              have HN : Hid (No3 c P a (b + 1) 0) := HU.out.y
              clear HU
              go_wp2_with fail
              go_roundw
              case rel => exact ⟨b + 1, by omega, by go_num, HN.out, HW.out⟩
              case measure => simp [intOf]; omega
        · obtain rfl : b = n := by omega
          have HN : Hid (No3 b P (a + 1) 0 0) := HU.out.x
          clear HU
          go_wp2_with fail
          go_roundw
          case rel => exact ⟨a + 1, by omega, by go_num, HN.out, HW.out⟩
          case measure => simp [intOf]; omega
    · obtain rfl : a = n := by omega
      have HF : Hid (First3 a P [] false) := .inr ⟨rfl, rfl, fun x y z hx hy hz => HU.out x y z hx hy hz (.inl hx)⟩
      clear HU
      go_wp2_with fail
      go_ret2
      exact ⟨⟨_, _, _, rfl, HF.out, none, 0, rfl, fun k hk => absurd hk (Nat.not_lt_zero _)⟩, HW.out⟩

set_option maxHeartbeats 1000000 in
theorem under_any (q b off cap : Nat) (b' : Option Addr) (lb cb : Nat) (R : Nat → Nat × Nat × Nat) (m : Nat → Nat → Nat) (x y : Nat) (w : World) (ht : Tb w b off q R m) (hx : x < q) (hy : y < q) :
    Calls Tryd.prog 52 #[.agg #[.int .i64 (q : Nat), .slice (some ⟨b, off, none⟩) q cap, .slice b' lb cb], .int .i64 (x : Nat), .int .i64 (y : Nat)] w fun e w' => e = .returned (.bool (m x y == x)) ∧ Below w.heap.size w w' := by
  have B1 : Below w.heap.size w (w.alloc (.cells #[.int .i64 (q : Nat), .slice (some ⟨b, off, none⟩) q cap, .slice b' lb cb] 24)) := (Below.refl _ _).alloc (Nat.le_refl _) _
  have HB1 : Hid (Below w.heap.size w (w.alloc (.cells #[.int .i64 (q : Nat), .slice (some ⟨b, off, none⟩) q cap, .slice b' lb cb] 24))) := B1
  have r1 := cell_step B1 (ht x hx).1
  have e1 := cell_step B1 ((ht x hx).2 y hy)
  have ix : (x : Int) < (q : Int) := by omega
  have iy : (y : Int) < (q : Int) := by omega
  clear B1 ht
  obtain ⟨v2, hv2⟩ : ∃ v, (m x y == x) = v := ⟨_, rfl⟩
  rw [hv2]
  rw [← int_beq] at hv2
  rcases v2 with _ | _
  · go_enter Tryd.func52, Tryd.ntmps52
    go_wp2_with fail
    go_ret
    exact ⟨rfl, HB1.out⟩
  · go_enter Tryd.func52, Tryd.ntmps52
    go_wp2_with fail
    go_ret
    exact ⟨rfl, HB1.out⟩
theorem under_as (q b off cap : Nat) (b' : Option Addr) (lb cb : Nat) (R : Nat → Nat × Nat × Nat) (m : Nat → Nat → Nat) (x y : Nat) (v : Bool) (w : World) (hv : (m x y == x) = v) (ht : Tb w b off q R m) (hx : x < q) (hy : y < q) :
    Calls Tryd.prog 52 #[.agg #[.int .i64 (q : Nat), .slice (some ⟨b, off, none⟩) q cap, .slice b' lb cb], .int .i64 (x : Nat), .int .i64 (y : Nat)] w fun e w' => e = .returned (.bool v) ∧ Below w.heap.size w w' := by
  rw [← hv]; exact under_any q b off cap b' lb cb R m x y w ht hx hy

theorem ent_rdia : Ent 31 := fun _ _ => rfl
set_option maxHeartbeats 4000000 in
theorem rdia1_any (n B b off cap b' off' cap' : Nat) (R R' : Nat → Nat × Nat × Nat) (m j : Nat → Nat → Nat) (w : World) (hL : LB w B (n : Nat) (some ⟨b, off, none⟩) n cap (some ⟨b', off', none⟩) n cap') (ht : Tb w b off n R m) (ho : Tb w b' off' n R' j) :
    Clo n 31 #[.pointer (some ⟨B, 0, none⟩)] (diaB m j) w := fun x y z hx hy hz W hW => by
  show Calls Tryd.prog 31 #[.int .i64 (x : Nat), .int .i64 (y : Nat), .int .i64 (z : Nat), .pointer (some ⟨B, 0, none⟩)] W _
  have LL := hL.step hW
  have HT := ht.step hW
  have HO := ho.step hW
  have c1 := LL.2.1
  have c2 := LL.2.2
  have r1 := (HT x hx).1
  have r2 := (HT y hy).1
  have r3 := (HO x hx).1
  have r4 := (HO y hy).1
  have e1 := (HT x hx).2 y hy
  have e2 := (HT x hx).2 z hz
  have e3 := (HT y hy).2 z hz
  have e4 := (HO x hx).2 y hy
  have e5 := (HO x hx).2 z hz
  have e6 := (HO y hy).2 z hz
  have ix : (x : Int) < (n : Int) := by omega
  have iy : (y : Int) < (n : Int) := by omega
  have iz : (z : Int) < (n : Int) := by omega
  clear HT HO ht ho hW LL hL
  have hKK : Hid (Below W.heap.size W W) := Below.refl _ _
  have HE : Hid (diaB m j x y z = (!(x == y) && (!(y == z) && (!(x == z) && (m x z == m x y && (m y z == m x y && (j x z == j x y && j y z == j x y))))))) := by
    unfold diaB
    rw [show (m x y == m x z) = (m x z == m x y) from Bool.beq_comm, show (m x y == m y z) = (m y z == m x y) from Bool.beq_comm, show (j x y == j x z) = (j x z == j x y) from Bool.beq_comm, show (j x y == j y z) = (j y z == j x y) from Bool.beq_comm]
    cases (x == y) <;> cases (x == z) <;> cases (y == z) <;> cases (m x z == m x y) <;> cases (m y z == m x y) <;> cases (j x z == j x y) <;> cases (j y z == j x y) <;> rfl
  rw [HE.out]
  obtain ⟨v0, hv0⟩ : ∃ v, (x == y) = v := ⟨_, rfl⟩
  obtain ⟨v1, hv1⟩ : ∃ v, (y == z) = v := ⟨_, rfl⟩
  obtain ⟨v2, hv2⟩ : ∃ v, (x == z) = v := ⟨_, rfl⟩
  obtain ⟨v3, hv3⟩ : ∃ v, (m x z == m x y) = v := ⟨_, rfl⟩
  obtain ⟨v4, hv4⟩ : ∃ v, (m y z == m x y) = v := ⟨_, rfl⟩
  obtain ⟨v5, hv5⟩ : ∃ v, (j x z == j x y) = v := ⟨_, rfl⟩
  obtain ⟨v6, hv6⟩ : ∃ v, (j y z == j x y) = v := ⟨_, rfl⟩
  rw [hv0, hv1, hv2, hv3, hv4, hv5, hv6]
  rw [← int_beq] at hv0 hv1 hv2 hv3 hv4 hv5 hv6
  rcases v0 with _ | _
  rotate_left
  · have h0 : ((x : Int) != (y : Int)) = false := by simp only [bne, hv0, Bool.not_true]
    go_enter Tryd.func31, Tryd.ntmps31
    go_wp2
    go_big_quiet (fail)
    go_wp2
    go_ret
    exact ⟨rfl, below_drewN hKK.out _⟩
  have h0 : ((x : Int) != (y : Int)) = true := by simp only [bne, hv0, Bool.not_false]
  rcases v1 with _ | _
  rotate_left
  · have h1 : ((y : Int) != (z : Int)) = false := by simp only [bne, hv1, Bool.not_true]
    go_enter Tryd.func31, Tryd.ntmps31
    go_wp2
    go_big_quiet (fail)
    go_wp2
    go_ret
    exact ⟨rfl, below_drewN hKK.out _⟩
  have h1 : ((y : Int) != (z : Int)) = true := by simp only [bne, hv1, Bool.not_false]
  rcases v2 with _ | _
  rotate_left
  · have h2 : ((x : Int) != (z : Int)) = false := by simp only [bne, hv2, Bool.not_true]
    go_enter Tryd.func31, Tryd.ntmps31
    go_wp2
    go_big_quiet (fail)
    go_wp2
    go_ret
    exact ⟨rfl, below_drewN hKK.out _⟩
  have h2 : ((x : Int) != (z : Int)) = true := by simp only [bne, hv2, Bool.not_false]
  rcases v3 with _ | _
  · go_enter Tryd.func31, Tryd.ntmps31
    go_wp2
    go_big_quiet (fail)
    go_wp2
    go_ret
    exact ⟨rfl, below_drewN hKK.out _⟩
  rcases v4 with _ | _
  · go_enter Tryd.func31, Tryd.ntmps31
    go_wp2
    go_big_quiet (fail)
    go_wp2
    go_ret
    exact ⟨rfl, below_drewN hKK.out _⟩
  rcases v5 with _ | _
  · go_enter Tryd.func31, Tryd.ntmps31
    go_wp2
    go_big_quiet (fail)
    go_wp2
    go_ret
    exact ⟨rfl, below_drewN hKK.out _⟩
  rcases v6 with _ | _
  · go_enter Tryd.func31, Tryd.ntmps31
    go_wp2
    go_big_quiet (fail)
    go_wp2
    go_ret
    exact ⟨rfl, below_drewN hKK.out _⟩
  go_enter Tryd.func31, Tryd.ntmps31
  go_wp2
  go_big_quiet (fail)
  go_wp2
  go_ret
  exact ⟨rfl, below_drewN hKK.out _⟩

set_option maxHeartbeats 1000000 in
theorem refDiamondOf_any (q b off cap b' off' cap' : Nat) (R R' : Nat → Nat × Nat × Nat) (m j : Nat → Nat → Nat) (w : World) (h40 : q ≤ 40) (_ : Inn q m) (_ : Inn q j) (ht : Tb w b off q R m) (ho : Tb w b' off' q R' j) :
    Calls Tryd.prog 11 #[.agg #[.int .i64 (q : Nat), .slice (some ⟨b, off, none⟩) q cap, .slice (some ⟨b', off', none⟩) q cap']] w fun e w' => (∃ v l ok, e = .returned (.tuple #[v, .bool ok]) ∧ First3 q (diaB m j) l ok ∧ NSl w' v l) ∧ Below w.heap.size w w' := by
  have B1 : Below w.heap.size w (w.alloc (.cells #[.int .i64 (q : Nat), .slice (some ⟨b, off, none⟩) q cap, .slice (some ⟨b', off', none⟩) q cap'] 24)) := (Below.refl _ _).alloc (Nat.le_refl _) _
  have HB1 : Hid (Below w.heap.size w (w.alloc (.cells #[.int .i64 (q : Nat), .slice (some ⟨b, off, none⟩) q cap, .slice (some ⟨b', off', none⟩) q cap'] 24))) := B1
  have L0 := LB.new w (q : Nat) (some ⟨b, off, none⟩) q cap (some ⟨b', off', none⟩) q cap'
  have HQ : Hid (Clo q 31 #[.pointer (some ⟨w.heap.size, 0, none⟩)] (diaB m j) _) := rdia1_any q w.heap.size b off cap b' off' cap' R R' m j _ L0 (ht.step B1) (ho.step B1)
  clear B1 L0 ht ho
  go_enter Tryd.func11, Tryd.ntmps11
  go_wp2_with fail
  refine (triple_any q 31 _ _ _ h40 ent_rdia HQ.out).mono ?_
  rintro e w2 ⟨⟨v, l, ok, rfl, hf, hn⟩, hb2⟩
  have HB3 : Hid (Below w.heap.size w w2) := Below.then HB1.out hb2
  have HF : Hid (First3 q (diaB m j) l ok) := hf
  have HN : Hid (NSl w2 v l) := hn
  clear hb2 hf hn HB1 HQ
  go_wp2_with fail
  go_ret2
  exact ⟨⟨v, l, ok, rfl, HF.out, HN.out⟩, HB3.out⟩
end Go.Proofs.YtcngjmbiinifnaaDoor
