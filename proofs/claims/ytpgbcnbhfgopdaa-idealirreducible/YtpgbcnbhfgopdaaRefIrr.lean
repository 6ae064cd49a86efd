/-
  What the reference's Under and IrreducibleOf answer. Conditions: tables of at most forty elements.
-/
import Derived.Test.YtpgbcnbhfgopdaaIrr
namespace Go.Proofs.Ytpgbcnbhfgopdaa
open Go.RowKit

theorem int_beq' (a b : Nat) : (((a : Nat) : Int) == ((b : Nat) : Int)) = (a == b) := by
  rw [Bool.eq_iff_iff]; simp; omega
set_option maxHeartbeats 1000000 in
theorem under_any (n b1 o1 ca : Nat) (b2 : Option Addr) (lb cb : Nat) (R1 : Nat → Nat × Nat × Nat) (m : Nat → Nat → Nat) (x y : Nat) (w : World) (v : Bool) (hv : leB m x y = v) (ht1 : Tb w b1 o1 n R1 m) (hx : x < n) (hy : y < n) :
    Calls Try.prog 31 #[.agg #[.int .i64 (n : Int), .slice (some ⟨b1, o1, none⟩) n ca, .slice b2 lb cb], .int .i64 (x : Nat), .int .i64 (y : Nat)] w fun e w' => e = .returned (.bool v) ∧ Below w.heap.size w w' := by
  have B1 : Below w.heap.size w (w.alloc (.cells #[.int .i64 (n : Int), .slice (some ⟨b1, o1, none⟩) n ca, .slice b2 lb cb] 27)) := (Below.refl _ _).alloc (Nat.le_refl _) _
  have ht := ht1.step B1
  have HB : Hid (Below w.heap.size w (w.alloc (.cells #[.int .i64 (n : Int), .slice (some ⟨b1, o1, none⟩) n ca, .slice b2 lb cb] 27))) := B1
  have r1 := (ht x hx).1
  have r2 := (ht x hx).2 y hy
  have i1 : (x : Int) < (n : Int) := by omega
  have i2 : (y : Int) < (n : Int) := by omega
  have hq : (((m x y : Nat) : Int) == ((x : Nat) : Int)) = v := by rw [int_beq']; exact hv
  clear ht ht1 B1 hv
  go_enter Try.func31, Try.ntmps31
  go_wp2_with fail
  go_ret
  exact ⟨rfl, HB.out⟩

set_option maxHeartbeats 8000000 in
theorem irrOf_any (n b1 o1 ca : Nat) (b2 : Option Addr) (lb cb : Nat) (R1 : Nat → Nat × Nat × Nat) (m : Nat → Nat → Nat) (w : World) (h40 : n ≤ 40) (ht1 : Tb w b1 o1 n R1 m) :
    Calls Try.prog 17 #[.agg #[.int .i64 (n : Int), .slice (some ⟨b1, o1, none⟩) n ca, .slice b2 lb cb]] w fun e w' => (∃ v, e = .returned v ∧ NSl w' v (filt (fun x => cntB (fun y => covB m x y n) n == 1) n)) ∧ Below w.heap.size w w' := by
  obtain ⟨i0, hi, hz0, hz1, hz2⟩ := info_parts Try.info3
  obtain ⟨W, HWE⟩ : ∃ W, Hid (W = w.alloc (.cells #[.int .i64 (n : Int), .slice (some ⟨b1, o1, none⟩) n ca, .slice b2 lb cb] 27)) := ⟨_, rfl⟩
  have B1 : Below w.heap.size w W := by rw [HWE.out]; exact (Below.refl _ _).alloc (Nat.le_refl _) _
  have L0 : LB W w.heap.size (n : Int) (some ⟨b1, o1, none⟩) n ca b2 lb cb := by rw [HWE.out]; exact LB.new w _ _ _ _ _ _ _
  have HT1 : Hid (∀ wx, Below W.heap.size W wx → Tb wx b1 o1 n R1 m) := fun wx h => (ht1.step B1).step h
  have HL : Hid (∀ wx, Below W.heap.size W wx → LB wx w.heap.size (n : Int) (some ⟨b1, o1, none⟩) n ca b2 lb cb) := fun wx h => L0.step h
  have HB0 : Hid (Below w.heap.size w W) := B1
  obtain ⟨I, HI⟩ : ∃ I : Nat → Bool, Hid (I = fun x => cntB (fun y => covB m x y n) n == 1) := ⟨_, rfl⟩
  have HIA : Hid (∀ x, (cntB (fun y => covB m x y n) n == 1) = I x) := fun x => by rw [HI.out]
  rw [← HI.out]
  clear ht1 B1 L0 HI
  go_enter Try.func17, Try.ntmps17
  go_wp2_with fail
  rw [← HWE.out]
  go_wp2_with fail
  clear HWE
  go_loopw [3, 4] (fun v i wx => ∃ x : Nat, x ≤ n ∧ i = .int .i64 x ∧ Hid (wx.ownsRow W.heap.size 3 1 v (filt I x).length (natVals (filt I x))) ∧ Hid (Below W.heap.size W wx)) (fun _ i _ => n - (intOf i).toNat)
  case atStart => exact ⟨0, Nat.zero_le _, rfl, World.ownsRow_nil _ _ _ _, Below.refl _ _⟩
  case round =>
    obtain ⟨x, hx, rfl, HOW, HW⟩ := hrel
    have L1 := HL.out _ HW.out
    have l0 := L1.1
    by_cases hxn : x < n
    · go_wp2_with fail
      clear l0 L1
      have hWO := HW
      go_loopw [5, 6] (fun c i wx => ∃ y : Nat, y ≤ n ∧ i = .int .i64 y ∧ c = .int .i64 (cntB (fun y => covB m x y n) y : Nat) ∧ Hid (wx.ownsRow W.heap.size 3 1 u3 (filt I x).length (natVals (filt I x))) ∧ Hid (Below W.heap.size W wx)) (fun _ i _ => n - (intOf i).toNat)
      case atStart => exact ⟨0, Nat.zero_le _, rfl, rfl, HOW, HW⟩
      case round =>
        clear HOW HW hWO
        obtain ⟨y, hy, rfl, rfl, HOW, HW⟩ := hrel
        have L1 := HL.out _ HW.out
        have l0 := L1.1
        have l1 := L1.2.1
        have l2 := L1.2.2
        by_cases hyn : y < n
        · by_cases eyx : y = x
          · have HN0 : Hid (covB m x y 0 = false) := show _ = _ from by simp [covB, eyx]
            have hq0 : ((y : Int) != (x : Int)) = false := by simp; omega
            clear eyx
            go_wp2_with fail
            clear l0 l1 l2 L1
            go_loopw [7, 8] (fun c i wx => ∃ z : Nat, z ≤ n ∧ i = .int .i64 z ∧ c = .bool (covB m x y z) ∧ Hid (wx.ownsRow W.heap.size 3 1 u3 (filt I x).length (natVals (filt I x))) ∧ Hid (Below W.heap.size W wx)) (fun _ i _ => n - (intOf i).toNat)
            case atStart => exact ⟨0, Nat.zero_le _, rfl, by rw [HN0.out], HOW, HW⟩
            case round =>
              clear HOW HW
              obtain ⟨z, hz, rfl, rfl, HOZ, HW⟩ := hrel
              have L1 := HL.out _ HW.out
              have l0 := L1.1
              have l1 := L1.2.1
              have l2 := L1.2.2
              by_cases hzn : z < n
              · rcases hcv : covB m x y z with _ | _
                · have HN : Hid (covB m x y (z + 1) = false) := show _ = _ from by simp [covB, hcv]
                  go_wp2_with fail
                  go_roundw
                  case rel => exact ⟨z + 1, by omega, by go_num, by rw [HN.out], HOZ, HW⟩
                  case measure => simp [intOf]; omega
                · have HC : Hid (covB m x y z = true) := hcv
                  by_cases ezx : z = x
                  · have HN : Hid (covB m x y (z + 1) = true) := show (covB m x y z && covT m x y z) = true from by rw [hcv]; simp [covT, ezx]
                    have hq : ((z : Int) == (x : Int)) = true := by simp; omega
                    clear ezx
                    go_wp2_with fail
                    go_roundw
                    case rel => exact ⟨z + 1, by omega, by go_num, by rw [HN.out], HOZ, HW⟩
                    case measure => simp [intOf]; omega
                  · have hq : ((z : Int) == (x : Int)) = false := by simp; omega
                    by_cases ezy : z = y
                    · have HN : Hid (covB m x y (z + 1) = true) := show (covB m x y z && covT m x y z) = true from by rw [hcv]; simp [covT, ezy]
                      have hq2 : ((z : Int) == (y : Int)) = true := by simp; omega
                      clear ezx ezy
                      go_wp2_with fail
                      go_roundw
                      case rel => exact ⟨z + 1, by omega, by go_num, by rw [HN.out], HOZ, HW⟩
                      case measure => simp [intOf]; omega
                    · have hq2 : ((z : Int) == (y : Int)) = false := by simp; omega
                      rcases hu : leB m y z with _ | _
                      · have HN : Hid (covB m x y (z + 1) = true) := show _ = _ from by simp [covB, covT, hcv, hu]
                        clear ezx ezy
                        go_wp2_with fail
                        refine (under_any n b1 o1 ca b2 lb cb R1 m y z _ false hu (HT1.out _ HW.out) (by omega) (by omega)).mono ?_
                        rintro e w1 ⟨rfl, hb1⟩
                        have HO1 : Hid (w1.ownsRow W.heap.size 3 1 u3 (filt I x).length (natVals (filt I x))) := owns_below HOZ.out hb1
                        have HW1 : Hid (Below W.heap.size W w1) := Below.then HW.out hb1
                        have L1 := HL.out _ HW1.out
                        have p10 := L1.1
                        have p11 := L1.2.1
                        have p12 := L1.2.2
                        clear hb1 L1
                        go_wp2_with fail
                        go_roundw
                        case rel => exact ⟨z + 1, by omega, by go_num, by rw [HN.out], HO1, HW1⟩
                        case measure => simp [intOf]; omega
                      · rcases hu2 : leB m z x with _ | _
                        · have HN : Hid (covB m x y (z + 1) = true) := show _ = _ from by simp [covB, covT, hcv, hu2]
                          clear ezx ezy
                          go_wp2_with fail
                          refine (under_any n b1 o1 ca b2 lb cb R1 m y z _ true hu (HT1.out _ HW.out) (by omega) (by omega)).mono ?_
                          rintro e w1 ⟨rfl, hb1⟩
                          have HO1 : Hid (w1.ownsRow W.heap.size 3 1 u3 (filt I x).length (natVals (filt I x))) := owns_below HOZ.out hb1
                          have HW1 : Hid (Below W.heap.size W w1) := Below.then HW.out hb1
                          have L1 := HL.out _ HW1.out
                          have p10 := L1.1
                          have p11 := L1.2.1
                          have p12 := L1.2.2
                          clear hb1 L1
                          go_wp2_with fail
                          refine (under_any n b1 o1 ca b2 lb cb R1 m z x _ false hu2 (HT1.out _ HW1.out) (by omega) (by omega)).mono ?_
                          rintro e w2 ⟨rfl, hb2⟩
                          have HO2 : Hid (w2.ownsRow W.heap.size 3 1 u3 (filt I x).length (natVals (filt I x))) := owns_below HO1.out hb2
                          have HW2 : Hid (Below W.heap.size W w2) := Below.then HW1.out hb2
                          have L2 := HL.out _ HW2.out
                          have p20 := L2.1
                          have p21 := L2.2.1
                          have p22 := L2.2.2
                          clear hb2 L2
                          go_wp2_with fail
                          go_roundw
                          case rel => exact ⟨z + 1, by omega, by go_num, by rw [HN.out], HO2, HW2⟩
                          case measure => simp [intOf]; omega
                        · have HN : Hid (covB m x y (z + 1) = false) := show _ = _ from by simp [covB, covT, hcv, hu, hu2, ezx, ezy]
                          clear ezx ezy
                          go_wp2_with fail
                          refine (under_any n b1 o1 ca b2 lb cb R1 m y z _ true hu (HT1.out _ HW.out) (by omega) (by omega)).mono ?_
                          rintro e w1 ⟨rfl, hb1⟩
                          have HO1 : Hid (w1.ownsRow W.heap.size 3 1 u3 (filt I x).length (natVals (filt I x))) := owns_below HOZ.out hb1
                          have HW1 : Hid (Below W.heap.size W w1) := Below.then HW.out hb1
                          have L1 := HL.out _ HW1.out
                          have p10 := L1.1
                          have p11 := L1.2.1
                          have p12 := L1.2.2
                          clear hb1 L1
                          go_wp2_with fail
                          refine (under_any n b1 o1 ca b2 lb cb R1 m z x _ true hu2 (HT1.out _ HW1.out) (by omega) (by omega)).mono ?_
                          rintro e w2 ⟨rfl, hb2⟩
                          have HO2 : Hid (w2.ownsRow W.heap.size 3 1 u3 (filt I x).length (natVals (filt I x))) := owns_below HO1.out hb2
                          have HW2 : Hid (Below W.heap.size W w2) := Below.then HW1.out hb2
                          have L2 := HL.out _ HW2.out
                          have p20 := L2.1
                          have p21 := L2.2.1
                          have p22 := L2.2.2
                          clear hb2 L2
                          go_wp2_with fail
                          go_roundw
                          case rel => exact ⟨z + 1, by omega, by go_num, by rw [HN.out], HO2, HW2⟩
                          case measure => simp [intOf]; omega
              · obtain rfl : z = n := by omega
                rcases hcv : covB m x y z with _ | _
                · have HN : Hid (cntB (fun y => covB m x y z) (y + 1) = cntB (fun y => covB m x y z) y) := cntB_no hcv
                  go_wp2_with fail
                  go_roundw
                  case rel => exact ⟨y + 1, by omega, by go_num, by rw [HN.out], HOZ, HW⟩
                  case measure => simp [intOf]; omega
                · have HN : Hid (cntB (fun y => covB m x y z) (y + 1) = cntB (fun y => covB m x y z) y + 1) := cntB_yes hcv
                  have hcl := cntB_le (fun y => covB m x y z) y
                  go_wp2_with fail
                  go_roundw
                  case rel => exact ⟨y + 1, by omega, by go_num, by rw [HN.out]; go_num, HOZ, HW⟩
                  case measure => simp [intOf]; omega
          · have hq0 : ((y : Int) != (x : Int)) = true := by simp; omega
            obtain ⟨v0, hv0⟩ : ∃ v0, leB m y x = v0 := ⟨_, rfl⟩
            have HN0 : Hid (covB m x y 0 = v0) := show _ = _ from by simp [covB, eyx, hv0]
            clear eyx
            go_wp2_with fail
            refine (under_any n b1 o1 ca b2 lb cb R1 m y x _ v0 hv0 (HT1.out _ HW.out) hyn hxn).mono ?_
            rintro e w3 ⟨rfl, hb3⟩
            have HW3 : Hid (Below W.heap.size W w3) := Below.then HW.out hb3
            have HO3 : Hid (w3.ownsRow W.heap.size 3 1 u3 (filt I x).length (natVals (filt I x))) := owns_below HOW.out hb3
            clear hb3 HW HOW l0 l1 l2 L1 hv0
            go_wp2_with fail
            go_loopw [7, 8] (fun c i wx => ∃ z : Nat, z ≤ n ∧ i = .int .i64 z ∧ c = .bool (covB m x y z) ∧ Hid (wx.ownsRow W.heap.size 3 1 u3 (filt I x).length (natVals (filt I x))) ∧ Hid (Below W.heap.size W wx)) (fun _ i _ => n - (intOf i).toNat)
            case atStart => exact ⟨0, Nat.zero_le _, rfl, by rw [HN0.out], HO3, HW3⟩
            case round =>
              clear HO3 HW3
              obtain ⟨z, hz, rfl, rfl, HOZ, HW⟩ := hrel
              have L1 := HL.out _ HW.out
              have l0 := L1.1
              have l1 := L1.2.1
              have l2 := L1.2.2
              by_cases hzn : z < n
              · rcases hcv : covB m x y z with _ | _
                · have HN : Hid (covB m x y (z + 1) = false) := show _ = _ from by simp [covB, hcv]
                  go_wp2_with fail
                  go_roundw
                  case rel => exact ⟨z + 1, by omega, by go_num, by rw [HN.out], HOZ, HW⟩
                  case measure => simp [intOf]; omega
                · have HC : Hid (covB m x y z = true) := hcv
                  by_cases ezx : z = x
                  · have HN : Hid (covB m x y (z + 1) = true) := show (covB m x y z && covT m x y z) = true from by rw [hcv]; simp [covT, ezx]
                    have hq : ((z : Int) == (x : Int)) = true := by simp; omega
                    clear ezx
                    go_wp2_with fail
                    go_roundw
                    case rel => exact ⟨z + 1, by omega, by go_num, by rw [HN.out], HOZ, HW⟩
                    case measure => simp [intOf]; omega
                  · have hq : ((z : Int) == (x : Int)) = false := by simp; omega
                    by_cases ezy : z = y
                    · have HN : Hid (covB m x y (z + 1) = true) := show (covB m x y z && covT m x y z) = true from by rw [hcv]; simp [covT, ezy]
                      have hq2 : ((z : Int) == (y : Int)) = true := by simp; omega
                      clear ezx ezy
                      go_wp2_with fail
                      go_roundw
                      case rel => exact ⟨z + 1, by omega, by go_num, by rw [HN.out], HOZ, HW⟩
                      case measure => simp [intOf]; omega
                    · have hq2 : ((z : Int) == (y : Int)) = false := by simp; omega
                      rcases hu : leB m y z with _ | _
                      · have HN : Hid (covB m x y (z + 1) = true) := show _ = _ from by simp [covB, covT, hcv, hu]
                        clear ezx ezy
                        go_wp2_with fail
                        refine (under_any n b1 o1 ca b2 lb cb R1 m y z _ false hu (HT1.out _ HW.out) (by omega) (by omega)).mono ?_
                        rintro e w1 ⟨rfl, hb1⟩
                        have HO1 : Hid (w1.ownsRow W.heap.size 3 1 u3 (filt I x).length (natVals (filt I x))) := owns_below HOZ.out hb1
                        have HW1 : Hid (Below W.heap.size W w1) := Below.then HW.out hb1
                        have L1 := HL.out _ HW1.out
                        have p10 := L1.1
                        have p11 := L1.2.1
                        have p12 := L1.2.2
                        clear hb1 L1
                        go_wp2_with fail
                        go_roundw
                        case rel => exact ⟨z + 1, by omega, by go_num, by rw [HN.out], HO1, HW1⟩
                        case measure => simp [intOf]; omega
                      · rcases hu2 : leB m z x with _ | _
                        · have HN : Hid (covB m x y (z + 1) = true) := show _ = _ from by simp [covB, covT, hcv, hu2]
                          clear ezx ezy
                          go_wp2_with fail
                          refine (under_any n b1 o1 ca b2 lb cb R1 m y z _ true hu (HT1.out _ HW.out) (by omega) (by omega)).mono ?_
                          rintro e w1 ⟨rfl, hb1⟩
                          have HO1 : Hid (w1.ownsRow W.heap.size 3 1 u3 (filt I x).length (natVals (filt I x))) := owns_below HOZ.out hb1
                          have HW1 : Hid (Below W.heap.size W w1) := Below.then HW.out hb1
                          have L1 := HL.out _ HW1.out
                          have p10 := L1.1
                          have p11 := L1.2.1
                          have p12 := L1.2.2
                          clear hb1 L1
                          go_wp2_with fail
                          refine (under_any n b1 o1 ca b2 lb cb R1 m z x _ false hu2 (HT1.out _ HW1.out) (by omega) (by omega)).mono ?_
                          rintro e w2 ⟨rfl, hb2⟩
                          have HO2 : Hid (w2.ownsRow W.heap.size 3 1 u3 (filt I x).length (natVals (filt I x))) := owns_below HO1.out hb2
                          have HW2 : Hid (Below W.heap.size W w2) := Below.then HW1.out hb2
                          have L2 := HL.out _ HW2.out
                          have p20 := L2.1
                          have p21 := L2.2.1
                          have p22 := L2.2.2
                          clear hb2 L2
                          go_wp2_with fail
                          go_roundw
                          case rel => exact ⟨z + 1, by omega, by go_num, by rw [HN.out], HO2, HW2⟩
                          case measure => simp [intOf]; omega
                        · have HN : Hid (covB m x y (z + 1) = false) := show _ = _ from by simp [covB, covT, hcv, hu, hu2, ezx, ezy]
                          clear ezx ezy
                          go_wp2_with fail
                          refine (under_any n b1 o1 ca b2 lb cb R1 m y z _ true hu (HT1.out _ HW.out) (by omega) (by omega)).mono ?_
                          rintro e w1 ⟨rfl, hb1⟩
                          have HO1 : Hid (w1.ownsRow W.heap.size 3 1 u3 (filt I x).length (natVals (filt I x))) := owns_below HOZ.out hb1
                          have HW1 : Hid (Below W.heap.size W w1) := Below.then HW.out hb1
                          have L1 := HL.out _ HW1.out
                          have p10 := L1.1
                          have p11 := L1.2.1
                          have p12 := L1.2.2
                          clear hb1 L1
                          go_wp2_with fail
                          refine (under_any n b1 o1 ca b2 lb cb R1 m z x _ true hu2 (HT1.out _ HW1.out) (by omega) (by omega)).mono ?_
                          rintro e w2 ⟨rfl, hb2⟩
                          have HO2 : Hid (w2.ownsRow W.heap.size 3 1 u3 (filt I x).length (natVals (filt I x))) := owns_below HO1.out hb2
                          have HW2 : Hid (Below W.heap.size W w2) := Below.then HW1.out hb2
                          have L2 := HL.out _ HW2.out
                          have p20 := L2.1
                          have p21 := L2.2.1
                          have p22 := L2.2.2
                          clear hb2 L2
                          go_wp2_with fail
                          go_roundw
                          case rel => exact ⟨z + 1, by omega, by go_num, by rw [HN.out], HO2, HW2⟩
                          case measure => simp [intOf]; omega
              · obtain rfl : z = n := by omega
                rcases hcv : covB m x y z with _ | _
                · have HN : Hid (cntB (fun y => covB m x y z) (y + 1) = cntB (fun y => covB m x y z) y) := cntB_no hcv
                  go_wp2_with fail
                  go_roundw
                  case rel => exact ⟨y + 1, by omega, by go_num, by rw [HN.out], HOZ, HW⟩
                  case measure => simp [intOf]; omega
                · have HN : Hid (cntB (fun y => covB m x y z) (y + 1) = cntB (fun y => covB m x y z) y + 1) := cntB_yes hcv
                  have hcl := cntB_le (fun y => covB m x y z) y
                  go_wp2_with fail
                  go_roundw
                  case rel => exact ⟨y + 1, by omega, by go_num, by rw [HN.out]; go_num, HOZ, HW⟩
                  case measure => simp [intOf]; omega
        · obtain rfl : y = n := by omega
          have hcmp : (((cntB (fun z => covB m x z y) y : Nat) : Int) == 1) = I x := by
            rw [← HIA.out x, Bool.eq_iff_iff]; simp; omega
          have hlen := filt_len I x
          rcases ho : I x with _ | _
          · have HN : Hid (filt I (x + 1) = filt I x) := filt_no ho
            rw [ho] at hcmp
            go_wp2_with fail
            go_roundw
            case rel => exact ⟨x + 1, by omega, by go_num, by rw [HN.out]; exact HOW.out, HW.out⟩
            case measure => simp [intOf]; omega
          · have HN : Hid (filt I (x + 1) = filt I x ++ [x]) := filt_yes ho
            rw [ho] at hcmp
            have hown := HOW.out
            have hsz := HW.out.size
            clear L1 l1 l2
            generalize filt I x = P at *
            go_wp2_with (at_builtin; refine wpList_append_own _ rfl _ _ 22 rfl W.heap.size 3 i0 (.int .i64 0) 1 8 Try.underlying22 hi hz0 hz1 hz2 rfl (by decide) _ _ _ rfl (hown.alloc _) ⟨wr.heap.size, 0, none⟩ 1 1 [.int .i64 (x : Nat)] rfl rfl ?c1 ?c2 ?c3 ?c4 ?c5 ?_)
            case c1 =>
              intro j u hj
              match j, hj with
              | 0, hj => simp at hj; subst hj; simp [Addr.add]
            case c2 => intro u hu; simp at hu; subst hu; rfl
            case c3 => unfold maxLen; omega
            case c4 => omega
            case c5 => simp; omega
            intro v' w6 hown' hgrow _
            have HW6 : Hid (Below W.heap.size W w6) := (HW.out.alloc hsz _).grown hgrow (by simp; omega) (owns_block hown)
            have HO6 : Hid (w6.ownsRow W.heap.size 3 1 v' (P ++ [x]).length (natVals (P ++ [x]))) := by
              rw [natVals_append, List.length_append]; exact hown'
            clear hown' hgrow hown HOW HW
            go_wp2_with fail
            go_roundw
            case rel => exact ⟨x + 1, by omega, by go_num, by rw [HN.out]; exact HO6.out, HW6.out⟩
            case measure => simp [intOf]; omega
    · obtain rfl : x = n := by omega
      have HF : Hid (NSl wr u3 (filt I x)) := owns_nats HOW.out
      clear HOW L1
      go_wp2_with fail
      go_ret
      exact ⟨⟨_, rfl, HF.out⟩, Below.then HB0.out HW.out⟩
end Go.Proofs.Ytpgbcnbhfgopdaa
