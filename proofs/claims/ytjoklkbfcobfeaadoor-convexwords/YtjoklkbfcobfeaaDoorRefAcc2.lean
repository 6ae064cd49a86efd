/-
  What the reference's IsAccessible answers. Conditions: as the theorem says.
-/
import Derived.Test.YtjoklkbfcobfeaaDoorRefAcc
namespace Go.Proofs.YtjoklkbfcobfeaaDoor
open Go.RowKit

theorem in_as (s p : Nat) (v : Bool) (w : World) (hs : s < 9223372036854775808) (hp : p < 63) (h : s.testBit p = v) :
    Calls Tryd.prog 37 #[.int .i64 s, .int .i64 p] w fun e w' => e = .returned (.bool v) ∧ w' = w :=
  (in_any s p w hs hp).mono fun _ _ ⟨h1, h2⟩ => ⟨by rw [h1, h], h2.symm⟩
theorem tog_quiet (a b : Nat) (w : World) (ha : a < 1024) (hb : b < 1024) :
    Calls Tryd.prog 32 #[.int .i64 a, .int .i64 b] w fun e w' => e = .returned (.int .i64 ((a ||| b : Nat) : Int)) ∧ w' = w :=
  (together_any a b w ha hb).mono fun _ _ ⟨h1, h2⟩ => ⟨h1, h2.symm⟩
/-- Less, when the first p points were looked at. -/
def lsB (M : Nat → Bool) (s p : Nat) : Bool := (s == 0) || stp M s p
theorem lsB_zero (M : Nat → Bool) (s : Nat) : lsB M s 0 = (s == 0) := by simp [lsB, stp, anyB]
theorem lsB_succ (M : Nat → Bool) (s p : Nat) : lsB M s (p + 1) = (lsB M s p || (s.testBit p && M (s - pw p))) := by
  unfold lsB
  rw [show stp M s (p + 1) = (stp M s p || (s.testBit p && M (s - pw p))) from rfl, Bool.or_assoc]

set_option maxHeartbeats 4000000 in
theorem refAcc_any (n : Nat) (a : Option Addr) (len cap : Nat) (g : Nat → Nat) (w : World) (h10 : n ≤ 10) (hl : len ≤ maxLen) (hg : ∀ k, k < len → g k < pw n) (hr : Row w a len (fun k => (g k : Nat))) :
    Calls Tryd.prog 14 #[.agg #[.int .i64 (n : Nat), .slice a len cap]] w fun e w' => e = .returned (.bool (acc g len)) ∧ Below w.heap.size w w' := by
  have hpn := pw_le n h10
  obtain ⟨W0, HW0⟩ : ∃ W0, Hid (W0 = w.alloc (.cells #[.int .i64 (n : Nat), .slice a len cap] 24)) := ⟨_, rfl⟩
  have HB0 : Hid (Below w.heap.size w W0) := by rw [HW0.out]; exact (Below.refl _ _).alloc (Nat.le_refl _) _
  have K0 : Held W0 w.heap.size n a len cap (fun k => (g k : Nat)) := by rw [HW0.out]; exact Fam.box hr
  have HTB := (show Hid (Calls Tryd.prog 36 #[.agg #[.int .i64 (n : Nat), .slice a len cap]] W0 _) from table_any n a len cap g W0 h10 hl hg K0.row)
  unfold maxLen at hl
  have HG : Hid (∀ k, k < len → g k < pw n) := hg
  obtain ⟨V, HV⟩ : ∃ V, Hid (V = acc g len) := ⟨_, rfl⟩
  rw [← HV.out]
  obtain ⟨M, HM⟩ : ∃ M, Hid (M = mem g len) := ⟨_, rfl⟩
  have k0 := K0.c0
  have k1 := K0.c1
  clear hr hg
  go_enter Tryd.func14, Tryd.ntmps14
  go_wp2_with fail
  rw [← HW0.out]
  refine HTB.out.mono ?_
  rintro e w1 ⟨⟨B, rfl, hB, ho1⟩, hb1⟩
  rw [← HM.out] at ho1
  have HB1 : Hid (Below W0.heap.size W0 w1) := hb1
  have HO1 : Hid (BOwn w1 B (pw n) M) := ho1
  have hp0 : (0 : Int) < ((pw n : Nat) : Int) := by have := pw_pos n; omega
  have hcm := (ho1 0 (pw_pos n)).1
  clear hb1 ho1 HTB k0 k1 hB
  cases hm0 : M 0
  · rw [hm0] at hcm
    have HE : Hid (V = false) := by
      rw [Hid, HV.out]
      exact acc_no fun h => by
        have := h.1
        rw [← HM.out, hm0] at this; cases this
    go_wp2_with fail
    go_ret
    exact ⟨by rw [HE.out]; rfl, Below.then HB0.out HB1.out⟩
  · rw [hm0] at hcm
    have HM0 : Hid (M 0 = true) := hm0
    clear hm0
    go_wp2_with fail
    go_loopw [4] (fun i wx => ∃ x : Nat, x ≤ len ∧ i = .int .i64 x ∧ Hid (∀ j, j < x → (g j = 0 ∨ stp M (g j) 10 = true) ∧ ∀ i', i' < j → M (g j ||| g i') = true) ∧ Hid (BOwn wx B (pw n) M) ∧ Hid (Below W0.heap.size W0 wx)) (fun i _ => len - (intOf i).toNat)
    case atStart => exact ⟨0, Nat.zero_le _, rfl, upto_zero, HO1, HB1⟩
    case round =>
      clear HO1 HB1 hcm
      obtain ⟨x, hx, rfl, hok, HO, HBx⟩ := hrel
      have K1 := K0.step HBx.out
      have k0 := K1.c0
      have k1 := K1.c1
      by_cases hlt : x < len
      · obtain ⟨b2, off, rfl, hc⟩ := K1.row x hlt
        have hc2 : wr.cell? ⟨b2, off + x, none⟩ = some (.int .i64 (g x : Nat)) := hc
        have hlt' : (x : Int) < (len : Int) := by omega
        have hgx := HG.out x hlt
        have h0 : (((g x : Nat) : Int) == 0) = lsB M (g x) 0 := by rw [lsB_zero, Bool.eq_iff_iff]; simp
        obtain ⟨s, HS⟩ : ∃ s, Hid (s = g x) := ⟨_, rfl⟩
        rw [← HS.out] at hc2 hgx h0
        clear hc
        go_wp2_with fail
        try rw [h0]
        clear h0
        have hc2' := hc2
        clear hc2 K1 k0 k1
        go_loopw [5, 6] (fun l p wy => ∃ y : Nat, y ≤ n ∧ p = .int .i64 y ∧ l = .bool (lsB M s y) ∧ Hid (BOwn wy B (pw n) M) ∧ Hid (Below W0.heap.size W0 wy)) (fun _ p _ => n - (intOf p).toNat)
        case atStart => exact ⟨0, Nat.zero_le _, rfl, rfl, HO, HBx⟩
        case round =>
          clear HO HBx hc2'
          obtain ⟨y, hy, rfl, rfl, HO, HBx⟩ := hrel
          have K1 := K0.step HBx.out
          have k0 := K1.c0
          have k1 := K1.c1
          obtain ⟨b3, off3, e3, hc⟩ := K1.row x hlt
          simp at e3
          obtain ⟨rfl, rfl⟩ := e3
          have hc2 : wr.cell? ⟨b2, off + x, none⟩ = some (.int .i64 (s : Nat)) := by rw [HS.out]; exact hc
          clear hc
          by_cases hlt2 : y < n
          · have hlt2' : (y : Int) < (n : Int) := by omega
            have HLS : Hid (lsB M s (y + 1) = (lsB M s y || (s.testBit y && M (s - pw y)))) := lsB_succ M s y
            rcases (Bool.eq_false_or_eq_true (lsB M s y)).symm with hls | hls
            · rcases (Bool.eq_false_or_eq_true (s.testBit y)).symm with hb | hb
              · rw [hls]
                go_wp2_with fail
                go_big_quiet (first | (go_at_call 37; exact Calls.quiet_of_same (in_as s y false _ (by omega) (by omega) hb)))
                go_wp2_with fail
                go_roundw
                case rel => exact ⟨y + 1, by omega, by go_num, by rw [HLS.out, hls, hb]; rfl, HO.out.step (below_drewN (Below.refl _ _) _), below_drewN HBx.out _⟩
                case measure => simp [intOf]; omega
              · have hy10 : y < 10 := by omega
                have hs1 : s < 1024 := by omega
                have hsub := sub_lt' hs1 hy10 hb
                have hple := pw_le_bit hb
                obtain ⟨d, hd⟩ : ∃ d, s - pw y = d := ⟨_, rfl⟩
                rw [hd] at hsub
                have HD : Hid (s - pw y = d) := hd
                have hds : ((s : Nat) : Int) - ((pw y : Nat) : Int) = (d : Int) := by omega
                have hdn : d < pw n := by omega
                have hdi : (d : Int) < ((pw n : Nat) : Int) := by omega
                have hcm := (HO.out d hdn).1
                obtain ⟨md, HMD⟩ : ∃ md, Hid (md = M d) := ⟨_, rfl⟩
                rw [← HMD.out] at hcm
                rw [hls]
                clear hd hple
                go_wp2_with fail
                go_big_quiet (first | (go_at_call 37; exact Calls.quiet_of_same (in_as s y true _ (by omega) (by omega) hb)) | (go_at_call 31; exact Calls.quiet_of_same (bit_quiet y _ (by omega))))
                go_wp2_with fail
                go_roundw
                case rel => exact ⟨y + 1, by omega, by go_num, by rw [HLS.out, hls, hb, HD.out, ← HMD.out]; rfl, HO.out.step (below_drewN (Below.refl _ _) _), below_drewN HBx.out _⟩
                case measure => simp [intOf]; omega
            · rw [hls]
              go_wp2_with fail
              go_big_quiet (fail)
              go_wp2_with fail
              go_roundw
              case rel => exact ⟨y + 1, by omega, by go_num, by rw [HLS.out, hls]; rfl, HO.out.step (below_drewN (Below.refl _ _) _), below_drewN HBx.out _⟩
              case measure => simp [intOf]; omega
          · obtain rfl : y = n := by omega
            have HLE : Hid (lsB M s y = true ↔ (g x = 0 ∨ stp M (g x) 10 = true)) := by
              rw [Hid, HS.out]
              unfold lsB
              rw [Bool.or_eq_true, stp_ten h10 (by rw [← HS.out]; exact hgx)]
              simp
            rcases (Bool.eq_false_or_eq_true (lsB M s y)).symm with hls | hls
            · have HE : Hid (V = false) := by
                rw [Hid, HV.out]
                refine acc_no fun h => ?_
                have h2 := h.2.1 x hlt
                rw [← HM.out] at h2
                rw [HLE.out.2 h2] at hls; cases hls
              rw [hls]
              clear hok
              go_wp2_with fail
              go_ret
              exact ⟨by rw [HE.out]; rfl, Below.then HB0.out HBx.out⟩
            · have HL : Hid (g x = 0 ∨ stp M (g x) 10 = true) := HLE.out.1 hls
              rw [hls]
              go_wp2_with fail
              go_loopw [7] (fun i wy => ∃ z : Nat, z ≤ x ∧ i = .int .i64 z ∧ Hid (∀ i', i' < z → M (g x ||| g i') = true) ∧ Hid (BOwn wy B (pw y) M) ∧ Hid (Below W0.heap.size W0 wy)) (fun i _ => x - (intOf i).toNat)
              case atStart => exact ⟨0, Nat.zero_le _, rfl, upto_zero, HO, HBx⟩
              case round =>
                clear HO HBx K1 k0 k1 hc2
                obtain ⟨z, hz, rfl, hok2, HO, HBx⟩ := hrel
                have K1 := K0.step HBx.out
                have k0 := K1.c0
                have k1 := K1.c1
                by_cases hlt3 : z < x
                · have hlt3' : (z : Int) < (x : Int) := by omega
                  have hlt4' : (z : Int) < (len : Int) := by omega
                  obtain ⟨b3, off3, e3, hc⟩ := K1.row x hlt
                  simp at e3
                  obtain ⟨rfl, rfl⟩ := e3
                  have hc2 : wr.cell? ⟨b2, off + x, none⟩ = some (.int .i64 (s : Nat)) := by rw [HS.out]; exact hc
                  obtain ⟨b3, off3, e3, hd⟩ := K1.row z (by omega)
                  simp at e3
                  obtain ⟨rfl, rfl⟩ := e3
                  have hc3 : wr.cell? ⟨b2, off + z, none⟩ = some (.int .i64 (g z : Nat)) := hd
                  have hgz := HG.out z (by omega)
                  have hol : s ||| g z < pw y := Nat.or_lt_two_pow hgx hgz
                  obtain ⟨t, HT⟩ : ∃ t, Hid (t = g z) := ⟨_, rfl⟩
                  rw [← HT.out] at hc3 hgz hol
                  obtain ⟨q, HQ⟩ : ∃ q, Hid (s ||| t = q) := ⟨_, rfl⟩
                  have HTG := (show Hid (∀ w', Calls Tryd.prog 32 #[.int .i64 (s : Nat), .int .i64 (t : Nat)] w' fun e w'' => e = .returned (.int .i64 (q : Nat)) ∧ w'' = w') from fun w' => by rw [← HQ.out]; exact tog_quiet s t w' (by omega) (by omega))
                  rw [HQ.out] at hol
                  have hqi : (q : Int) < ((pw y : Nat) : Int) := by omega
                  have hcm := (HO.out q hol).1
                  clear hc hd
                  cases hmq : M q
                  · rw [hmq] at hcm
                    have HE : Hid (V = false) := by
                      rw [Hid, HV.out]
                      refine acc_no fun h => ?_
                      have := h.2.2 x z hlt (by omega)
                      rw [← HS.out, ← HT.out, HQ.out, ← HM.out, hmq] at this; cases this
                    clear hok hok2
                    go_wp2_with fail
                    go_big_quiet (first | (go_at_call 32; exact Calls.quiet_of_same (HTG.out _)))
                    go_wp2_with fail
                    go_ret
                    exact ⟨by rw [HE.out]; rfl, Below.then HB0.out (below_drewN HBx.out _)⟩
                  · rw [hmq] at hcm
                    have HN : Hid (∀ i', i' < z + 1 → M (g x ||| g i') = true) := upto_succ hok2.out (by rw [← HS.out, ← HT.out, HQ.out]; exact hmq)
                    clear hok2
                    go_wp2_with fail
                    go_big_quiet (first | (go_at_call 32; exact Calls.quiet_of_same (HTG.out _)))
                    go_wp2_with fail
                    go_roundw
                    case rel => exact ⟨z + 1, by omega, by go_num, HN, HO.out.step (below_drewN (Below.refl _ _) _), below_drewN HBx.out _⟩
                    case measure => simp [intOf]; omega
                · obtain rfl : z = x := by omega
                  have HN : Hid (∀ j, j < z + 1 → (g j = 0 ∨ stp M (g j) 10 = true) ∧ ∀ i', i' < j → M (g j ||| g i') = true) := upto_succ hok.out ⟨HL.out, hok2.out⟩
                  clear hok hok2
                  go_wp2_with fail
                  go_roundw
                  case rel => exact ⟨z + 1, by omega, by go_num, HN, HO, HBx⟩
                  case measure => simp [intOf]; omega
      · obtain rfl : x = len := by omega
        have HE : Hid (V = true) := by
          rw [Hid, HV.out]
          refine acc_iff.2 ⟨by rw [← HM.out]; exact HM0.out, fun j hj => ?_, fun k j hk hj => ?_⟩
          · rw [← HM.out]; exact (hok.out j hj).1
          · rcases Nat.lt_trichotomy j k with h | h | h
            · rw [← HM.out]; exact (hok.out k hk).2 j h
            · subst h; rw [Nat.or_self]; exact mem_at hj
            · rw [Nat.or_comm, ← HM.out]; exact (hok.out j hj).2 k h
        clear hok
        go_wp2_with fail
        go_ret
        exact ⟨by rw [HE.out]; rfl, Below.then HB0.out HBx.out⟩
end Go.Proofs.YtjoklkbfcobfeaaDoor
