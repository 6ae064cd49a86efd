/-
  For every number of workers and every list of events hasselaw.ClockMattern returns true, and writes nothing that was there. Conditions: a slice that reads as a slice of events, and has room for them; the table of the least bits.
-/
import Derived.Test.YtomoodpgmkjacabDoorMaM
namespace Go.Proofs.YtomoodpgmkjacabDoor
set_option maxRecDepth 100000
open Go.RowKit

theorem less_as (n : Int) (a : Option Addr) (len cap : Nat) (g : Nat → Nat) (i j : Nat) (b : Bool) (w : World) (hb : (g j).testBit i = b) (hl : len ≤ 10) (hg : ∀ k, k < len → g k < 1024) (hr : Row w a len (fun k => (g k : Nat))) (hi : i < 63) (hj : j < len) :
    Calls Tryd.prog 7 #[.agg #[.int .i64 n, .slice a len cap], .int .i64 i, .int .i64 j] w fun e w' => e = .returned (.bool b) ∧ Below w.heap.size w w' := by
  rw [← hb]; exact less_any n a len cap g i j w hl hg hr hi hj
set_option maxHeartbeats 4000000 in
theorem clockMattern_any (Wk : Int) (a : Option Addr) (len cap : Nat) (E : Nat → Int × Int × Int) (w : World) (hl : len ≤ maxLen) (hc : len ≤ cap) (hr : ERow w a len E) (hT : Tab w) :
    Calls Tryd.prog 3 #[.int .i64 Wk, .slice a len cap] w fun e w' => e = .returned (.bool true) ∧ Below w.heap.size w w' := by
  have HR : Hid (ERow w a len E) := hr
  have HL : Hid (len ≤ maxLen) := hl
  have HT : Hid (Tab w) := hT
  clear hr hl hT
  go_enter Tryd.func3, Tryd.ntmps3
  go_wp2_with fail
  refine (clockBegun_any _).mono ?_
  rintro e w0 ⟨rfl, hb0⟩
  have HB0 : Hid (Below w.heap.size w w0) := hb0
  clear hb0
  go_wp2_with fail
  refine (ahead_any Wk a len cap E _ HL.out hc (HR.out.below HB0.out)).mono ?_
  rintro e w1 ⟨⟨c, x, hck, rfl, hx⟩, hb1⟩
  have HB1 : Hid (Below w.heap.size w w1) := Below.then HB0.out hb1
  have HC : Hid (CkE Wk len E c) := hck
  clear hb1 hck HB0
  rcases hx with ⟨h0, rfl⟩ | ⟨rfl, b, hbs, rfl, hO⟩
  · have HB2 : Hid (∀ o, Below w.heap.size w (w1.alloc o)) := fun o => HB1.out.alloc HB1.out.size o
    unfold noOrder
    go_wp2_with fail
    refine (counts_any Wk a len cap E _ HL.out hc (HR.out.below (HB2.out _)) (HT.out.step (HB2.out _))).mono ?_
    rintro e w2 ⟨⟨d, v, hd, rfl, hv⟩, hb2⟩
    obtain rfl : d = c := hd.unique HC.out
    have HB3 : Hid (Below w.heap.size w w2) := Below.then (HB2.out _) hb2
    have h0' : (d != 0) = true := by simpa using h0
    clear hb2 hd hv
    go_wp2_with fail
    go_ret
    exact ⟨rfl, HB3.out⟩
  · obtain ⟨⟨hW1, hW4, h10⟩, hev⟩ := HC.out.good
    have HSM : Hid (∀ k, k < len → ahd E len k < 1024) := fun k hk => Nat.lt_of_lt_of_le (ahd_sm E len k hk) (pw_le len h10)
    have bA := (Below.refl w1.heap.size w1).alloc (Nat.le_refl _) (.cells #[.int .i64 (len : Int), .slice (some ⟨b, 0, none⟩) len len] 26)
    obtain ⟨W, HW⟩ : ∃ W, Hid (w1.alloc (.cells #[.int .i64 (len : Int), .slice (some ⟨b, 0, none⟩) len len] 26) = W) := ⟨_, rfl⟩
    obtain ⟨X, HXE⟩ : ∃ X, Hid (w1.heap.size = X) := ⟨_, rfl⟩
    have HH : Hid (Held W X (len : Int) (some ⟨b, 0, none⟩) len len (fun k => (ahd E len k : Nat))) := by rw [← HW.out, ← HXE.out]; exact Held.box hO.row
    have HB2 : Hid (Below w.heap.size w W) := by rw [← HW.out]; exact Below.then HB1.out bA
    have HEV : Hid (∀ j, j < len → EvIs Wk E j 0) := hev
    clear hO bA HB1 hev
    go_upto_region 4 with fail
    rw [HW.out, HXE.out]
    clear HW HXE
    go_wp2_with fail
    refine (counts_any Wk a len cap E _ HL.out hc (HR.out.below HB2.out) (HT.out.step HB2.out)).mono ?_
    rintro e w2 ⟨⟨d, v, hd, rfl, hv⟩, hb2⟩
    obtain rfl : d = 0 := hd.unique HC.out
    have HB3 : Hid (Below w.heap.size w w2) := Below.then HB2.out hb2
    have HH2 : Hid (Held w2 X (len : Int) (some ⟨b, 0, none⟩) len len (fun k => (ahd E len k : Nat))) := HH.out.step hb2
    rcases hv with ⟨h, _⟩ | ⟨_, Wn, B, r, rfl, rfl, hM⟩
    · exact absurd rfl h
    have HM : Hid (CM w2 B r len Wn len (cts E len)) := hM
    have HMT : Hid (∀ i k, i < len → k < len → nb E len i k Wn = (ahd E len k).testBit i) := fun i k hi hk => mattern h10 HEV.out hi hk
    clear hb2 hd hM HH HB2
    go_wp2_with fail
    go_loopw [9] (fun t wx => ∃ i : Nat, i ≤ len ∧ t = .int .i64 i ∧ Hid (Below w2.heap.size w2 wx)) (fun t _ => len - (intOf t).toNat)
    case atStart => exact ⟨0, Nat.zero_le _, rfl, Below.refl _ _⟩
    case round =>
      obtain ⟨i, hi, rfl, hB⟩ := hrel
      by_cases hlt : i < len
      · have hlt' : (i : Int) < (len : Int) := by omega
        have cB := (HM.out.step hB.out).cells i hlt
        go_wp2_with fail
        go_roundw
        case rel => exact ⟨i + 1, by omega, by go_num, hB.out⟩
        case measure => simp [intOf]; omega
      · obtain rfl : i = len := by omega
        have HBQ := hB
        clear hB
        go_wp2_with fail
        go_loopw [10] (fun t wx => ∃ i1 : Nat, i1 ≤ i ∧ t = .int .i64 i1 ∧ Hid (Below w2.heap.size w2 wx)) (fun t _ => i - (intOf t).toNat)
        case atStart => exact ⟨0, Nat.zero_le _, rfl, HBQ.out⟩
        case round =>
          obtain ⟨j, hj, rfl, hB⟩ := hrel
          clear HBQ
          by_cases hjl : j < i
          · have hjl' : (j : Int) < (i : Int) := by omega
            go_wp2_with fail
            go_loopw [11] (fun t wx => ∃ k : Nat, k ≤ i ∧ t = .int .i64 k ∧ Hid (Below w2.heap.size w2 wx)) (fun t _ => i - (intOf t).toNat)
            case atStart => exact ⟨0, Nat.zero_le _, rfl, hB.out⟩
            case round =>
              obtain ⟨k, hk, rfl, hBy⟩ := hrel
              clear hB
              by_cases hkl : k < i
              · have hkl' : (k : Int) < (i : Int) := by omega
                have hb0 : ((j : Int) != (k : Int)) = nb E i j k 0 := by
                  rw [Bool.eq_iff_iff]; simp [nb]; omega
                obtain ⟨B0, hB0⟩ : ∃ B0, nb E i j k 0 = B0 := ⟨_, rfl⟩
                rw [hB0] at hb0
                have HBY := hBy
                clear hBy
                go_wp2_with fail
                go_loopw [12, 13] (fun s t wx => ∃ m : Nat, m ≤ Wn ∧ t = .int .i64 m ∧ s = .bool (nb E i j k m) ∧ Hid (Below w2.heap.size w2 wx)) (fun _ t _ => Wn - (intOf t).toNat)
                case atStart => exact ⟨0, Nat.zero_le _, rfl, by rw [hB0], HBY.out⟩
                case round =>
                  obtain ⟨m, hm, rfl, rfl, hBz⟩ := hrel
                  clear HBY hb0 hB0
                  by_cases hml : m < Wn
                  · have hml' : (m : Int) < (Wn : Int) := by omega
                    have hs : nb E i j k (m + 1) = (nb E i j k m && decide (cts E i j m ≤ cts E i k m)) := rfl
                    rcases (Bool.eq_false_or_eq_true (nb E i j k m)).symm with g0 | g0
                    · have HN : Hid (nb E i j k (m + 1) = false) := by rw [hs, g0]; rfl
                      rw [g0]
                      clear hs
                      go_wp2_with fail
                      go_quiet (fail)
                      go_wp2_with fail
                      go_roundw
                      case rel => exact ⟨m + 1, by omega, by go_num, by rw [HN.out], below_drewN hBz.out _⟩
                      case measure => simp [intOf]; omega
                    · have cM := HM.out.step hBz.out
                      have c1 := cM.cells j hjl
                      have c2 := cM.cells k hkl
                      have d1 := (cM.rows j hjl m hml).1
                      have d2 := (cM.rows k hkl m hml).1
                      clear cM
                      rw [g0]
                      by_cases hle : cts E i j m ≤ cts E i k m
                      · have HN : Hid (nb E i j k (m + 1) = true) := hs.trans (by rw [g0]; simpa using hle)
                        have HLE : Hid (cts E i j m ≤ cts E i k m) := hle
                        have hle' : decide (((cts E i j m : Nat) : Int) ≤ ((cts E i k m : Nat) : Int)) = true := by simpa using hle
                        clear hs hle
                        generalize cts E i j m = v1 at *
                        generalize cts E i k m = v2 at *
                        go_wp2_with fail
                        go_quiet (fail)
                        go_wp2_with fail
                        go_roundw
                        case rel => exact ⟨m + 1, by omega, by go_num, by rw [HN.out]; first | rfl | (congr 1; simpa using HLE.out), below_drewN hBz.out _⟩
                        case measure => simp [intOf]; omega
                      · have HN : Hid (nb E i j k (m + 1) = false) := hs.trans (by rw [g0]; simpa using hle)
                        have HLE : Hid (¬ cts E i j m ≤ cts E i k m) := hle
                        have hle' : decide (((cts E i j m : Nat) : Int) ≤ ((cts E i k m : Nat) : Int)) = false := by simpa using hle
                        clear hs hle
                        generalize cts E i j m = v1 at *
                        generalize cts E i k m = v2 at *
                        go_wp2_with fail
                        go_quiet (fail)
                        go_wp2_with fail
                        go_roundw
                        case rel => exact ⟨m + 1, by omega, by go_num, by rw [HN.out]; first | rfl | (congr 1; simpa using HLE.out), below_drewN hBz.out _⟩
                        case measure => simp [intOf]; omega
                  · obtain rfl : m = Wn := by omega
                    have hmt := HMT.out j k hjl hkl
                    have k0 := (HH2.out.step hBz.out).c0
                    have k1 := (HH2.out.step hBz.out).c1
                    obtain ⟨bb, hbb⟩ : ∃ bb, (ahd E i k).testBit j = bb := ⟨_, rfl⟩
                    rw [hmt, hbb]
                    clear hmt
                    cases bb
                    · go_wp2_with fail
                      refine (less_as (i : Int) (some ⟨b, 0, none⟩) i i (ahd E i) j k false _ hbb h10 HSM.out (HH2.out.step hBz.out).row (by omega) hkl).mono ?_
                      rintro e w6 ⟨rfl, hb6⟩
                      have HB6 : Hid (Below w2.heap.size w2 w6) := Below.then hBz.out hb6
                      clear hb6 hBz k0 k1
                      go_wp2_with fail
                      go_roundw
                      case rel => exact ⟨k + 1, by omega, by go_num, HB6.out⟩
                      case measure => simp [intOf]; omega
                    · go_wp2_with fail
                      refine (less_as (i : Int) (some ⟨b, 0, none⟩) i i (ahd E i) j k true _ hbb h10 HSM.out (HH2.out.step hBz.out).row (by omega) hkl).mono ?_
                      rintro e w6 ⟨rfl, hb6⟩
                      have HB6 : Hid (Below w2.heap.size w2 w6) := Below.then hBz.out hb6
                      clear hb6 hBz k0 k1
                      go_wp2_with fail
                      go_roundw
                      case rel => exact ⟨k + 1, by omega, by go_num, HB6.out⟩
                      case measure => simp [intOf]; omega
              · obtain rfl : k = i := by omega
                go_wp2_with fail
                go_roundw
                case rel => exact ⟨j + 1, by omega, by go_num, hBy.out⟩
                case measure => simp [intOf]; omega
          · obtain rfl : j = i := by omega
            have HBE : Hid (Below w.heap.size w wr) := Below.then HB3.out hB.out
            go_wp2_with fail
            go_ret
            exact ⟨rfl, HBE.out⟩
end Go.Proofs.YtomoodpgmkjacabDoor
