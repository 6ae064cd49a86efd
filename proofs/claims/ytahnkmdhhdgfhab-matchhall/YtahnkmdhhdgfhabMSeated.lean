/-
  What match.seated answers. Conditions: a graph of at most ten points on either side that lies in a slice of numbers; not too many ways together.
-/
import Derived.Test.YtahnkmdhhdgfhabMCountM
namespace Go.Proofs.Ytahnkmdhhdgfhab
open Go.RowKit

theorem iwrap_pow (n : Nat) (h : n < 62) : IntKind.i64.wrap ((2 : Int) ^ n) = ((pw n : Nat) : Int) := by
  have := pw_small n h
  rw [show ((2 : Int) ^ n) = ((pw n : Nat) : Int) by simp [pw]]
  generalize pw n = m at *
  exact wrap_i64_small _ (by omega) (by omega)
theorem fre_no1 {t : Nat → Nat} {left taken k : Nat} (h : (t left).testBit k = false) : fre t left taken k = false := by simp [fre, h]
theorem fre_no2 {t : Nat → Nat} {left taken k : Nat} (h : taken.testBit k = true) : fre t left taken k = false := by simp [fre, h]
theorem fre_yes {t : Nat → Nat} {left taken k : Nat} (h : (t left).testBit k = true) (h2 : taken.testBit k = false) : fre t left taken k = true := by simp [fre, h, h2]

set_option maxHeartbeats 1000000 in
theorem seated_any (l r : Nat) (a : Option Addr) (cap left : Nat) (t : Nat → Nat) (aw : Option Addr) (capw : Nat) (W : Nat → Nat) (w : World) (_hl : l ≤ 10) (hr10 : r ≤ 10) (ht : Sm r l t) (hleft : left < l) (hr : Row w a l (fun k => (t k : Nat)))
    (hw : Row w aw (pw r) (fun k => (W k : Nat))) (hS : sumTo W (pw r) ≤ 10000000000) :
    Calls Try.prog 16 #[.agg #[.int .i64 (l : Int), .int .i64 (r : Int), .slice a l cap], .int .i64 left, .slice aw (pw r) capw] w fun e w' => (∃ b, e = .returned (.slice (some ⟨b, 0, none⟩) (pw r) (pw r)) ∧ Own w' b (pw r) (addT t r left W (pw r)) ∧ w.heap.size ≤ b) ∧ Below w.heap.size w w' := by
  have K0 : GHeld (w.alloc (.cells #[.int .i64 (l : Int), .int .i64 (r : Int), .slice a l cap] 24)) w.heap.size l r a l cap (fun k => (t k : Nat)) := GHeld.box hr
  have HB0 : Hid (Below w.heap.size w (w.alloc (.cells #[.int .i64 (l : Int), .int .i64 (r : Int), .slice a l cap] 24))) := (Below.refl _ _).alloc (Nat.le_refl _) _
  have HW : Hid (Row (w.alloc (.cells #[.int .i64 (l : Int), .int .i64 (r : Int), .slice a l cap] 24)) aw (pw r) (fun k => (W k : Nat))) := hw.below HB0.out
  have htl : t left < 1024 := Nat.lt_of_lt_of_le (ht left hleft) (pw_le r hr10)
  have hpr := pw_le r hr10
  have HBND : Hid (∀ T k x, T < pw r → k ≤ r → x < pw r → addR t left W T (addT t r left W T) k x ≤ 100000000000) := fun T k x hT hk hx => Nat.le_trans (addR_bound hr10 hT hk hx) (by omega)
  have HOR : Hid (∀ T k, T < pw r → k < r → T ||| pw k < pw r) := fun T k hT hk => or_lt hT hk
  have HWB : Hid (∀ x, x < pw r → W x ≤ 10000000000) := fun x hx => Nat.le_trans (le_sumTo _ hx) hS
  have HPK : Hid (∀ k, k < r → pw k < 1024) := fun k hk => Nat.lt_of_lt_of_le (Nat.pow_lt_pow_right (by decide) hk) (pw_le r hr10)
  clear hr ht hw hS
  obtain ⟨i0, hi, hz0, hz1, hz2⟩ := info_parts Try.info3
  generalize hN : pw r = N at *
  have HN : Hid (pw r = N) := hN
  clear hN
  obtain ⟨W0, HW0⟩ : ∃ W0, Hid (W0 = w.alloc (.cells #[.int .i64 (l : Int), .int .i64 (r : Int), .slice a l cap] 24)) := ⟨_, rfl⟩
  have hsz0 : W0.heap.size = w.heap.size + 1 := by rw [HW0.out]; simp
  go_enter Try.func16, Try.ntmps16
  go_wp2_with (at_make; refine wpList_make_full _ rfl _ _ 22 rfl (w.heap.size + 1) 3 i0 (.int .i64 0) 1 Try.underlying22 hi hz0 hz1 .i64 .i64 _ _ N rfl rfl rfl rfl (by rw [hz2]; omega) (by unfold maxLen; omega) (by simp) ?_; intro w1 hown1 hgrow1)
  have HBW : Hid (Below (w.heap.size + 1) W0 w1) := by
    rw [HW0.out]
    exact (Below.refl _ _).grown hgrow1 (by simp) (by simp)
  have HO1 : Hid (Own w1 (w.heap.size + 1) N (addT t r left W 0)) := by
    have h := own_made hown1
    rw [World.size_alloc] at h
    exact h
  have HK : Hid (GHeld W0 w.heap.size l r a l cap (fun k => (t k : Nat))) := by rw [HW0.out]; exact K0
  have HWW : Hid (Row W0 aw N (fun k => (W k : Nat))) := by rw [HW0.out]; exact HW.out
  have HOUT : Hid (∀ wx, Below (w.heap.size + 1) W0 wx → Below w.heap.size w wx) := fun wx h => by rw [HW0.out] at h; exact out_below h
  clear hown1 hgrow1 hi hz0 hz1 hz2 K0 HB0 HW HW0
  go_loopw [15] (fun x wx => ∃ T : Nat, T ≤ N ∧ x = .int .i64 T ∧ Hid (Own wx (w.heap.size + 1) N (addT t r left W T)) ∧ Hid (Below (w.heap.size + 1) W0 wx)) (fun x _ => N - (intOf x).toNat)
  case atStart => exact ⟨0, Nat.zero_le _, rfl, HO1.out, HBW.out⟩
  case round =>
    clear HO1 HBW
    obtain ⟨T, hT, rfl, hO, hB⟩ := hrel
    by_cases hTN : T < N
    · have hH := HK.out.step (by rw [hsz0]; exact hB.out)
      have c1 := hH.c1
      have HO2 : Hid (Own wr (w.heap.size + 1) N (addR t left W T (addT t r left W T) 0)) := hO.out
      have HE : Hid (addT t r left W (T + 1) = addR t left W T (addT t r left W T) r) := rfl
      have hWT := HWB.out T hTN
      have HBT : Hid (∀ k x, k ≤ r → x < N → addR t left W T (addT t r left W T) k x ≤ 100000000000) := fun k x hk hx => HBND.out T k x hTN hk hx
      clear hH hO
      generalize addT t r left W T = A at *
      go_wp2_with fail
      clear c1
      go_loopw [20] (fun x wx => ∃ k : Nat, k ≤ r ∧ x = .int .i64 k ∧ Hid (Own wx (w.heap.size + 1) N (addR t left W T A k)) ∧ Hid (Below (w.heap.size + 1) W0 wx)) (fun x _ => r - (intOf x).toNat)
      case atStart => exact ⟨0, Nat.zero_le _, rfl, HO2.out, hB.out⟩
      case round =>
        clear HO2 hB
        obtain ⟨k, hk, rfl, hO, hB⟩ := hrel
        by_cases hkr : k < r
        · have hB' : Below W0.heap.size W0 wr := by rw [hsz0]; exact hB.out
          have hH := HK.out.step hB'
          have c2 := hH.c2
          obtain ⟨b, off, rfl, hcc⟩ := hH.row.at hleft
          have hcl := hcc left hleft
          have hlr : (k : Int) < (r : Int) := by omega
          have hll : (left : Int) < (l : Int) := by omega
          rcases (Bool.eq_false_or_eq_true ((t left).testBit k)).symm with hb | hb
          · have HY : Hid (addR t left W T A (k + 1) = addR t left W T A k) := addR_no (fre_no1 hb)
            clear hcc hH hB'
            go_wp2_with (go_at_call 24; refine (has_as _ _ _ _ hb (by omega) (by omega)).mono ?_; rintro e w' ⟨rfl, rfl⟩)
            go_roundw
            case rel => exact ⟨k + 1, by omega, by go_num, by rw [HY.out]; exact hO.out, hB.out⟩
            case measure => simp [intOf]; omega
          · rcases (Bool.eq_false_or_eq_true (T.testBit k)).symm with hb2 | hb2
            · have HY : Hid (addR t left W T A (k + 1) = upd (addR t left W T A k) (T ||| pw k) (addR t left W T A k (T ||| pw k) + W T)) := addR_yes (fre_yes hb hb2)
              obtain ⟨bw, ow, rfl, hcw⟩ := (HWW.out.below hB').at hTN
              have hcT := hcw T hTN
              have hIN := HOR.out T k hTN hkr
              have hAI := HBT.out k (T ||| pw k) hk hIN
              have hpk := HPK.out k hkr
              have hcI := (hO.out (T ||| pw k) hIN).1
              have hfI := (hO.out (T ||| pw k) hIN).2
              have hor := i64_or T (pw k) (by omega) (by omega)
              have hsh := wrap_pow k (by omega)
              have hsh2 := iwrap_pow k (by omega)
              clear hcc hH hcw hB'
              generalize hI : T ||| pw k = I at *
              generalize hA : addR t left W T A k I = AI at *
              have HA : Hid (addR t left W T A k I = AI) := hA
              have hIi : (I : Int) < (N : Int) := by omega
              have hTi : (T : Int) < (N : Int) := by omega
              clear hI hA
              generalize W T = WT at *
              go_wp2_with (first
                | (go_at_call_of 24 (Value.int IntKind.i64 (T : Int)); refine (has_as _ _ _ _ hb2 (by omega) (by omega)).mono ?_; rintro e w' ⟨rfl, rfl⟩)
                | (go_at_call 24; refine (has_as _ _ _ _ hb (by omega) (by omega)).mono ?_; rintro e w' ⟨rfl, rfl⟩))
              go_region
              all_goals go_wp2
              all_goals go_roundw
              case rel => exact ⟨k + 1, by omega, by go_num, by rw [HY.out]; have h := Own.set hO.out I (AI + WT) hIN; rw [Int.natCast_add] at h; exact h, Below.drew (Below.setCell (p := ⟨w.heap.size + 1, I, none⟩) hB.out (Nat.le_refl _) _)⟩
              case measure => simp [intOf]; omega
            · have HY : Hid (addR t left W T A (k + 1) = addR t left W T A k) := addR_no (fre_no2 hb2)
              clear hcc hH hB'
              go_wp2_with (first
                | (go_at_call_of 24 (Value.int IntKind.i64 (T : Int)); refine (has_as _ _ _ _ hb2 (by omega) (by omega)).mono ?_; rintro e w' ⟨rfl, rfl⟩)
                | (go_at_call 24; refine (has_as _ _ _ _ hb (by omega) (by omega)).mono ?_; rintro e w' ⟨rfl, rfl⟩))
              go_roundw
              case rel => exact ⟨k + 1, by omega, by go_num, by rw [HY.out]; exact hO.out, hB.out⟩
              case measure => simp [intOf]; omega
        · have hkn : k = r := by omega
          have HO3 : Hid (Own wr (w.heap.size + 1) N (addT t r left W (T + 1))) := by rw [HE.out, ← hkn]; exact hO.out
          clear hO hkn
          go_wp2_with fail
          go_roundw
          case rel => exact ⟨T + 1, by omega, by go_num, HO3.out, hB.out⟩
          case measure => simp [intOf]; omega
    · have hTn : T = N := by omega
      have HO3 : Hid (Own wr (w.heap.size + 1) N (addT t r left W N)) := by rw [hTn] at hO; exact hO.out
      clear hO hTn
      go_wp2_with fail
      go_ret
      exact ⟨⟨_, rfl, HO3.out, Nat.le_succ _⟩, HOUT.out _ hB.out⟩
end Go.Proofs.Ytahnkmdhhdgfhab
