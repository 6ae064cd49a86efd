/-
  What convex.isAccessible answers. Conditions: as the theorem says.
-/
import Derived.Test.YtglkjeidkjkdaaaDoorFam
namespace Go.Proofs.YtglkjeidkjkdaaaDoor
set_option maxRecDepth 100000
open Go.RowKit

theorem or_1024 {a b : Nat} (ha : a < 1024) (hb : b < 1024) : a ||| b < 1024 := Nat.or_lt_two_pow (n := 10) ha hb

set_option maxHeartbeats 2000000 in
theorem isAccessible_any (n : Nat) (a : Option Addr) (len cap : Nat) (g : Nat → Nat) (w : World) (h10 : n ≤ 10) (hl : len ≤ maxLen) (hg : ∀ k, k < len → g k < pw n) (hr : Row w a len (fun k => (g k : Nat))) (hT : Tab w) :
    Calls Tryd.prog 71 #[.agg #[.int .i64 (n : Nat), .slice a len cap]] w fun e w' => e = .returned (.bool (acc g len)) ∧ Below w.heap.size w w' := by
  unfold maxLen at hl
  have hpn := pw_le n h10
  obtain ⟨W0, HW0⟩ : ∃ W0, Hid (W0 = w.alloc (.cells #[.int .i64 (n : Nat), .slice a len cap] 36)) := ⟨_, rfl⟩
  have HB0 : Hid (Below w.heap.size w W0) := by rw [HW0.out]; exact (Below.refl _ _).alloc (Nat.le_refl _) _
  have K0 : Held W0 w.heap.size n a len cap (fun k => (g k : Nat)) := by rw [HW0.out]; exact Fam.box hr
  have HT0 : Hid (Tab W0) := hT.step HB0.out
  have HG : Hid (∀ k, k < len → g k < pw n) := hg
  obtain ⟨V, HV⟩ : ∃ V, Hid (V = acc g len) := ⟨_, rfl⟩
  rw [← HV.out]
  obtain ⟨B, HB⟩ : ∃ B, Hid (B = W0.heap.size) := ⟨_, rfl⟩
  have HNM := (show Hid (Calls Tryd.prog 81 #[.int .i64 (n : Nat)] W0 _) from newMarks_any n W0 h10)
  clear hr hT hg
  go_enter Tryd.func71, Tryd.ntmps71
  go_wp2_with fail
  rw [← HW0.out]
  refine HNM.out.mono ?_
  rintro e w1 ⟨rfl, ho1, hb1⟩
  rw [← HB.out] at ho1 ⊢
  have HB1 : Hid (Below W0.heap.size W0 w1) := hb1
  have HO1 : Hid (BOwn w1 B (pw n) (mem g 0)) := ho1
  have K1 := K0.step hb1
  have k0 := K1.c0
  have k1 := K1.c1
  clear hb1 ho1 HNM
  go_wp2_with fail
  go_loopw [16] (fun i wx => ∃ k : Nat, k ≤ len ∧ i = .int .i64 k ∧ Hid (BOwn wx B (pw n) (mem g k)) ∧ Hid (Below W0.heap.size W0 wx)) (fun i _ => len - (intOf i).toNat)
  case atStart => exact ⟨0, Nat.zero_le _, rfl, HO1, HB1⟩
  case round =>
    clear HO1 HB1 k0 k1 K1
    obtain ⟨k, hk, rfl, HO, HBx⟩ := hrel
    by_cases hlt : k < len
    · obtain ⟨b2, off, rfl, hc⟩ := (K0.step HBx.out).row k hlt
      have hc2 : wr.cell? ⟨b2, off + k, none⟩ = some (.int .i64 (g k : Nat)) := hc
      have hlt' : (k : Int) < (len : Int) := by omega
      have hgk := HG.out k hlt
      have hgi : ((g k : Nat) : Int) < ((pw n : Nat) : Int) := by omega
      obtain ⟨hcm, hfm⟩ := HO.out (g k) hgk
      have HO2 : Hid (BOwn (wr.setCell ⟨B, g k, none⟩ (.bool true)) B (pw n) (mem g (k + 1))) := by rw [mem_succ]; exact HO.out.set (g k)
      have HB2 : Hid (Below W0.heap.size W0 (wr.setCell ⟨B, g k, none⟩ (.bool true))) := below_set HBx.out (by rw [HB.out]; exact Nat.le_refl _)
      clear hc
      go_wp2_with fail
      go_roundw
      case rel => exact ⟨k + 1, by omega, by go_num, HO2, HB2⟩
      case measure => simp [intOf]; omega
    · obtain rfl : k = len := by omega
      have K2 := K0.step HBx.out
      have k0 := K2.c0
      have k1 := K2.c1
      obtain ⟨M, HM⟩ : ∃ M, Hid (M = mem g k) := ⟨_, rfl⟩
      rw [← HM.out] at HO
      clear K2
      go_wp2_with fail
      go_loopw [27] (fun i wx => ∃ x : Nat, x ≤ k ∧ i = .int .i64 x ∧ Hid (∀ j, j < x → (g j = 0 ∨ stp M (g j) 10 = true) ∧ ∀ i', i' < k → M (g j ||| g i') = true) ∧ Hid (BOwn wx B (pw n) M) ∧ Hid (Below W0.heap.size W0 wx)) (fun i _ => k - (intOf i).toNat)
      case atStart => exact ⟨0, Nat.zero_le _, rfl, upto_zero, HO, HBx⟩
      case round =>
        clear HO HBx k0 k1
        obtain ⟨x, hx, rfl, hok, HO, HBx⟩ := hrel
        by_cases hlt2 : x < k
        · obtain ⟨b2, off, rfl, hc⟩ := (K0.step HBx.out).row x hlt2
          have hc2 : wr.cell? ⟨b2, off + x, none⟩ = some (.int .i64 (g x : Nat)) := hc
          have hlt' : (x : Int) < (k : Int) := by omega
          have hgx := HG.out x hlt2
          have HST := (show Hid (Calls Tryd.prog 82 #[.slice (some ⟨B, 0, none⟩) (pw n) (pw n), .int .i64 (g x : Nat)] wr _) from hasStep_any n B (g x) M wr h10 hgx HO.out (HT0.out.step HBx.out))
          clear hc
          --ARMS
          have HOK : Hid (∀ j, j < x → (g j = 0 ∨ stp M (g j) 10 = true) ∧ ∀ i', i' < k → M (g j ||| g i') = true) := hok.out
          by_cases hz : g x = 0
          · have hz' : (((g x : Nat) : Int) != 0) = false := by simpa using hz
            have K3 := K0.step HBx.out
            have k0 := K3.c0
            have k1 := K3.c1
            clear HST hok
            go_wp2_with fail
            go_loop [42] (fun i => ∃ y : Nat, y ≤ k ∧ i = .int .i64 y ∧ Hid (∀ i', i' < y → M (g x ||| g i') = true)) (fun i => k - (intOf i).toNat)
            case atStart => exact ⟨0, Nat.zero_le _, rfl, upto_zero⟩
            case round =>
              obtain ⟨y, hy, rfl, hok2⟩ := hrel
              by_cases hlt3 : y < k
              · obtain ⟨b3, off3, e3, hc⟩ := K3.row y hlt3
                simp at e3
                obtain ⟨rfl, rfl⟩ := e3
                have hc3 : wr.cell? ⟨b2, off + y, none⟩ = some (.int .i64 (g y : Nat)) := hc
                have hlt3' : (y : Int) < (k : Int) := by omega
                have hgy := HG.out y hlt3
                have hor : bits .or .i64 (0 : Int) ((g y : Nat) : Int) = ((g x ||| g y : Nat) : Int) := by have := i64_or (g x) (g y) (by omega) (by omega); rw [hz] at this ⊢; exact this
                have hol : g x ||| g y < pw n := Nat.or_lt_two_pow hgx hgy
                obtain ⟨q, hq⟩ : ∃ q, g x ||| g y = q := ⟨_, rfl⟩
                rw [hq] at hor hol
                have HQ : Hid (g x ||| g y = q) := hq
                have hqi : (q : Int) < ((pw n : Nat) : Int) := by omega
                have hcm := (HO.out q hol).1
                clear hc hq
                cases hmq : M q
                · rw [hmq] at hcm
                  have HE : Hid (V = false) := by
                    rw [Hid, HV.out]
                    refine acc_no fun h => ?_
                    have := h.2.2 x y hlt2 hlt3
                    rw [HQ.out, ← HM.out, hmq] at this; cases this
                  clear hok2
                  go_wp2_with (rw [hor])
                  go_ret
                  exact ⟨by rw [HE.out]; rfl, Below.then HB0.out HBx.out⟩
                · rw [hmq] at hcm
                  have HN : Hid (∀ i', i' < y + 1 → M (g x ||| g i') = true) := upto_succ hok2.out (by rw [HQ.out]; exact hmq)
                  clear hok2
                  go_wp2_with (rw [hor])
                  go_round
                  case rel => exact ⟨y + 1, by omega, by go_num, HN⟩
                  case measure => simp [intOf]; omega
              · obtain rfl : y = k := by omega
                have HN : Hid (∀ j, j < x + 1 → (g j = 0 ∨ stp M (g j) 10 = true) ∧ ∀ i', i' < y → M (g j ||| g i') = true) := upto_succ HOK.out ⟨(.inl hz), hok2.out⟩
                clear hok2
                go_wp2_with fail
                go_roundw
                case rel => exact ⟨x + 1, by omega, by go_num, HN, HO, HBx⟩
                case measure => simp [intOf]; omega
          · have hz' : (((g x : Nat) : Int) != 0) = true := by simpa using hz
            rcases (Bool.eq_false_or_eq_true (stp M (g x) 10)).symm with hst | hst
            · have HE : Hid (V = false) := by
                rw [Hid, HV.out]
                refine acc_no fun h => ?_
                rcases h.2.1 x hlt2 with h | h
                · exact hz h
                · rw [← HM.out, hst] at h; cases h
              clear hok
              go_wp2_with fail
              refine HST.out.mono ?_
              rintro e w2 ⟨rfl, hb2⟩
              rw [hst]
              have HB2 : Hid (Below W0.heap.size W0 w2) := Below.then HBx.out hb2
              clear hb2
              go_wp2_with fail
              go_ret
              exact ⟨by rw [HE.out]; rfl, Below.then HB0.out HB2.out⟩
            · go_wp2_with fail
              refine HST.out.mono ?_
              rintro e w2 ⟨rfl, hb2⟩
              rw [hst]
              have HB2 : Hid (Below W0.heap.size W0 w2) := Below.then HBx.out hb2
              have HO2 : Hid (BOwn w2 B (pw n) M) := HO.out.step hb2
              clear hb2
              have K3 := K0.step HB2.out
              have k0 := K3.c0
              have k1 := K3.c1
              clear HST hok
              go_wp2_with fail
              go_loop [42] (fun i => ∃ y : Nat, y ≤ k ∧ i = .int .i64 y ∧ Hid (∀ i', i' < y → M (g x ||| g i') = true)) (fun i => k - (intOf i).toNat)
              case atStart => exact ⟨0, Nat.zero_le _, rfl, upto_zero⟩
              case round =>
                obtain ⟨y, hy, rfl, hok2⟩ := hrel
                by_cases hlt3 : y < k
                · obtain ⟨b3, off3, e3, hc⟩ := K3.row y hlt3
                  simp at e3
                  obtain ⟨rfl, rfl⟩ := e3
                  have hc3 : w2.cell? ⟨b2, off + y, none⟩ = some (.int .i64 (g y : Nat)) := hc
                  have hlt3' : (y : Int) < (k : Int) := by omega
                  have hgy := HG.out y hlt3
                  have hor := i64_or (g x) (g y) (by omega) (by omega)
                  have hol : g x ||| g y < pw n := Nat.or_lt_two_pow hgx hgy
                  obtain ⟨q, hq⟩ : ∃ q, g x ||| g y = q := ⟨_, rfl⟩
                  rw [hq] at hor hol
                  have HQ : Hid (g x ||| g y = q) := hq
                  have hqi : (q : Int) < ((pw n : Nat) : Int) := by omega
                  have hcm := (HO2.out q hol).1
                  clear hc hq
                  cases hmq : M q
                  · rw [hmq] at hcm
                    have HE : Hid (V = false) := by
                      rw [Hid, HV.out]
                      refine acc_no fun h => ?_
                      have := h.2.2 x y hlt2 hlt3
                      rw [HQ.out, ← HM.out, hmq] at this; cases this
                    clear hok2
                    go_wp2_with (rw [hor])
                    go_ret
                    exact ⟨by rw [HE.out]; rfl, Below.then HB0.out HB2.out⟩
                  · rw [hmq] at hcm
                    have HN : Hid (∀ i', i' < y + 1 → M (g x ||| g i') = true) := upto_succ hok2.out (by rw [HQ.out]; exact hmq)
                    clear hok2
                    go_wp2_with (rw [hor])
                    go_round
                    case rel => exact ⟨y + 1, by omega, by go_num, HN⟩
                    case measure => simp [intOf]; omega
                · obtain rfl : y = k := by omega
                  have HN : Hid (∀ j, j < x + 1 → (g j = 0 ∨ stp M (g j) 10 = true) ∧ ∀ i', i' < y → M (g j ||| g i') = true) := upto_succ HOK.out ⟨(.inr hst), hok2.out⟩
                  clear hok2
                  go_wp2_with fail
                  go_roundw
                  case rel => exact ⟨x + 1, by omega, by go_num, HN, HO2, HB2⟩
                  case measure => simp [intOf]; omega
        · obtain rfl : x = k := by omega
          have hp0 : (0 : Int) < ((pw n : Nat) : Int) := by have := pw_pos n; omega
          have hcm := (HO.out 0 (pw_pos n)).1
          have HE : Hid (V = M 0) := by
            rw [Hid, HV.out]
            cases hm0 : M 0
            · exact acc_no fun h => by
                have := h.1
                rw [← HM.out, hm0] at this; cases this
            · refine acc_iff.2 ⟨by rw [← HM.out]; exact hm0, fun j hj => ?_, fun j i' hj hi' => ?_⟩
              · rw [← HM.out]; exact (hok.out j hj).1
              · rw [← HM.out]; exact (hok.out j hj).2 i' hi'
          clear hok
          go_wp2_with fail
          go_ret
          exact ⟨by rw [HE.out]; rfl, Below.then HB0.out HBx.out⟩
end Go.Proofs.YtglkjeidkjkdaaaDoor
