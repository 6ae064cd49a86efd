/-
  What poly.lists answers. Conditions: at most ten points; sets that rise, from that of no points to that of all; a closure that answers M of a set.
-/
import Derived.Test.YtncjlfhgenmheabDoorListM
import Derived.Deep.LoopGhost
namespace Go.Proofs.YtncjlfhgenmheabDoor
open Go.RowKit Go.Maps

/-- Sets of n points that rise, from that of no points to that of all. -/
structure Rises (n : Nat) (L : List Nat) : Prop where
  pos : 0 < L.length
  len : L.length ≤ 1024
  up : ∀ i j, i < j → j < L.length → nth L i < nth L j
  lt : ∀ i, i < L.length → nth L i < 1024
  ltp : ∀ i, i < L.length → nth L i < pw n
  fst : nth L 0 = 0
  lst : nth L (L.length - 1) = pw n - 1

set_option maxHeartbeats 4000000 in
theorem lists_any (n : Nat) (L : List Nat) (M : Nat → Bool) (a : Option Addr) (cap : Nat) (F : Nat) (caps : Array Value) (w : World) (h10 : n ≤ 10) (hL : Rises n L) (hcap : L.length ≤ cap) (hr : Row w a L.length (fun k => (nth L k : Nat))) (eF : EntZ F) (hC : CloM n F caps M w) :
    Calls Tryd.prog 18 #[.int .i64 (n : Nat), .slice a L.length cap, .func (.func F) #[] caps] w fun e w' => (∃ b : Nat, e = .returned (.slice (some ⟨b, 0, none⟩) (n + 1 : Nat) (n + 1 : Nat)) ∧ Row w' (some ⟨b, 0, none⟩) (n + 1) (fun t => wz (atI L M t (L.length - 1)))) ∧ Below w.heap.size w w' := by
  have HC : Hid (CloM n F caps M w) := hC
  have HL : Hid (Rises n L) := hL
  have hpos := hL.pos
  have hlen := hL.len
  obtain ⟨ab, aoff, rfl, hcc⟩ := hr.at hpos
  have HR : Hid (∀ W, Below w.heap.size w W → ∀ j, j < L.length → W.cell? ⟨ab, aoff + j, none⟩ = some (.int .i64 (nth L j : Nat))) := fun W hW j hj => (hW.cell (World.block_lt_of_cell? _ _ (hcc j hj))).trans (hcc j hj)
  have hmm := @run_makeMap Tryd.prog
  obtain ⟨i0, hi, hz0, hz1, hz2⟩ := info_parts Tryd.info3
  have HI : Hid (Tryd.prog.info? 3 = some i0 ∧ i0.zero = some (.int .i64 0) ∧ i0.size = 1 ∧ i0.bytes = 8) := ⟨hi, hz0, hz1, hz2⟩
  have HB0 : Hid (Below w.heap.size w (w.alloc (.map #[] 0))) := (Below.refl _ _).alloc (Nat.le_refl _) _
  have HL0 : Hid (Lst L M n 0 w.heap.size (w.alloc (.map #[] 0)).heap.size (w.alloc (.map #[] 0)) (.map [])) := by rw [World.size_alloc]; exact Lst.made L M n w
  clear hC hL hr hcc hi hz0 hz1 hz2
  go_enter Tryd.func18, Tryd.ntmps18
  go_wp2_with fail
  clear hmm
  go_loopw [18] (fun x wx => ∃ i : Nat, i ≤ L.length ∧ x = .int .i64 (i : Nat) ∧ Hid (Below w.heap.size w wx) ∧ ∃ D, Hid (Lst L M n i w.heap.size wx.heap.size wx D)) (fun x _ => L.length - (intOf x).toNat)
  case atStart => exact ⟨0, Nat.zero_le _, rfl, HB0, _, HL0⟩
  case round =>
    clear HB0 HL0
    obtain ⟨wo, Hwo⟩ : ∃ wo, wo = wr := ⟨_, rfl⟩
    subst Hwo
    obtain ⟨i, hi, rfl, HB, D, HD⟩ := hrel
    by_cases hil : i < L.length
    · have hci := HR.out wo HB.out i hil
      have hs := HL.out.lt i hil
      have hlt : (i : Int) < (L.length : Int) := by omega
      obtain ⟨s, Hs⟩ : ∃ s, Hid (nth L i = s) := ⟨_, rfl⟩
      have Hsp : Hid (s < pw n) := by rw [← Hs.out]; exact HL.out.ltp i hil
      rw [Hs.out] at hci hs
      obtain ⟨hi', hz0, hz1, hz2⟩ := HI.out
      by_cases hi0 : i = 0
      · obtain rfl : s = 0 := by rw [← Hs.out, hi0]; exact HL.out.fst
        have HI0 : Hid (i = 0) := hi0
        clear hi0
        go_wp2_with (at_make; refine wpList_make_full _ rfl _ _ 22 rfl wo.heap.size 3 i0 (.int .i64 0) 1 Tryd.underlying22 hi' hz0 hz1 .i64 .i64 _ _ (n + 1) rfl rfl rfl rfl (by rw [hz2]; omega) (by unfold maxLen; omega) (by simp) ?_; intro w3 hown3 hgrow3; have hO3 := ownI_made hown3; have hc0 := (hO3 0 (by omega)).1; have hf0 := (hO3 0 (by omega)).2)
        have HB4 : Hid (Below wo.heap.size wo (w3.setCell ⟨wo.heap.size, 0, none⟩ (.int .i64 1))) := ((Below.refl _ _).grown hgrow3 (Nat.le_refl _) (by simp)).setCell (p := ⟨wo.heap.size, 0, none⟩) (Nat.le_refl _) _
        have HO4 : Hid (OwnI (w3.setCell ⟨wo.heap.size, 0, none⟩ (.int .i64 1)) wo.heap.size (n + 1) (fun t => wz (cRow L M i 0 t))) := by
          rw [HI0.out]
          refine (hO3.set 0 1).congr fun k _ => ?_
          match k with
          | 0 => rw [updI_same]; simp [cRow, wz]
          | k + 1 => rw [updI_other _ _ _ _ (by omega)]; simp [cRow, sumI, wz]
        clear hown3 hgrow3 hO3 hc0 hf0
        clear hi' hz0 hz1 hz2 hci
        go_loopw [34] (fun x wx => ∃ p : Nat, p ≤ i ∧ x = .int .i64 (p : Nat) ∧ Hid (OwnI wx wo.heap.size (n + 1) (fun t => wz (cRow L M i p t))) ∧ Hid (Below wo.heap.size wo wx)) (fun x _ => i - (intOf x).toNat)
        case atStart => exact ⟨0, Nat.zero_le _, rfl, HO4.out, HB4.out⟩
        case round =>
          clear HO4 HB4
          obtain ⟨p, hp, rfl, HO, HW⟩ := hrel
          by_cases hpi : p < i
          · exact absurd hpi (by have := HI0.out; omega)
          · have HOF : Hid (OwnI wr wo.heap.size (n + 1) (fun t => wz (atI L M t i))) := HO.out.congr fun k _ => by rw [show p = i by omega, cRow_full]
            have hge : (i : Int) ≤ (p : Int) := by omega
            have HLD : Hid (Lst L M n i w.heap.size wo.heap.size wr D) := HD.out.below HW.out
            have hown := HLD.out.own
            have hkey : keyOf Tryd.prog 3 (.int .i64 (0 : Int)) = some (kIZ 0) := keyOf_int_mk Tryd.underlying3 (WalkArith.wf_i64 (by omega))
            go_wp2_with (at_mapUpdate; refine wpList_mapUpdate_own _ rfl _ _ _ 51 rfl 3 22 keyedIZ Tryd.underlying51 _ w.heap.size _ _ rfl hown (by unfold maxLen; omega) _ _ _ rfl rfl hkey _ [] rfl ?_; intro w7 hown7 hgrow7)
            have HB7 : Hid (Below w.heap.size w w7) := below_butZ (Below.then HB.out HW.out) (Nat.le_refl _) hgrow7
            have HL7 : Hid (∃ D, Hid (Lst L M n (i + 1) w.heap.size w7.heap.size w7 D)) := ⟨_, HLD.out.put (c := wo.heap.size) (fun j hj => by have := HL.out.up j i hj hil; omega) (by rw [Hs.out]; exact hown7) hgrow7 HOF.out (Nat.le_trans HW.out.size hgrow7.size)⟩
            clear hown hkey hown7 hgrow7 HOF HLD
            go_roundw
            case rel => exact ⟨i + 1, by omega, by go_num, HB7, HL7.out⟩
            case measure => simp [intOf]; omega
      · have hse : ((s : Int) == 0) = false := by
          have := HL.out.up 0 i (by omega) hil
          rw [Hs.out] at this
          simp; omega
        go_wp2_with (at_make; refine wpList_make_full _ rfl _ _ 22 rfl wo.heap.size 3 i0 (.int .i64 0) 1 Tryd.underlying22 hi' hz0 hz1 .i64 .i64 _ _ (n + 1) rfl rfl rfl rfl (by rw [hz2]; omega) (by unfold maxLen; omega) (by simp) ?_; intro w3 hown3 hgrow3)
        have HB4 : Hid (Below wo.heap.size wo w3) := (Below.refl _ _).grown hgrow3 (Nat.le_refl _) (by simp)
        have HO4 : Hid (OwnI w3 wo.heap.size (n + 1) (fun t => wz (cRow L M i 0 t))) := by
          refine (ownI_made hown3).congr fun k _ => ?_
          match k with
          | 0 => simp [cRow, hi0, wz]
          | k + 1 => simp [cRow, sumI, wz]
        clear hown3 hgrow3 hse hi0
        clear hi' hz0 hz1 hz2 hci
        go_loopw [34] (fun x wx => ∃ p : Nat, p ≤ i ∧ x = .int .i64 (p : Nat) ∧ Hid (OwnI wx wo.heap.size (n + 1) (fun t => wz (cRow L M i p t))) ∧ Hid (Below wo.heap.size wo wx)) (fun x _ => i - (intOf x).toNat)
        case atStart => exact ⟨0, Nat.zero_le _, rfl, HO4.out, HB4.out⟩
        case round =>
          clear HO4 HB4
          obtain ⟨p, hp, rfl, HO, HW⟩ := hrel
          by_cases hpi : p < i
          · have hpl : p < L.length := by omega
            have hcp := HR.out wr (Below.then HB.out HW.out) p hpl
            have hl := HL.out.lt p hpl
            have hand := i64_andNot s (nth L p) (by omega) (by omega)
            have hpI : (p : Int) < (i : Int) := by omega
            obtain ⟨l, Hl⟩ : ∃ l, Hid (nth L p = l) := ⟨_, rfl⟩
            rw [Hl.out] at hcp hl hand
            have Hk : Hid (lack s l < pw n) := Nat.lt_of_le_of_lt (lack_le _ _) Hsp.out
            rcases (Bool.eq_false_or_eq_true (decide (lack l s = 0))).symm with hq | hq
            · have HQ : Hid (Qs M (nth L p) (nth L i) = false) := by
                show _ = _
                rw [Hl.out, Hs.out]; simp only [Qs, hq, Bool.false_and]
              have HQQ : Hid (decide (lack l s = 0) = false) := hq
              clear hand hq
              go_wp2_with fail
              refine (hasAll_as s l false _ HQQ.out (by omega) (by omega)).mono ?_
              rintro e w5 ⟨rfl, rfl⟩
              go_wp2_with fail
              go_roundw
              case rel => exact ⟨p + 1, by omega, by go_num, HO.out.congr fun k _ => by rw [cRow_no HQ.out], HW.out⟩
              case measure => simp [intOf]; omega
            · have HQQ : Hid (decide (lack l s = 0) = true) := hq
              clear hq
              go_wp2_with fail
              refine (hasAll_as s l true _ HQQ.out (by omega) (by omega)).mono ?_
              rintro e w5 ⟨rfl, rfl⟩
              have HCl := HC.out (lack s l) Hk.out wr (Below.then HB.out HW.out)
              rcases (Bool.eq_false_or_eq_true (M (lack s l))).symm with hM | hM
              · have HQ : Hid (Qs M (nth L p) (nth L i) = false) := by
                  show _ = _
                  rw [Hl.out, Hs.out]; simp only [Qs, hM, Bool.and_false]
                rw [hM] at HCl
                clear hM
                go_wp2_with fail
                rw [eF, Oper.upon_enter]
                refine HCl.mono ?_
                rintro e w6 ⟨rfl, hb6⟩
                have HO6 : Hid (OwnI w6 wo.heap.size (n + 1) (fun t => wz (cRow L M i p t))) := HO.out.below hb6
                have HW6 : Hid (Below wo.heap.size wo w6) := Below.then HW.out hb6
                clear hb6 HO HW HCl hcp hand
                go_wp2_with fail
                go_roundw
                case rel => exact ⟨p + 1, by omega, by go_num, HO6.out.congr fun k _ => by rw [cRow_no HQ.out], HW6.out⟩
                case measure => simp [intOf]; omega
              · have HQ : Hid (Qs M (nth L p) (nth L i) = true) := by
                  show _ = _
                  rw [Hl.out, Hs.out]; simp only [Qs, hM, HQQ.out, Bool.and_true]
                rw [hM] at HCl
                clear hM
                go_wp2_with fail
                rw [eF, Oper.upon_enter]
                refine HCl.mono ?_
                rintro e w6 ⟨rfl, hb6⟩
                have HO6 : Hid (OwnI w6 wo.heap.size (n + 1) (fun t => wz (cMid L M i p 0 t))) := (HO.out.below hb6).congr fun k _ => by rw [cMid_zero]
                have HW6 : Hid (Below wo.heap.size wo w6) := Below.then HW.out hb6
                obtain ⟨b, hbb, hrun, hrow⟩ := (HD.out.below HW6.out).look (j := p) hpi (by rw [Hl.out]; exact hl)
                rw [Hl.out] at hrun
                have HROW : Hid (∀ W, Below wo.heap.size wo W → ∀ t, t < n + 1 → W.cell? ⟨b, t, none⟩ = some (.int .i64 (wz (atI L M t p)))) := fun W hW t ht => by
                  obtain ⟨b', off', e1, hc'⟩ := hrow t ht
                  simp only [Option.some.injEq, Addr.mk.injEq] at e1
                  obtain ⟨rfl, rfl, _⟩ := e1
                  rw [Nat.zero_add] at hc'
                  exact (hW.cell hbb).trans ((HW6.out.cell hbb).symm.trans hc')
                clear hb6 HO HW HCl hcp hand hrow
                go_wp2_with fail
                clear hrun
                go_loopw [56] (fun x wx => ∃ q : Nat, q ≤ n ∧ x = .int .i64 (q : Nat) ∧ Hid (OwnI wx wo.heap.size (n + 1) (fun t => wz (cMid L M i p q t))) ∧ Hid (Below wo.heap.size wo wx)) (fun x _ => n - (intOf x).toNat)
                case atStart => exact ⟨0, Nat.zero_le _, rfl, HO6.out, HW6.out⟩
                case round =>
                  clear HO6 HW6
                  obtain ⟨q, hq, rfl, HO, HW⟩ := hrel
                  by_cases hqn : q < n
                  · have hcb := HROW.out wr HW.out q (by omega)
                    have hcc := (HO.out (q + 1) (by omega)).1
                    have hff := (HO.out (q + 1) (by omega)).2
                    have hY : wrap64 (wz (cRow L M i p (q + 1)) + wz (atI L M q p)) = wz (cRow L M i (p + 1) (q + 1)) := by rw [wz_add, cRow_yes HQ.out]
                    simp only [cMid_next] at hcc
                    have HES : Hid ((fun t => wz (cMid L M i p (q + 1) t)) = updI (fun t => wz (cMid L M i p q t)) (q + 1) (wz (cRow L M i (p + 1) (q + 1)))) := cMid_step L M i p q
                    have hqI : (q : Int) < (n : Int) := by omega
                    generalize wz (cRow L M i p (q + 1)) = X at *
                    generalize wz (atI L M q p) = Y at *
                    go_wp2_with fail
                    go_roundw
                    case rel => exact ⟨q + 1, by omega, by go_num, by rw [HES.out]; exact HO.out.set (q + 1) _, HW.out.setCell (p := ⟨wo.heap.size, q + 1, none⟩) (Nat.le_refl _) _⟩
                    case measure => simp [intOf]; omega
                  · have hge : (n : Int) ≤ (q : Int) := by omega
                    have HO8 : Hid (OwnI wr wo.heap.size (n + 1) (fun t => wz (cRow L M i (p + 1) t))) := HO.out.congr fun k hk => by
                      rw [show q = n by omega, cMid_full hk]
                    clear HO
                    go_wp2_with fail
                    go_roundw
                    case rel => exact ⟨p + 1, by omega, by go_num, HO8.out, HW.out⟩
                    case measure => simp [intOf]; omega
          · have HOF : Hid (OwnI wr wo.heap.size (n + 1) (fun t => wz (atI L M t i))) := HO.out.congr fun k _ => by rw [show p = i by omega, cRow_full]
            have hge : (i : Int) ≤ (p : Int) := by omega
            have HLD : Hid (Lst L M n i w.heap.size wo.heap.size wr D) := HD.out.below HW.out
            have hown := HLD.out.own
            have hkey : keyOf Tryd.prog 3 (.int .i64 (s : Int)) = some (kIZ s) := keyOf_int_mk Tryd.underlying3 (WalkArith.wf_i64 (by omega))
            go_wp2_with (at_mapUpdate; refine wpList_mapUpdate_own _ rfl _ _ _ 51 rfl 3 22 keyedIZ Tryd.underlying51 _ w.heap.size _ _ rfl hown (by unfold maxLen; omega) _ _ _ rfl rfl hkey _ [] rfl ?_; intro w7 hown7 hgrow7)
            have HB7 : Hid (Below w.heap.size w w7) := below_butZ (Below.then HB.out HW.out) (Nat.le_refl _) hgrow7
            have HL7 : Hid (∃ D, Hid (Lst L M n (i + 1) w.heap.size w7.heap.size w7 D)) := ⟨_, HLD.out.put (c := wo.heap.size) (fun j hj => by have := HL.out.up j i hj hil; omega) (by rw [Hs.out]; exact hown7) hgrow7 HOF.out (Nat.le_trans HW.out.size hgrow7.size)⟩
            clear hown hkey hown7 hgrow7 HOF HLD
            go_roundw
            case rel => exact ⟨i + 1, by omega, by go_num, HB7, HL7.out⟩
            case measure => simp [intOf]; omega
    · obtain ⟨b, _, hrun, hrow⟩ := HD.out.look (j := L.length - 1) (by omega) (HL.out.lt _ (by omega))
      rw [HL.out.lst] at hrun
      have hpw := pw_pos n
      have he : ((pw n - 1 : Nat) : Int) = (pw n : Nat) - 1 := by omega
      rw [he] at hrun
      have HROW : Hid (Row wo (some ⟨b, 0, none⟩) (n + 1) (fun t => wz (atI L M t (L.length - 1)))) := hrow
      have hge : (L.length : Int) ≤ (i : Int) := by omega
      clear hrow he
      go_wp2_with (go_at_call 34; refine (all_any n _ h10).mono ?_; rintro e w' ⟨rfl, rfl⟩)
      go_ret
      exact ⟨⟨b, rfl, HROW.out⟩, HB.out⟩
end Go.Proofs.YtncjlfhgenmheabDoor
