/-
  What quotient.numbered answers: the classes by their numbers, in a new row. Conditions: at most forty numbers, each below forty.
-/
import Derived.Test.YtappekjkcgmheabNumP
namespace Go.Proofs.Ytappekjkcgmheab
open Go.RowKit Go.Maps

set_option maxRecDepth 100000 in
set_option maxHeartbeats 4000000 in
theorem numbered_any (q : Nat) (a : Option Addr) (cap : Nat) (c : Nat → Nat) (w : World) (h40 : q ≤ 40) (hc : ∀ k, k < q → c k < 40) (hr : Row w a q (fun k => (c k : Nat))) :
    Calls Try.prog 33 #[.slice a q cap] w fun e w' => (∃ B, e = .returned (.slice (some ⟨B, 0, none⟩) q q) ∧ Own w' B q (nbr c) ∧ w.heap.size ≤ B) ∧ Below w.heap.size w w' := by
  have hmm := @run_makeMap Try.prog
  obtain ⟨i0, hi, hz0, hz1, hz2⟩ := info_parts Try.info3
  obtain ⟨W, HW⟩ : ∃ W, Hid (W = w.alloc (.map #[] 0)) := ⟨_, rfl⟩
  have hbW : Below w.heap.size w W := by rw [HW.out]; exact (Below.refl _ _).alloc (Nat.le_refl _) _
  have hsW : W.heap.size = w.heap.size + 1 := by rw [HW.out]; simp
  have HN0 : Hid (NOk c 0 w.heap.size W (.map [])) := by rw [HW.out]; exact NOk.made c w
  have HBW : Hid (Below w.heap.size w W) := hbW
  have HR : Hid (∀ wx, Below w.heap.size w wx → Row wx a q (fun k => (c k : Nat))) := fun wx h => hr.below h
  have HC : Hid (∀ k, k < q → c k < 40) := hc
  clear hr hbW hc
  go_enter Try.func33, Try.ntmps33
  go_wp2_with (at_make; refine wpList_make_full _ rfl _ _ 31 rfl (w.heap.size + 1) 3 i0 (.int .i64 0) 1 Try.underlying31 hi hz0 hz1 .i64 .i64 _ _ q rfl rfl rfl rfl (by rw [hz2]; omega) (by unfold maxLen; omega) (by simp) ?_; intro w1 hown1 hgrow1)
  have HO1 : Hid (Own w1 (w.heap.size + 1) q (numTo c 0)) := by
    have := own_made hown1
    rw [World.size_alloc] at this
    exact this.congr (fun k _ => by simp [numTo])
  rw [← HW.out] at hgrow1
  have HN1 : Hid (NOk c 0 w.heap.size w1 (.map [])) := HN0.out.kept hgrow1 (by simp)
  have HB1 : Hid (Below w.heap.size w w1) := HBW.out.grown hgrow1 (by omega) (by simp)
  clear hown1 hgrow1 hi hz0 hz1 hz2 HW hsW HN0 HBW hmm
  go_loopw [15] (fun i wx => ∃ (k : Nat) (D : DataW Unit), k ≤ q ∧ i = .int .i64 k ∧ Hid (NOk c k w.heap.size wx D) ∧ Hid (Own wx (w.heap.size + 1) q (numTo c k)) ∧ Hid (Below w.heap.size w wx)) (fun i _ => q - (intOf i).toNat)
  case atStart => exact ⟨0, _, Nat.zero_le _, rfl, HN1.out, HO1.out, HB1.out⟩
  case round =>
    obtain ⟨k, D, hk, rfl, HN, HO, HB⟩ := hrel
    clear HN1 HO1 HB1
    by_cases hlt : k < q
    · obtain ⟨b, off, rfl, hcc⟩ := (HR.out _ HB.out).at hlt
      have ck := hcc k hlt
      have hlk : (k : Int) < (q : Int) := by omega
      have hc40 := HC.out k hlt
      have hown := HN.out.own
      have hkey : keyOf Try.prog 3 (.int .i64 ((c k : Nat) : Int)) = some (kI (c k)) := keyOf_int_mk Try.underlying3 (small_wf (by omega))
      have cf := (HO.out k hlt).2
      have cv := (HO.out k hlt).1
      clear hcc
      have HNS : Hid (numTo c (k + 1) = upd (numTo c k) k (nbr c k)) := numTo_succ c k
      cases hf : frst c k
      · have hmem : c k ∈ seenL c k := by
          have := (seenL_mem c (c k) (k + 1)).2 ⟨k, by omega, rfl⟩
          rw [seenL_no hf] at this
          exact this
        have hh : Maps.has D (kI (c k)) = true := (HN.out.has _).2 hmem
        have hva := HN.out.val _ hmem
        have hnb : (seenL c k).idxOf (c k) = nbr c k := by unfold nbr; rw [seenL_no hf]
        rw [hnb] at hva
        have HNX : Hid (NOk c (k + 1) w.heap.size wr D) := HN.out.old hf
        clear hf hmem hnb HN
        generalize nbr c k = N at *
        generalize c k = C at *
        go_wp2_with (at_lookup; refine wpList_lookup_own_ok_int _ rfl _ _ 76 rfl 3 3 .i64 keyedI Try.underlying76 Try.underlying3 (zeroI _) w.heap.size _ _ rfl hown _ _ rfl hkey ?_; intro c0 hat hwc; rw [hva] at hat; simp only [DataW.lit.injEq, Lit.int.injEq, true_and] at hat; subst hat; rw [hh])
        go_roundw
        case rel => exact ⟨k + 1, D, by omega, by go_num, HNX.out.kept (grown_setC _ _ _ _) (by simp), by rw [HNS.out]; exact HO.out.set k N hlt, HB.out.setCell (p := ⟨w.heap.size + 1, k, none⟩) (Nat.le_add_right _ _) _⟩
        case measure => simp [intOf]; omega
      · have hnm : c k ∉ seenL c k := fun hm => by
          obtain ⟨i, hi', e⟩ := (seenL_mem c (c k) k).1 hm
          exact frst_iff.1 hf i hi' e
        have hh : Maps.has D (kI (c k)) = false := by
          cases hb : Maps.has D (kI (c k))
          · rfl
          · exact absurd ((HN.out.has _).1 hb) hnm
        have hnb : nbr c k = clsN c k := nbr_new hf
        have hcl := cls_le c k
        have hcnt := HN.out.cnt
        have hsm : Maps.size D < maxLen := by rw [hcnt]; unfold maxLen; omega
        have hwf := small_wf (n := clsN c k) (by omega)
        have HPUT : Hid (∀ (W' : World) (n : Nat), W'.ownsMap Try.prog 3 (plainElem Try.prog 3) w.heap.size n (D.put (kI (c k)) (.lit (.int .i64 (clsN c k : Nat)))) → NOk c (k + 1) w.heap.size W' (D.put (kI (c k)) (.lit (.int .i64 (clsN c k : Nat))))) := fun W' n h => HN.out.put hf h
        rw [hnb] at HNS
        clear hf hnm hnb HN
        generalize clsN c k = N at *
        generalize c k = C at *
        go_wp2_with (first
          | (at_lookup; refine wpList_lookup_own_ok_int _ rfl _ _ 76 rfl 3 3 .i64 keyedI Try.underlying76 Try.underlying3 (zeroI _) w.heap.size _ _ rfl hown _ _ rfl hkey ?_; intro c0 hat hwc; rw [hh])
          | (at_len; refine wpList_len_own _ rfl _ 76 rfl 3 3 Try.underlying76 _ w.heap.size _ D rfl hown ?_; rw [hcnt])
          | (at_mapUpdate; refine wpList_mapUpdate_own _ rfl _ _ _ 76 rfl 3 3 keyedI Try.underlying76 _ w.heap.size _ _ rfl hown hsm _ _ _ rfl rfl hkey _ [] (plainElem_int Try.underlying3 hwf) ?_; intro w4 hown4 hgrow4; have HO4 := (show Hid (Own w4 (w.heap.size + 1) q (numTo c k)) from HO.out.far hgrow4 (by simp)); have cf4 := (HO4.out k hlt).2; have cv4 := (HO4.out k hlt).1))
        go_roundw
        case rel => exact ⟨k + 1, _, by omega, by go_num, (HPUT.out _ _ hown4).kept (grown_setC _ _ _ _) (by simp), by rw [HNS.out]; exact HO4.out.set k N hlt, (HB.out.grown hgrow4 HB.out.size (fun j e => by cases e; exact Nat.le_refl _)).setCell (p := ⟨w.heap.size + 1, k, none⟩) (Nat.le_add_right _ _) _⟩
        case measure => simp [intOf]; omega
    · obtain rfl : k = q := by omega
      have HE : Hid (Own wr (w.heap.size + 1) k (nbr c)) := HO.out.congr (fun x hx => by unfold numTo; rw [if_pos hx])
      go_wp2_with fail
      go_ret
      exact ⟨⟨_, rfl, HE.out, Nat.le_add_right _ _⟩, HB.out⟩
end Go.Proofs.Ytappekjkcgmheab
