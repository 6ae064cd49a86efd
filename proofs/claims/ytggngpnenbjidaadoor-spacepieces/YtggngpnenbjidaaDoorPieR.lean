/-
  What the reference's PiecesOf answers: the pieces, by their least points. Conditions: a good order.
-/
import Derived.Test.YtggngpnenbjidaaDoorPieL
namespace Go.Proofs.YtggngpnenbjidaaDoor
set_option maxRecDepth 100000
open Go.RowKit

set_option maxHeartbeats 8000000 in
theorem piecesOf_any (a : Option Addr) (len cap : Nat) (g : Nat → Nat) (w : World) (h10 : len ≤ 10) (hg : ∀ k, k < len → g k < pw len) (hord : Ord len g) (hr : Row w a len (fun k => (g k : Nat))) :
    Calls Tryd.prog 27 #[.agg #[.int .i64 (len : Int), .slice a len cap]] w fun e w' => (∃ v L, e = .returned v ∧ NSl w' v L ∧ PcL (hld g len) L (pw len - 1) 0) ∧ Below w.heap.size w w' := by
  have hpl := pw_le len h10
  have HB0 : Hid (Below w.heap.size w (w.alloc (.cells #[.int .i64 (len : Int), .slice a len cap] 24))) := bel_one w _
  have K0 : Hid (Held (w.alloc (.cells #[.int .i64 (len : Int), .slice a len cap] 24)) w.heap.size len a len cap (fun k => (g k : Nat))) := Held.box hr
  have HG : Hid (∀ k, k < len → g k < 1024) := fun k hk => by have := hg k hk; omega
  have HIR : Hid (∀ u, u < len → (g u).testBit u = false) := fun u hu => (hord u hu).1
  obtain ⟨i0, hi, hz0, hz1, hz2⟩ := info_parts Tryd.info3
  clear hr hg hord
  go_enter Tryd.func27, Tryd.ntmps27
  generalize hC : Code.region 1 _ false = C
  go_wp2_with fail
  generalize w.alloc (.cells #[.int .i64 (len : Int), .slice a len cap] 24) = W at *
  generalize hBB : w.heap.size = B at *
  rw [← hC]
  clear hC C
  have k0 := K0.out.c0
  go_wp2_with fail
  refine (single_any len _ h10).mono ?_
  rintro e w1 ⟨⟨v, rfl, hown⟩, hb1⟩
  have HB1 : Hid (Below W.heap.size W w1) := hb1
  clear hb1 k0
  by_cases hz : len = 0
  · subst hz
    have k0 := (K0.out.step HB1.out).c0
    have HF : Hid (PcL (hld g 0) [] (pw 0 - 1) 0) := rfl
    clear hown
    go_wp2_with fail
    go_loopw [4] (fun i wx => i = .int .i64 0 ∧ Hid (Below W.heap.size W wx)) (fun _ _ => 0)
    case atStart => exact ⟨rfl, HB1.out⟩
    case round =>
      clear k0 HB1
      obtain ⟨rfl, HB1⟩ := hrel
      have k0 := (K0.out.step HB1.out).c0
      go_wp2_with fail
      go_loopw [7, 8] (fun v i wx => v = .slice none 0 0 ∧ i = .int .i64 0 ∧ Hid (Below W.heap.size W wx)) (fun _ _ _ => 0)
      case atStart => exact ⟨rfl, rfl, HB1.out⟩
      case round =>
        clear k0 HB1
        obtain ⟨rfl, rfl, HB1⟩ := hrel
        have k0 := (K0.out.step HB1.out).c0
        go_wp2_with fail
        go_ret
        exact ⟨⟨_, [], rfl, ⟨none, 0, rfl, fun k hk => absurd hk (Nat.not_lt_zero _)⟩, HF.out⟩, Below.then (by rw [hBB]; exact HB0.out) HB1.out⟩
  · obtain ⟨BA, vc, rfl, hBA, hO⟩ := own_list hown (by omega)
    have HO1 : Hid (Own w1 BA len (fun k => k)) := hO
    have HBA : Hid (W.heap.size ≤ BA) := hBA
    clear hown hO hBA
    go_wp2_with fail
    go_loopw [4] (fun i wx => ∃ (r : Nat) (at_ : Nat → Nat), r ≤ len ∧ i = .int .i64 r ∧ Hid (Own wx BA len at_) ∧ Hid (LInv g len at_) ∧ Hid (LRnd g len at_ r) ∧ Hid (Below W.heap.size W wx)) (fun i _ => len - (intOf i).toNat)
    case atStart => exact ⟨0, _, Nat.zero_le _, rfl, HO1.out, LInv.start g len, LRnd.start g len, HB1.out⟩
    case round =>
      clear HO1 HB1
      obtain ⟨r, at0, hr, rfl, HO, HI, HRn, HB⟩ := hrel
      have k0 := (K0.out.step HB.out).c0
      by_cases hrl : r < len
      · have hrl' : (r : Int) < (len : Int) := by omega
        go_wp2_with fail
        go_loopw [5] (fun i wx => ∃ (x : Nat) (at_ : Nat → Nat), x ≤ len ∧ i = .int .i64 x ∧ Hid (Own wx BA len at_) ∧ Hid (LInv g len at_) ∧ Hid (LPrg g len at0 at_ x 0) ∧ Hid (Below W.heap.size W wx)) (fun i _ => len - (intOf i).toNat)
        case atStart => exact ⟨0, at0, Nat.zero_le _, rfl, HO.out, HI.out, LPrg.start g len at0, HB.out⟩
        case round =>
          clear HO HI HB k0
          obtain ⟨x, at1, hx, rfl, HO, HI, HP, HB⟩ := hrel
          have k0 := (K0.out.step HB.out).c0
          by_cases hxl : x < len
          · have hxl' : (x : Int) < (len : Int) := by omega
            go_wp2_with fail
            go_loopw [6] (fun i wx => ∃ (y : Nat) (at_ : Nat → Nat), y ≤ len ∧ i = .int .i64 y ∧ Hid (Own wx BA len at_) ∧ Hid (LInv g len at_) ∧ Hid (LPrg g len at0 at_ x y) ∧ Hid (Below W.heap.size W wx)) (fun i _ => len - (intOf i).toNat)
            case atStart => exact ⟨0, at1, Nat.zero_le _, rfl, HO.out, HI.out, HP.out, HB.out⟩
            case round =>
              clear HO HI HP HB k0 at1
              obtain ⟨y, at1, hy, rfl, HO, HI, HP, HB⟩ := hrel
              have K1 := K0.out.step HB.out
              have k0 := K1.c0
              have k1 := K1.c1
              by_cases hyl : y < len
              · have hyl' : (y : Int) < (len : Int) := by omega
                have HRW : Hid (Row wr a len (fun k => ((g k : Nat) : Int))) := K1.row
                clear K1
                cases he : (g y).testBit x
                · have HP2 : Hid (LPrg g len at0 at1 x (y + 1)) := HP.out.skip he
                  clear HP
                  go_wp2_with fail
                  refine (less_any len a len cap g x y _ h10 HG.out HRW.out (by omega) hyl).mono ?_
                  rintro e w2 ⟨rfl, hb2⟩
                  rw [he]
                  have HB2 : Hid (Below W.heap.size W w2) := Below.then HB.out hb2
                  have HO2 : Hid (Own w2 BA len at1) := HO.out.step hb2
                  clear hb2 HB HO HRW k0 k1
                  go_wp2_with fail
                  go_roundw
                  case rel => exact ⟨y + 1, at1, by omega, by go_num, HO2, HI, HP2, HB2⟩
                  case measure => simp [intOf]; omega
                · have hxy : x ≠ y := fun e => by
                    subst e
                    rw [HIR.out x hxl] at he; cases he
                  by_cases hlt : at1 x < at1 y
                  · have HI2 : Hid (LInv g len (upd at1 y (at1 x))) := HI.out.toB hxl hyl he hlt
                    have HP2 : Hid (LPrg g len at0 (upd at1 y (at1 x)) x (y + 1)) := HP.out.toB hxl hyl hxy hlt
                    have hlt' : ((at1 x : Nat) : Int) < ((at1 y : Nat) : Int) := by omega
                    clear HI HP
                    go_wp2_with fail
                    refine (less_any len a len cap g x y _ h10 HG.out HRW.out (by omega) hyl).mono ?_
                    rintro e w2 ⟨rfl, hb2⟩
                    rw [he]
                    have HB2 : Hid (Below W.heap.size W w2) := Below.then HB.out hb2
                    have HO2 : Hid (Own w2 BA len at1) := HO.out.step hb2
                    have c1 := (HO2.out x hxl).1
                    have c2 := (HO2.out y hyl).1
                    have c3 := (HO2.out y hyl).2
                    clear hb2 HB HO HRW k0 k1
                    go_wp2_with fail
                    go_big_quiet (fail)
                    go_wp2_with fail
                    go_roundw
                    case rel => exact ⟨y + 1, _, by omega, by go_num, (HO2.out.drewN _).set y (at1 x) hyl, HI2, HP2, (below_drewN HB2.out _).setCell (p := ⟨BA, y, none⟩) HBA.out _⟩
                    case measure => simp [intOf]; omega
                  · have hle : at1 y ≤ at1 x := by omega
                    have HI2 : Hid (LInv g len (upd at1 x (at1 y))) := HI.out.toA hxl hyl he hle
                    have HP2 : Hid (LPrg g len at0 (upd at1 x (at1 y)) x (y + 1)) := HP.out.toA hxl hyl hxy hle
                    have hlt' : ¬ ((at1 x : Nat) : Int) < ((at1 y : Nat) : Int) := by omega
                    clear HI HP
                    go_wp2_with fail
                    refine (less_any len a len cap g x y _ h10 HG.out HRW.out (by omega) hyl).mono ?_
                    rintro e w2 ⟨rfl, hb2⟩
                    rw [he]
                    have HB2 : Hid (Below W.heap.size W w2) := Below.then HB.out hb2
                    have HO2 : Hid (Own w2 BA len at1) := HO.out.step hb2
                    have c1 := (HO2.out x hxl).1
                    have c2 := (HO2.out y hyl).1
                    have c3 := (HO2.out x hxl).2
                    clear hb2 HB HO HRW k0 k1
                    go_wp2_with fail
                    go_big_quiet (fail)
                    go_wp2_with fail
                    go_roundw
                    case rel => exact ⟨y + 1, _, by omega, by go_num, (HO2.out.drewN _).set x (at1 y) hxl, HI2, HP2, (below_drewN HB2.out _).setCell (p := ⟨BA, x, none⟩) HBA.out _⟩
                    case measure => simp [intOf]; omega
              · obtain rfl : y = len := by omega
                have HP2 : Hid (LPrg g y at0 at1 (x + 1) 0) := HP.out.row
                clear HP K1
                go_wp2_with fail
                go_roundw
                case rel => exact ⟨x + 1, at1, by omega, by go_num, HO, HI, HP2, HB⟩
                case measure => simp [intOf]; omega
          · obtain rfl : x = len := by omega
            have HR2 : Hid (LRnd g x at1 (r + 1)) := HRn.out.next h10 HP.out
            clear HP
            go_wp2_with fail
            go_roundw
            case rel => exact ⟨r + 1, at1, by omega, by go_num, HO, HI, HR2, HB⟩
            case measure => simp [intOf]; omega
      · obtain rfl : r = len := by omega
        have HFin : Hid (LFin g r at0) := ⟨HI.out, HRn.out⟩
        have HPC : Hid (PcL (hld g r) (outL at0 r r) (pw r - 1) 0) := outL_all h10 HFin.out
        have HOL : Hid (∀ m, (outL at0 r m).length ≤ m) := outL_len at0 r
        obtain ⟨W2, HW2⟩ : ∃ W2, Hid (W2 = wr) := ⟨_, rfl⟩
        have HOX : Hid (∀ w', Below W2.heap.size W2 w' → Own w' BA r at0) := fun w' h => by rw [HW2.out] at h; exact HO.out.step h
        have HBX : Hid (∀ w', Below W2.heap.size W2 w' → Below W.heap.size W w') := fun w' h => by rw [HW2.out] at h; exact Below.then HB.out h
        have HKX : Hid (∀ w', Below W2.heap.size W2 w' → w'.cell? ⟨B, 0, none⟩ = some (.int .i64 (r : Int))) := fun w' h => (K0.out.step (HBX.out w' h)).c0
        have HBR : Hid (Below W2.heap.size W2 wr) := by rw [HW2.out]; exact Below.refl _ _
        clear HI HRn HFin HO HB HW2
        go_wp2_with fail
        go_loopw [7, 8] (fun v i wx => ∃ m : Nat, m ≤ r ∧ i = .int .i64 m ∧ wx.ownsRow W2.heap.size 3 1 v (outL at0 r m).length (natVals (outL at0 r m)) ∧ Hid (Below W2.heap.size W2 wx)) (fun _ i _ => r - (intOf i).toNat)
        case atStart => exact ⟨0, Nat.zero_le _, rfl, World.ownsRow_nil _ _ _ _, HBR.out⟩
        case round =>
          clear HBR k0
          obtain ⟨m, hm, rfl, hown, HB⟩ := hrel
          have k0 := HKX.out _ HB.out
          by_cases hml : m < r
          · have hml' : (m : Int) < (r : Int) := by omega
            obtain ⟨P, HP⟩ : ∃ P : Nat → Bool, Hid ((fun k => at0 k == m) = P) := ⟨_, rfl⟩
            have HPI : Hid (∀ k, P k = (at0 k == m)) := fun k => by rw [← HP.out]
            have HSM : Hid (setM at0 r m = setBy P r) := by rw [← HP.out]; rfl
            go_wp2_with fail
            go_loopw [9, 10] (fun s i wx => ∃ k : Nat, k ≤ r ∧ s = .int .i64 (setBy P k : Nat) ∧ i = .int .i64 k ∧ wx = wr) (fun _ i _ => r - (intOf i).toNat)
            case atStart => exact ⟨0, Nat.zero_le _, rfl, rfl, rfl⟩
            case round =>
              obtain ⟨k, hk, rfl, rfl, rfl⟩ := hrel
              by_cases hkl : k < r
              · have hkl' : (k : Int) < (r : Int) := by omega
                have c1 := (HOX.out _ HB.out k hkl).1
                have hsk := setBy_lt P k
                have hpk : pw k ≤ 1024 := pw_le k (by omega)
                cases hb : P k
                · have hb2 : (((at0 k : Nat) : Int) == ((m : Nat) : Int)) = false := by
                    have := HPI.out k
                    rw [hb] at this
                    simp at this ⊢
                    omega
                  have HS : Hid (setBy P (k + 1) = setBy P k) := setBy_no hb
                  go_wp2_with fail
                  go_roundw
                  case rel => exact ⟨k + 1, by omega, by rw [HS.out], by go_num, by first | rfl | trivial⟩
                  case measure => simp [intOf]; omega
                · have hb2 : (((at0 k : Nat) : Int) == ((m : Nat) : Int)) = true := by
                    have := HPI.out k
                    rw [hb] at this
                    simp at this ⊢
                    omega
                  have HS : Hid (setBy P (k + 1) = setBy P k + pw k) := setBy_yes hb
                  go_wp2_with (go_at_call 21; refine (bit_any k _ (by omega)).mono ?_; rintro e w' ⟨rfl, rfl⟩)
                  go_roundw
                  case rel => exact ⟨k + 1, by omega, by rw [HS.out]; go_num, by go_num, by first | rfl | trivial⟩
                  case measure => simp [intOf]; omega
              · obtain rfl : k = r := by omega
                rw [← HSM.out]
                have hsk : setM at0 k m < pw k := setBy_lt _ _
                by_cases hpos : 0 < setM at0 k m
                · have HE : Hid (outL at0 k (m + 1) = outL at0 k m ++ [setM at0 k m]) := by show _ = _; rw [outL, if_pos hpos]
                  have hLL := HOL.out m
                  have hsz := HB.out.size
                  generalize setM at0 k m = Z at *
                  go_wp2_with (at_builtin; refine wpList_append_own _ rfl _ _ 22 rfl W2.heap.size 3 i0 (.int .i64 0) 1 8 Tryd.underlying22 hi hz0 hz1 hz2 rfl (by decide) _ _ _ rfl (hown.alloc _) ⟨wr.heap.size, 0, none⟩ 1 1 [.int .i64 (Z : Nat)] rfl rfl ?c1 ?c2 ?c3 ?c4 ?c5 ?_)
                  case c1 =>
                    intro j u hj
                    match j, hj with
                    | 0, hj => simp at hj; subst hj; simp [Addr.add]
                  case c2 => intro u hu; simp at hu; subst hu; rfl
                  case c3 => unfold maxLen; omega
                  case c4 => omega
                  case c5 => simp; omega
                  intro v' w3 hown' hgrow _
                  have HB5 : Hid (Below W2.heap.size W2 w3) := below_append3 HB.out hown hgrow
                  have HO5 : Hid (w3.ownsRow W2.heap.size 3 1 v' (outL at0 k (m + 1)).length (natVals (outL at0 k (m + 1)))) := by
                    rw [HE.out, natVals_append, List.length_append]; exact hown'
                  clear hown' hgrow hown HB k0
                  go_wp2_with fail
                  go_roundw
                  case rel => exact ⟨m + 1, by omega, by go_num, HO5.out, HB5⟩
                  case measure => simp [intOf]; omega
                · have HE : Hid (outL at0 k (m + 1) = outL at0 k m) := by show _ = _; rw [outL, if_neg hpos]
                  have hpos' : ¬ (0 : Int) < ((setM at0 k m : Nat) : Int) := by omega
                  go_wp2_with fail
                  go_roundw
                  case rel => exact ⟨m + 1, by omega, by go_num, by rw [HE.out]; exact hown, HB⟩
                  case measure => simp [intOf]; omega
          · obtain rfl : m = r := by omega
            have HN : Hid (NSl wr u7 (outL at0 m m)) := owns_nats hown
            have HBF : Hid (Below W.heap.size W wr) := HBX.out _ HB.out
            clear hown
            go_wp2_with fail
            go_ret
            exact ⟨⟨_, _, rfl, HN.out, HPC.out⟩, Below.then (by rw [hBB]; exact HB0.out) HBF.out⟩
end Go.Proofs.YtggngpnenbjidaaDoor
