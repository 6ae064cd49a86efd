/-
  What hasselaw.choose answers: a number below n. Conditions: as the theorem says.
  What the reference's Upto answers; hasselaw.PolyLists returns true for every order and number. Conditions: a slice reads as a slice of numbers; the table of the least bits; a number as int holds it.
-/
import Derived.Test.YtncjlfhgenmheabDoorLeaves
import Derived.Test.YtncjlfhgenmheabDoorPolN
namespace Go.Proofs.YtncjlfhgenmheabDoor
open Go.RowKit

theorem choose_any (c : Int) (n : Nat) (w : World) (hn : 0 < n) (hn2 : n ≤ 10000000000) (h1 : -9223372036854775808 ≤ c) (h2 : c ≤ 9223372036854775807) :
    Calls Tryd.prog 9 #[.int .i64 c, .int .i64 (n : Nat)] w fun e w' => (∃ k : Nat, k < n ∧ e = .returned (.int .i64 (k : Nat))) ∧ w = w' := by
  have hz : ((n : Nat) : Int) ≠ 0 := by omega
  by_cases hc : c < 0
  · have HQ : Hid (∃ k : Nat, k < n ∧ -(c + 1).tmod n = (k : Nat)) := by
      have e : -(c + 1).tmod n = (-(c + 1)) % n := by rw [← Int.neg_tmod, Int.tmod_eq_emod_of_nonneg (by omega)]
      have g1 := Int.emod_nonneg (-(c + 1)) hz
      have g2 := Int.emod_lt_of_pos (-(c + 1)) (show (0 : Int) < n by omega)
      exact ⟨((-(c + 1)) % n).toNat, by omega, by omega⟩
    go_enter Tryd.func9, Tryd.ntmps9
    go_wp2_with fail
    go_ret
    obtain ⟨k, h3, h4⟩ := HQ.out
    exact ⟨⟨k, h3, ret_int h4⟩, rfl⟩
  · have HQ : Hid (∃ k : Nat, k < n ∧ c % n = (k : Nat)) := by
      have g1 := Int.emod_nonneg c hz
      have g2 := Int.emod_lt_of_pos c (show (0 : Int) < n by omega)
      exact ⟨(c % n).toNat, by omega, by omega⟩
    go_enter Tryd.func9, Tryd.ntmps9
    go_wp2_with fail
    go_ret
    obtain ⟨k, h3, h4⟩ := HQ.out
    exact ⟨⟨k, h3, ret_int h4⟩, rfl⟩

end Go.Proofs.YtncjlfhgenmheabDoor
namespace Go.Proofs.YtncjlfhgenmheabDoor
open Go.RowKit Go.Maps

/-- Is i the point j, or below it? -/
def upB (g : Nat → Nat) (i j : Nat) : Bool := decide (i = j) || (g j).testBit i
set_option maxHeartbeats 1000000 in
theorem upto_any (n : Int) (a : Option Addr) (len cap : Nat) (g : Nat → Nat) (i j : Nat) (w : World) (v : Bool) (hv : upB g i j = v) (hl : len ≤ 10) (hg : ∀ k, k < len → g k < 1024) (hr : Row w a len (fun k => (g k : Nat))) (hi : i < 63) (hj : j < len) :
    Calls Tryd.prog 11 #[.agg #[.int .i64 n, .slice a len cap], .int .i64 i, .int .i64 j] w fun e w' => e = .returned (.bool v) ∧ Below w.heap.size w w' := by
  have HG : Hid (∀ k, k < len → g k < 1024) := hg
  have HR : Hid (Row w a len (fun k => (g k : Nat))) := hr
  clear hg hr
  by_cases hij : i = j
  · subst hij
    have hvt : v = true := by rw [← hv]; simp [upB]
    subst hvt
    clear hv
    go_enter Tryd.func11, Tryd.ntmps11
    go_wp2_with fail
    go_ret
    exact ⟨rfl, (Below.refl _ _).alloc (Nat.le_refl _) _⟩
  · have hne : ((i : Int) == (j : Int)) = false := by simp; omega
    have HV : Hid ((g j).testBit i = v) := by
      have e : upB g i j = (g j).testBit i := by simp [upB, hij]
      exact e.symm.trans hv
    clear hv
    go_enter Tryd.func11, Tryd.ntmps11
    go_wp2_with fail
    refine (less_any n a len cap g i j _ hl HG.out (HR.out.below ((Below.refl _ _).alloc (Nat.le_refl _) _)) hi hj).mono ?_
    rintro e w1 ⟨rfl, hb⟩
    rw [HV.out]
    have HB : Hid (Below w.heap.size w w1) := Below.then ((Below.refl _ _).alloc (Nat.le_refl _) _) hb
    clear hb
    go_wp2_with fail
    go_ret
    exact ⟨rfl, HB.out⟩

theorem wrapi_add (a b : Int) : IntKind.i64.wrap (wz a + wz b) = wz (a + b) := by rw [IntWalk.i64_left]; exact wz_add a b
/-- What comes to b of the first c points. -/
def nxA (g : Nat → Nat) (F : Nat → Int) (b c : Nat) : Int := sumI (fun l => if upB g l b = true then F l else 0) c
theorem nxA_no {g : Nat → Nat} {F : Nat → Int} {b c : Nat} (h : upB g c b = false) : nxA g F b (c + 1) = nxA g F b c := by unfold nxA; rw [sumI]; simp [h]
theorem nxA_yes {g : Nat → Nat} {F : Nat → Int} {b c : Nat} (h : upB g c b = true) : nxA g F b (c + 1) = nxA g F b c + F c := by unfold nxA; rw [sumI]; simp [h]
/-- The first q points have got what comes of c, the others not yet. -/
def nxM (g : Nat → Nat) (F : Nat → Int) (c q b : Nat) : Int := if b < q then nxA g F b (c + 1) else nxA g F b c
theorem nxM_zero (g : Nat → Nat) (F : Nat → Int) (c b : Nat) : nxM g F c 0 b = nxA g F b c := by simp [nxM]
theorem nxM_full {g : Nat → Nat} {F : Nat → Int} {c n b : Nat} (h : b < n) : nxM g F c n b = nxA g F b (c + 1) := by simp [nxM, h]
theorem nxM_at (g : Nat → Nat) (F : Nat → Int) (c q : Nat) : nxM g F c q q = nxA g F q c := by simp [nxM]
theorem nxM_step (g : Nat → Nat) (F : Nat → Int) (c q : Nat) : (fun b => wz (nxM g F c (q + 1) b)) = updI (fun b => wz (nxM g F c q b)) q (wz (nxA g F q (c + 1))) := by
  funext b
  by_cases e : b = q
  · subst e; rw [updI_same]; simp [nxM]
  · rw [updI_other _ _ _ _ e]
    have : (b < q + 1) = (b < q) := by simp; omega
    simp only [nxM, this]
theorem nxM_same {g : Nat → Nat} {F : Nat → Int} {c q : Nat} (h : upB g c q = false) (b : Nat) : nxM g F c (q + 1) b = nxM g F c q b := by
  by_cases e : b = q
  · subst e
    rw [nxM_at]
    unfold nxM
    rw [if_pos (by omega), nxA_no h]
  · have : (b < q + 1) = (b < q) := by simp; omega
    simp only [nxM, this]
theorem nxA_full {g : Nat → Nat} {n : Nat} (ho : Ord n g) (F : Nat → Int) {b : Nat} (hb : b < n) : nxA g F b n = F b + up1 (blw g) n F b := by
  unfold nxA up1
  have key : ∀ m, m ≤ n → sumI (fun l => if upB g l b = true then F l else 0) m = (if b < m then F b else 0) + sumI (fun j => if blw g j b = true then F j else 0) m := by
    intro m
    induction m with
    | zero => intro _; simp [sumI]
    | succ m ih =>
      intro hm
      rw [sumI, sumI, ih (by omega)]
      by_cases e : m = b
      · subst e
        rw [show blw g m m = false from (ho m hb).1]
        simp [upB]; omega
      · have h1 : upB g m b = blw g m b := by simp [upB, e, blw]
        have h2 : (b < m + 1) = (b < m) := by simp; omega
        simp only [h1, h2]; omega
  rw [key n (Nat.le_refl _), if_pos hb]
set_option maxHeartbeats 4000000 in
theorem polyLists_any (N : Int) (a : Option Addr) (len cap : Nat) (f : Nat → Int) (n : Int) (w : World) (hl : len ≤ maxLen) (hn1 : -9223372036854775808 ≤ n) (hn2 : n ≤ 9223372036854775807) (hr : Row w a len f) (hT : Tab w) :
    Calls Tryd.prog 4 #[.agg #[.int .i64 N, .slice a len cap], .int .i64 n] w fun e w' => e = .returned (.bool true) ∧ Below w.heap.size w w' := by
  have K0 : Held (w.alloc (.cells #[.int .i64 N, .slice a len cap] 24)) w.heap.size N a len cap f := Held.box hr
  have HB0 : Hid (Below w.heap.size w (w.alloc (.cells #[.int .i64 N, .slice a len cap] 24))) := (Below.refl _ _).alloc (Nat.le_refl _) _
  have HT : Hid (Tab w) := hT
  clear hr hT
  go_enter Tryd.func4, Tryd.ntmps4
  go_wp2_with fail
  refine (polyBegun_any _ (HT.out.step HB0.out)).mono ?_
  rintro e w1 ⟨rfl, hb⟩
  have K1 := K0.step hb
  have k0 := K1.c0
  have k1 := K1.c1
  have HB1 : Hid (Below w.heap.size w w1) := Below.then HB0.out hb
  clear hb K0 HB0
  go_wp2_with fail
  refine (choose_any n 8 _ (by omega) (by omega) hn1 hn2).mono ?_
  rintro e w2 ⟨⟨m, hm, rfl⟩, rfl⟩
  go_wp2_with fail
  refine (zeta_any N a len cap f ((m : Int) + 2) _ hl K1.row).mono ?_
  rintro e w2 ⟨⟨c, v, hc, rfl, he⟩, hb2⟩
  have K2 := K1.step hb2
  have HB2 : Hid (Below w.heap.size w w2) := Below.then HB1.out hb2
  have HC : Hid (StCk N len f ((m : Int) + 2) (-20) c) := hc
  clear hb2 hc K1 k0 k1 HB1
  rcases he with ⟨h0, rfl⟩ | ⟨rfl, rfl⟩
  · have hne2 : (c != 0) = true := by simpa using h0
    go_wp2_with fail
    go_ret
    exact ⟨rfl, HB2.out⟩
  · obtain ⟨hck, _, _⟩ := HC.out.good
    obtain ⟨rfl, h10, hrng, hord⟩ := hck.good
    have HH : Hid (∀ W, Below w2.heap.size w2 W → Held W w.heap.size len a len cap (fun k => (nat f k : Nat))) := fun W hW => ⟨(K2.step hW).c0, (K2.step hW).c1, hrng.row (K2.step hW).row⟩
    have HG : Hid (∀ k, k < len → nat f k < 1024) := hrng.small2 h10
    have HO : Hid (Ord len (nat f)) := hord
    have HE : Hid (wz (zetV (nat f) len ((m : Int) + 2)) = wz (sumI (fun u => mmV (blw (nat f)) ones len m u) len)) := by
      show _ = _
      rw [zet_lists h10 hrng.small hord (by omega)]
    rw [HE.out]
    clear HE hck hrng hord K2
    obtain ⟨g, HGF⟩ : ∃ g, Hid (nat f = g) := ⟨_, rfl⟩
    rw [HGF.out] at HH HG HO ⊢
    have HNX : Hid (∀ k b, b < len → nxA g (mmV (blw g) ones len k) b len = mmV (blw g) ones len (k + 1) b) := fun k b hb => nxA_full HO.out _ hb
    generalize hZZ : wz (sumI (fun u => mmV (blw g) ones len m u) len) = ZZ
    have HZZ : Hid (wz (sumI (fun u => mmV (blw g) ones len m u) len) = ZZ) := hZZ
    clear hZZ
    have c0 := (HH.out w2 (Below.refl _ _)).c0
    obtain ⟨i0, hi', hz0, hz1, hz2⟩ := info_parts Tryd.info3
    have HI : Hid (Tryd.prog.info? 3 = some i0 ∧ i0.zero = some (.int .i64 0) ∧ i0.size = 1 ∧ i0.bytes = 8) := ⟨hi', hz0, hz1, hz2⟩
    go_wp2_with (at_make; refine wpList_make_full _ rfl _ _ 22 rfl w2.heap.size 3 i0 (.int .i64 0) 1 Tryd.underlying22 hi' hz0 hz1 .i64 .i64 _ _ len rfl rfl rfl rfl (by rw [hz2]; omega) (by unfold maxLen; omega) (by simp) ?_; intro w3 hown3 hgrow3)
    have HB3 : Hid (Below w2.heap.size w2 w3) := (Below.refl _ _).grown hgrow3 (Nat.le_refl _) (by simp)
    have HO3 : Hid (OwnI w3 w2.heap.size len (upToI ones 0)) := by rw [upToI_zero]; exact ownI_made hown3
    clear hown3 hgrow3 hi' hz0 hz1 hz2 c0
    go_loopw [8] (fun x wx => ∃ k : Nat, k ≤ len ∧ x = .int .i64 (k : Nat) ∧ Hid (OwnI wx w2.heap.size len (upToI ones k)) ∧ Hid (Below w2.heap.size w2 wx)) (fun x _ => len - (intOf x).toNat)
    case atStart => exact ⟨0, Nat.zero_le _, rfl, HO3.out, HB3.out⟩
    case round =>
      clear HO3 HB3
      obtain ⟨k, hk, rfl, HOw, HB⟩ := hrel
      have c0 := (HH.out wr HB.out).c0
      by_cases hkl : k < len
      · have hcI := (HOw.out k hkl).1
        have hfI := (HOw.out k hkl).2
        have hkI : (k : Int) < (len : Int) := by omega
        have HES : Hid (upToI ones (k + 1) = updI (upToI ones k) k 1) := upToI_succ ones k
        generalize upToI ones k k = VV at *
        go_wp2_with fail
        go_roundw
        case rel => exact ⟨k + 1, by omega, by go_num, by rw [HES.out]; exact HOw.out.set k 1, HB.out.setCell (p := ⟨w2.heap.size, k, none⟩) (Nat.le_refl _) _⟩
        case measure => simp [intOf]; omega
      · have hge : (len : Int) ≤ (k : Int) := by omega
        have HO4 : Hid (OwnI wr w2.heap.size len (fun t => wz (mmV (blw g) ones len 0 t))) := HOw.out.congr fun t ht => by
          rw [upToI, if_pos (by omega)]; simp [mmV, ones, wz]
        clear HOw
        go_wp2_with fail
        clear c0
        go_loopw [7, 9] (fun now x wx => ∃ k b : Nat, k ≤ m ∧ x = .int .i64 (k : Nat) ∧ now = .slice (some ⟨b, 0, none⟩) len len ∧ Hid (OwnI wx b len (fun t => wz (mmV (blw g) ones len k t))) ∧ Hid (Below w2.heap.size w2 wx)) (fun _ x _ => m - (intOf x).toNat)
        case atStart => exact ⟨0, w2.heap.size, Nat.zero_le _, rfl, rfl, HO4.out, HB.out⟩
        case round =>
          clear HO4 HB
          obtain ⟨w4, Hw4⟩ : ∃ w4, w4 = wr := ⟨_, rfl⟩
          subst Hw4
          obtain ⟨k, b, hk, rfl, rfl, HO4, HB4⟩ := hrel
          have c0 := (HH.out w4 HB4.out).c0
          by_cases hkm : k < m
          · have hkI : (k : Int) < (m : Int) := by omega
            obtain ⟨hi', hz0, hz1, hz2⟩ := HI.out
            go_wp2_with (at_make; refine wpList_make_full _ rfl _ _ 22 rfl w4.heap.size 3 i0 (.int .i64 0) 1 Tryd.underlying22 hi' hz0 hz1 .i64 .i64 _ _ len rfl rfl rfl rfl (by rw [hz2]; omega) (by unfold maxLen; omega) (by simp) ?_; intro w5 hown5 hgrow5)
            have HB5 : Hid (Below w4.heap.size w4 w5) := (Below.refl _ _).grown hgrow5 (Nat.le_refl _) (by simp)
            have HO5 : Hid (OwnI w5 w4.heap.size len (fun t => wz (nxA g (mmV (blw g) ones len k) t 0))) := (ownI_made hown5).congr fun t _ => by simp [nxA, sumI, wz]
            have HNK : Hid (∀ b, b < len → nxA g (mmV (blw g) ones len k) b len = mmV (blw g) ones len (k + 1) b) := fun b hb => HNX.out k b hb
            clear hown5 hgrow5 hi' hz0 hz1 hz2 c0
            generalize hFF : mmV (blw g) ones len k = F at *
            clear hFF
            go_loopw [11] (fun x wx => ∃ c : Nat, c ≤ len ∧ x = .int .i64 (c : Nat) ∧ Hid (OwnI wx w4.heap.size len (fun t => wz (nxA g F t c))) ∧ Hid (Below w4.heap.size w4 wx)) (fun x _ => len - (intOf x).toNat)
            case atStart => exact ⟨0, Nat.zero_le _, rfl, HO5.out, HB5.out⟩
            case round =>
              clear HO5 HB5
              obtain ⟨c, hc, rfl, HOc, HWc⟩ := hrel
              have c0 := (HH.out wr (Below.then HB4.out HWc.out)).c0
              by_cases hcl : c < len
              · have hcI : (c : Int) < (len : Int) := by omega
                have HOc2 : Hid (OwnI wr w4.heap.size len (fun t => wz (nxM g F c 0 t))) := HOc.out.congr fun t _ => by rw [nxM_zero]
                clear HOc
                go_wp2_with fail
                clear c0
                go_loopw [12] (fun x wx => ∃ q : Nat, q ≤ len ∧ x = .int .i64 (q : Nat) ∧ Hid (OwnI wx w4.heap.size len (fun t => wz (nxM g F c q t))) ∧ Hid (Below w4.heap.size w4 wx)) (fun x _ => len - (intOf x).toNat)
                case atStart => exact ⟨0, Nat.zero_le _, rfl, HOc2.out, HWc.out⟩
                case round =>
                  clear HOc2 HWc
                  obtain ⟨q, hq, rfl, HOq, HWq⟩ := hrel
                  have hHd := HH.out wr (Below.then HB4.out HWq.out)
                  have c0 := hHd.c0
                  have c1 := hHd.c1
                  by_cases hql : q < len
                  · have hqI : (q : Int) < (len : Int) := by omega
                    have HRW : Hid (Row wr a len (fun k => (g k : Nat))) := hHd.row
                    clear hHd
                    rcases (Bool.eq_false_or_eq_true (upB g c q)).symm with hu | hu
                    · have HU : Hid (upB g c q = false) := hu
                      clear hu
                      go_wp2_with fail
                      refine (upto_any len a len cap g c q _ false HU.out h10 HG.out HRW.out (by omega) hql).mono ?_
                      rintro e w6 ⟨rfl, hb6⟩
                      have HO6 : Hid (OwnI w6 w4.heap.size len (fun t => wz (nxM g F c (q + 1) t))) := (HOq.out.below hb6).congr fun t _ => by rw [nxM_same HU.out]
                      have HW6 : Hid (Below w4.heap.size w4 w6) := Below.then HWq.out hb6
                      clear hb6 HOq HWq HRW c0 c1
                      go_wp2_with fail
                      go_roundw
                      case rel => exact ⟨q + 1, by omega, by go_num, HO6.out, HW6.out⟩
                      case measure => simp [intOf]; omega
                    · have HU : Hid (upB g c q = true) := hu
                      clear hu
                      go_wp2_with fail
                      refine (upto_any len a len cap g c q _ true HU.out h10 HG.out HRW.out (by omega) hql).mono ?_
                      rintro e w6 ⟨rfl, hb6⟩
                      have HO6 := HOq.out.below hb6
                      have HW6 : Hid (Below w4.heap.size w4 w6) := Below.then HWq.out hb6
                      have hcA : w6.cell? ⟨b, c, none⟩ = some (.int .i64 (wz (F c))) := (HO4.out.below HW6.out c hcl).1
                      have hcI2 := (HO6 q hql).1
                      have hfI2 := (HO6 q hql).2
                      simp only [nxM_at] at hcI2
                      have HYZ : Hid (IntKind.i64.wrap (wz (nxA g F q c) + wz (F c)) = wz (nxA g F q (c + 1))) := by
                        show _ = _
                        rw [wrapi_add, nxA_yes HU.out]
                      have HES : Hid ((fun t => wz (nxM g F c (q + 1) t)) = updI (fun t => wz (nxM g F c q t)) q (wz (nxA g F q (c + 1)))) := nxM_step g F c q
                      have HO6' : Hid (OwnI w6 w4.heap.size len (fun t => wz (nxM g F c q t))) := HO6
                      clear hb6 HOq HWq HRW c0 c1 HO6
                      generalize wz (nxA g F q c) = X at *
                      generalize wz (F c) = Y at *
                      generalize wz (nxA g F q (c + 1)) = Z at *
                      have hYZ : IntKind.i64.wrap (X + Y) = Z := HYZ.out
                      have HO8 : Hid (OwnI (w6.setCell ⟨w4.heap.size, q, none⟩ (.int .i64 Z)) w4.heap.size len (fun t => wz (nxM g F c (q + 1) t))) := by rw [HES.out]; exact HO6'.out.set q Z
                      have HW8 : Hid (Below w4.heap.size w4 (w6.setCell ⟨w4.heap.size, q, none⟩ (.int .i64 Z))) := HW6.out.setCell (p := ⟨w4.heap.size, q, none⟩) (Nat.le_refl _) _
                      clear HYZ HO6' HW6 HES
                      go_wp2_with fail
                      go_region
                      all_goals go_wp2
                      all_goals go_roundw
                      case rel => exact ⟨q + 1, by omega, by go_num, HO8.out, Below.drew HW8.out⟩
                      case measure => simp [intOf]; omega
                  · have hge2 : (len : Int) ≤ (q : Int) := by omega
                    have HO9 : Hid (OwnI wr w4.heap.size len (fun t => wz (nxA g F t (c + 1)))) := HOq.out.congr fun t ht => by
                      rw [show q = len by omega, nxM_full ht]
                    clear HOq hHd c1
                    go_wp2_with fail
                    go_roundw
                    case rel => exact ⟨c + 1, by omega, by go_num, HO9.out, HWq.out⟩
                    case measure => simp [intOf]; omega
              · have hge2 : (len : Int) ≤ (c : Int) := by omega
                have HO9 : Hid (OwnI wr w4.heap.size len (fun t => wz (mmV (blw g) ones len (k + 1) t))) := HOc.out.congr fun t ht => by
                  rw [show c = len by omega, HNK.out t ht]
                have HB9 : Hid (Below w2.heap.size w2 wr) := Below.then HB4.out HWc.out
                clear HOc
                go_wp2_with fail
                go_roundw
                case rel => exact ⟨k + 1, w4.heap.size, by omega, by go_num, rfl, HO9.out, HB9.out⟩
                case measure => simp [intOf]; omega
          · have hge2 : (m : Int) ≤ (k : Int) := by omega
            have HO9 : Hid (OwnI w4 b len (fun t => wz (mmV (blw g) ones len m t))) := HO4.out.congr fun t _ => by rw [show k = m by omega]
            clear HO4 c0
            generalize hFF : mmV (blw g) ones len m = F at *
            clear hFF
            go_wp2_with fail
            go_loop [13, 14] (fun x i => ∃ j : Nat, j ≤ len ∧ i = .int .i64 (j : Nat) ∧ x = .int .i64 (wz (sumI F j))) (fun _ i => len - (intOf i).toNat)
            case atStart => exact ⟨0, Nat.zero_le _, rfl, by simp [sumI, wz]⟩
            case round =>
              obtain ⟨j, hj, rfl, rfl⟩ := hrel
              have c0 := (HH.out w4 HB4.out).c0
              by_cases hjl : j < len
              · have hck : w4.cell? ⟨b, j, none⟩ = some (.int .i64 (wz (F j))) := (HO9.out j hjl).1
                have hjI : (j : Int) < (len : Int) := by omega
                have hY : wrap64 (wz (sumI F j) + wz (F j)) = wz (sumI F (j + 1)) := wz_add _ _
                generalize wz (F j) = Y at *
                generalize wz (sumI F j) = X at *
                go_wp2_with fail
                go_round
                case rel => exact ⟨j + 1, by omega, by go_num, by rw [hY]⟩
                case measure => simp [intOf]; omega
              · have hge3 : (len : Int) ≤ (j : Int) := by omega
                have HEE : Hid (wz (sumI F j) = ZZ) := by rw [show j = len by omega]; exact HZZ.out
                rw [HEE.out]
                have hzz : (ZZ == ZZ) = true := beq_self_eq_true _
                go_wp2_with fail
                go_ret
                exact ⟨rfl, Below.then HB2.out HB4.out⟩
end Go.Proofs.YtncjlfhgenmheabDoor
