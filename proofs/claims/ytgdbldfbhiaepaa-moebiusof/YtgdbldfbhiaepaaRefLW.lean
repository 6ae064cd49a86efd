/-
  What the reference's LatticeMu answers: the walk. Conditions: a lattice of at most forty elements, two of them.
-/
import Derived.Test.YtgdbldfbhiaepaaRefLM
namespace Go.Proofs.Ytgdbldfbhiaepaa
open Go.RowKit Go.Maps

theorem updI_wz (M : Nat → Int) (z : Nat) (v : Int) : updI (fun u => wz (M u)) z (wz v) = fun u => wz (updI M z v u) := by
  funext u
  unfold updI
  split <;> rfl
theorem wz_neg (a : Int) : wrap64 (-wz a) = wz (-a) := by
  rw [← wz_is]
  obtain ⟨k, hk⟩ := wz_k a
  exact wz_eq (k := -k) (by rw [hk]; omega)
set_option maxRecDepth 100000 in
set_option maxHeartbeats 4000000 in
theorem latticeMu_any (q b1 o1 ca : Nat) (b2 : Option Addr) (lb cb : Nat) (R : Nat → Nat × Nat × Nat) (m j : Nat → Nat → Nat) (x y : Nat) (w : World) (h40 : q ≤ 40) (hlat : Lat q m j) (ht : Tb w b1 o1 q R m) (hx : x < q) (hy : y < q) :
    Calls Try.prog 16 #[.agg #[.int .i64 (q : Nat), .slice (some ⟨b1, o1, none⟩) q ca, .slice b2 lb cb], .int .i64 (x : Nat), .int .i64 (y : Nat)] w fun e w' => e = .returned (.int .i64 (wz (muL m q x y))) ∧ Below w.heap.size w w' := by
  have K0 := LB.new w (q : Nat) (some ⟨b1, o1, none⟩) q ca b2 lb cb
  have hb0 : Below w.heap.size w (w.alloc (.cells #[.int .i64 (q : Nat), .slice (some ⟨b1, o1, none⟩) q ca, .slice b2 lb cb] 35)) := (Below.refl _ _).alloc (Nat.le_refl _) _
  obtain ⟨W0, HW0⟩ : ∃ W0, Hid (W0 = w.alloc (.cells #[.int .i64 (q : Nat), .slice (some ⟨b1, o1, none⟩) q ca, .slice b2 lb cb] 35)) := ⟨_, rfl⟩
  rw [← HW0.out] at K0 hb0
  have HB0 : Hid (Below w.heap.size w W0) := hb0
  have HT0 : Hid (Tb W0 b1 o1 q R m) := ht.step hb0
  obtain ⟨k0, k1, k2⟩ := K0
  have HLAT : Hid (Lat q m j) := hlat
  clear hb0 ht hlat
  go_enter Try.func16, Try.ntmps16
  go_wp2_with fail
  rw [← HW0.out]
  go_wp2_with fail
  cases hu : leB m x y
  · have HE0 : Hid (wz (muL m q x y) = 0) := by
      show _ = _
      have : muL m q x y = 0 := by
        refine mu1_zero HLAT.out.rk HLAT.out.tr hx (rkC (sB m) q y + 1) y hy (by omega) (fun e => ?_) ?_
        · subst e
          have : m x x = x := (HLAT.out.lm.at hx hx hx).1
          simp [leB, this] at hu
        · unfold leB at hu; simp [sB, hu]
      rw [this]; simp [wz]
    refine (under_any q b1 o1 ca b2 lb cb R m x y _ _ hu HT0.out hx hy).mono ?_
    rintro e w1 ⟨rfl, hb1⟩
    have HB1 : Hid (Below w.heap.size w w1) := Below.then HB0.out hb1
    clear hb1 HB0 hu k0 k1 k2
    go_wp2_with fail
    go_ret
    exact ⟨by rw [HE0.out]; rfl, HB1.out⟩
  · refine (under_any q b1 o1 ca b2 lb cb R m x y _ _ hu HT0.out hx hy).mono ?_
    rintro e w1 ⟨rfl, hb1⟩
    have HU : Hid (leB m x y = true) := hu
    have HB1 : Hid (Below w.heap.size w w1) := Below.then HB0.out hb1
    have HK : Hid (∀ wx, Below w1.heap.size w1 wx → LB wx w.heap.size (q : Nat) (some ⟨b1, o1, none⟩) q ca b2 lb cb) := fun wx h => (LB.step ⟨k0, k1, k2⟩ hb1).step h
    have HT : Hid (∀ wx, Below w1.heap.size w1 wx → Tb wx b1 o1 q R m) := fun wx h => (HT0.out.step hb1).step h
    obtain ⟨l0, l1, l2⟩ := HK.out w1 (Below.refl _ _)
    clear hb1 HB0 hu k0 k1 k2 HT0 HW0
    obtain ⟨i0, hi, hz0, hz1, hz2⟩ := info_parts Try.info3
    obtain ⟨j0, hj, hy0, hy1, hy2⟩ := info_parts Try.info4
    go_wp2_with (first
      | (at_make; refine wpList_make_full _ rfl _ _ 22 rfl w1.heap.size 3 i0 (.int .i64 0) 1 Try.underlying22 hi hz0 hz1 .i64 .i64 _ _ q rfl rfl rfl rfl (by rw [hz2]; omega) (by unfold maxLen; omega) (Nat.le_refl _) ?_; intro w2 hown2 hgrow2; have l3 := (HK.out w2 ((Below.refl _ _).grown hgrow2 (Nat.le_refl _) (by simp))).1)
      | (at_make; refine wpList_make_full _ rfl _ _ 55 rfl w2.heap.size 4 j0 (.bool false) 1 Try.underlying55 hj hy0 hy1 .i64 .i64 _ _ q rfl rfl rfl rfl (by rw [hy2]; omega) (by unfold maxLen; omega) (Nat.le_refl _) ?_; intro w3 hown3 hgrow3))
    have hb2 : Below w1.heap.size w1 w2 := (Below.refl _ _).grown hgrow2 (Nat.le_refl _) (by simp)
    have hO2 := ownI_made hown2
    clear l0 l1 l2 l3
    have hb3 : Below w2.heap.size w2 w3 := (Below.refl _ _).grown hgrow3 (Nat.le_refl _) (by simp)
    have HD3 : Hid (OwnB w3 w2.heap.size q (fun _ => false)) := ownB_made hown3
    have HM3 : Hid (OwnI w3 w1.heap.size q (fun u => wz ((fun _ => (0 : Int)) u))) := (hO2.below hb3).congr fun _ _ => by simp [wz]
    have HB3 : Hid (Below w1.heap.size w1 w3) := Below.then hb2 hb3
    have HNE : Hid (w1.heap.size ≠ w2.heap.size) := fun e => by
      have := (World.block_lt_of_cell? _ _ (hO2 x hx).1)
      simp only at this
      omega
    have HS2 : Hid (w1.heap.size ≤ w2.heap.size) := hb2.size
    clear hown2 hgrow2 hown3 hgrow3 hi hz0 hz1 hz2 i0 hj hy0 hy1 hy2 j0 hb3 hb2 hO2
    obtain ⟨bd, HBD⟩ : ∃ bd, Hid (w2.heap.size = bd) := ⟨_, rfl⟩
    rw [HBD.out]
    rw [HBD.out] at HD3 HNE HS2
    go_loopw [9] (fun i wx => ∃ t : Nat, t ≤ q ∧ i = .int .i64 t ∧ ∃ d M, Hid (OwnB wx bd q d) ∧ Hid (OwnI wx w1.heap.size q (fun u => wz (M u))) ∧ Hid (Below w1.heap.size w1 wx) ∧ Hid (OkL m q x d M) ∧ Hid (Prg m q x t d)) (fun i _ => q - (intOf i).toNat)
    case atStart => exact ⟨0, Nat.zero_le _, rfl, _, _, HD3, HM3, HB3, (fun z _ h => by cases h), (fun z _ _ h => absurd h (Nat.not_lt_zero _))⟩
    case round =>
      clear HD3 HM3 HB3
      obtain ⟨t, htq, rfl, d, M, HD, HM, HB, HOK, HPR⟩ := hrel
      have l0 := (HK.out wr HB.out).1
      by_cases htl : t < q
      · have hlt : (t : Int) < (q : Int) := by omega
        go_wp2_with fail
        clear l0
        go_loopw [10] (fun i wx => ∃ z : Nat, z ≤ q ∧ i = .int .i64 z ∧ ∃ d M, Hid (OwnB wx bd q d) ∧ Hid (OwnI wx w1.heap.size q (fun u => wz (M u))) ∧ Hid (Below w1.heap.size w1 wx) ∧ Hid (OkL m q x d M) ∧ Hid (Prg m q x t d) ∧ Hid (Prz m q x t z d)) (fun i _ => q - (intOf i).toNat)
        case atStart => exact ⟨0, Nat.zero_le _, rfl, _, _, HD, HM, HB, HOK, HPR, fun z h => absurd h (Nat.not_lt_zero _)⟩
        case round =>
          clear HD HM HB HOK HPR d M
          obtain ⟨z, hzq, rfl, d, M, HD, HM, HB, HOK, HPR, HPZ⟩ := hrel
          have hL := HK.out wr HB.out
          have l0 := hL.1
          have l1 := hL.2.1
          have l2 := hL.2.2
          clear hL
          by_cases hzl : z < q
          · have hlz : (z : Int) < (q : Int) := by omega
            have hdz := (HD.out z hzl).1
            cases hdv : d z
            · rw [hdv] at hdz
              cases hxz : leB m x z
              · have HRD : Hid (rdy m d x z 0 = false) := by simp [rdy, hdv, hxz, Hid]
                go_wp2_with fail
                refine (under_any q b1 o1 ca b2 lb cb R m x z _ _ hxz (HT.out _ HB.out) hx hzl).mono ?_
                rintro e w5 ⟨rfl, hb5⟩
                have HB5 : Hid (Below w1.heap.size w1 w5) := Below.then HB.out hb5
                have HD5 : Hid (OwnB w5 bd q d) := HD.out.below hb5
                have HM5 : Hid (OwnI w5 w1.heap.size q (fun u => wz (M u))) := HM.out.below hb5
                clear hb5 HB HD HM l0 l1 l2 hdz hdv hxz
                have HB := HB5
                have HD := HD5
                have HM := HM5
                clear HB5 HD5 HM5
                go_wp2_with fail
                go_loopw [11, 12, 13] (fun v s i wx => ∃ k : Nat, k ≤ q ∧ i = .int .i64 k ∧ v = .bool (rdy m d x z k) ∧ s = .int .i64 (wz (smL m M x z k)) ∧ Hid (OwnB wx bd q d) ∧ Hid (OwnI wx w1.heap.size q (fun u => wz (M u))) ∧ Hid (Below w1.heap.size w1 wx)) (fun _ _ i _ => q - (intOf i).toNat)
                case atStart => exact ⟨0, Nat.zero_le _, rfl, by rw [HRD.out], by simp [smL, sumI, wz], HD, HM, HB⟩
                case round =>
                  clear HD HM HB HRD
                  obtain ⟨k, hkq, rfl, rfl, rfl, HD, HM, HB⟩ := hrel
                  have hL := HK.out wr HB.out
                  have l0 := hL.1
                  have l1 := hL.2.1
                  have l2 := hL.2.2
                  clear hL
                  by_cases hkl : k < q
                  · have hlk : (k : Int) < (q : Int) := by omega
                    by_cases hkz : k = z
                    · have hkz' : ((k : Int) != (z : Int)) = false := by simp; omega
                      have hcn : cnd m x z k = false := by simp [cnd, hkz]
                      have HR1 : Hid (rdy m d x z (k + 1) = rdy m d x z k) := by show _ = _; rw [rdy, hcn]; rfl
                      have HS1 : Hid (smL m M x z (k + 1) = smL m M x z k) := by show _ = _; unfold smL; rw [sumI, hcn]; simp
                      clear hcn
                      go_wp2_with fail
                      go_roundw
                      case rel => exact ⟨k + 1, by omega, by go_num, by rw [HR1.out], by rw [HS1.out], HD, HM, HB⟩
                      case measure => simp [intOf]; omega
                    · have hkz' : ((k : Int) != (z : Int)) = true := by simp; omega
                      cases hxk : leB m x k
                      · have hcn : cnd m x z k = false := by simp [cnd, hxk]
                        have HR1 : Hid (rdy m d x z (k + 1) = rdy m d x z k) := by show _ = _; rw [rdy, hcn]; rfl
                        have HS1 : Hid (smL m M x z (k + 1) = smL m M x z k) := by show _ = _; unfold smL; rw [sumI, hcn]; simp
                        clear hcn
                        go_wp2_with fail
                        refine (under_any q b1 o1 ca b2 lb cb R m x k _ _ hxk (HT.out _ HB.out) hx hkl).mono ?_
                        rintro e w6 ⟨rfl, hb6⟩
                        have HB6 : Hid (Below w1.heap.size w1 w6) := Below.then HB.out hb6
                        have HD6 : Hid (OwnB w6 bd q d) := HD.out.below hb6
                        have HM6 : Hid (OwnI w6 w1.heap.size q (fun u => wz (M u))) := HM.out.below hb6
                        clear hb6 HB HD HM l0 l1 l2 hxk
                        go_wp2_with fail
                        go_roundw
                        case rel => exact ⟨k + 1, by omega, by go_num, by rw [HR1.out], by rw [HS1.out], HD6, HM6, HB6⟩
                        case measure => simp [intOf]; omega
                      · go_wp2_with fail
                        refine (under_any q b1 o1 ca b2 lb cb R m x k _ _ hxk (HT.out _ HB.out) hx hkl).mono ?_
                        rintro e w6 ⟨rfl, hb6⟩
                        have HXK : Hid (leB m x k = true) := hxk
                        have HB6 : Hid (Below w1.heap.size w1 w6) := Below.then HB.out hb6
                        have HD6 : Hid (OwnB w6 bd q d) := HD.out.below hb6
                        have HM6 : Hid (OwnI w6 w1.heap.size q (fun u => wz (M u))) := HM.out.below hb6
                        clear hb6 HB HD HM l0 l1 l2 hxk
                        have hL := HK.out w6 HB6.out
                        have l0 := hL.1
                        have l1 := hL.2.1
                        have l2 := hL.2.2
                        clear hL
                        cases hkz2 : leB m k z
                        · have hcn : cnd m x z k = false := by simp [cnd, hkz2]
                          have HR1 : Hid (rdy m d x z (k + 1) = rdy m d x z k) := by show _ = _; rw [rdy, hcn]; rfl
                          have HS1 : Hid (smL m M x z (k + 1) = smL m M x z k) := by show _ = _; unfold smL; rw [sumI, hcn]; simp
                          clear hcn
                          go_wp2_with fail
                          refine (under_any q b1 o1 ca b2 lb cb R m k z _ _ hkz2 (HT.out _ HB6.out) hkl hzl).mono ?_
                          rintro e w7 ⟨rfl, hb7⟩
                          have HB7 : Hid (Below w1.heap.size w1 w7) := Below.then HB6.out hb7
                          have HD7 : Hid (OwnB w7 bd q d) := HD6.out.below hb7
                          have HM7 : Hid (OwnI w7 w1.heap.size q (fun u => wz (M u))) := HM6.out.below hb7
                          clear hb7 HB6 HD6 HM6 l0 l1 l2 hkz2
                          go_wp2_with fail
                          go_roundw
                          case rel => exact ⟨k + 1, by omega, by go_num, by rw [HR1.out], by rw [HS1.out], HD7, HM7, HB7⟩
                          case measure => simp [intOf]; omega
                        · have hcn : cnd m x z k = true := by have := HXK.out; simp [cnd, hkz2, hkz, this]
                          have HR1 : Hid (rdy m d x z (k + 1) = (rdy m d x z k && d k)) := by show _ = _; rw [rdy, hcn]; rfl
                          have HS1 : Hid (wrap64 (wz (smL m M x z k) + wz (M k)) = wz (smL m M x z (k + 1))) := by
                            show _ = _
                            rw [wz_add]; unfold smL; rw [sumI, hcn]; rfl
                          clear hcn
                          go_wp2_with fail
                          refine (under_any q b1 o1 ca b2 lb cb R m k z _ _ hkz2 (HT.out _ HB6.out) hkl hzl).mono ?_
                          rintro e w7 ⟨rfl, hb7⟩
                          have HB7 : Hid (Below w1.heap.size w1 w7) := Below.then HB6.out hb7
                          have HD7 : Hid (OwnB w7 bd q d) := HD6.out.below hb7
                          have HM7 : Hid (OwnI w7 w1.heap.size q (fun u => wz (M u))) := HM6.out.below hb7
                          clear hb7 HB6 HD6 HM6 l0 l1 l2 hkz2
                          have hdk := (HD7.out k hkl).1
                          have hmk := (HM7.out k hkl).1
                          simp only at hmk
                          obtain ⟨X, HX⟩ : ∃ X, Hid (wz (smL m M x z k) = X) := ⟨_, rfl⟩
                          obtain ⟨Y, HY⟩ : ∃ Y, Hid (wz (M k) = Y) := ⟨_, rfl⟩
                          rw [HX.out]
                          rw [HX.out, HY.out] at HS1
                          rw [HY.out] at hmk
                          cases hrk : rdy m d x z k
                          · have HR2 : Hid (rdy m d x z (k + 1) = false) := by show _ = _; rw [HR1.out, hrk]; rfl
                            clear HR1 hrk
                            go_wp2_with fail
                            go_roundw
                            case rel => exact ⟨k + 1, by omega, by go_num, by rw [HR2.out], by rw [← HS1.out], HD7, HM7, HB7⟩
                            case measure => simp [intOf]; omega
                          · have HR2 : Hid (rdy m d x z (k + 1) = d k) := by show _ = _; rw [HR1.out, hrk]; rfl
                            clear HR1 hrk
                            obtain ⟨dk, HDK⟩ : ∃ dk, Hid (d k = dk) := ⟨_, rfl⟩
                            rw [HDK.out] at hdk
                            go_wp2_with fail
                            go_roundw
                            case rel => exact ⟨k + 1, by omega, by go_num, by rw [HR2.out, HDK.out], by rw [← HS1.out], HD7, HM7, HB7⟩
                            case measure => simp [intOf]; omega
                  · obtain rfl : k = q := by omega
                    clear hkl
                    cases hrk : rdy m d x z k
                    · have HPZ2 : Hid (Prz m k x t (z + 1) d) := HPZ.out.skip HLAT.out hzl HPR.out hrk
                      clear hrk
                      go_wp2_with fail
                      go_roundw
                      case rel => exact ⟨z + 1, by omega, by go_num, d, M, HD, HM, HB, HOK, HPR, HPZ2⟩
                      case measure => simp [intOf]; omega
                    · have hrr := (rdy_iff k).1 hrk
                      have HOK2 : Hid (OkL m k x (updB d z true) (updI M z (muL m k x z))) := HOK.out.upd hrr.1.2
                      have HPR2 : Hid (Prg m k x t (updB d z true)) := HPR.out.upd
                      have HPZ2 : Hid (Prz m k x t (z + 1) (updB d z true)) := HPZ.out.upd
                      have hmz := (HM.out z hzl).1
                      have hmf := (HM.out z hzl).2
                      have hdz := (HD.out z hzl).1
                      have hdf := (HD.out z hzl).2
                      have hn1 : ¬ bd = w1.heap.size := fun e => HNE.out e.symm
                      have hn2 : ¬ w1.heap.size = bd := HNE.out
                      have HSZ : Hid (w1.heap.size ≤ bd) := HS2.out
                      by_cases hzx : z = x
                      · have HV : Hid (muL m k x z = 1) := by show _ = _; rw [hzx]; exact mu1_self HLAT.out.rk HLAT.out.tr hx
                        have hzx' : ((z : Int) == (x : Int)) = true := by simp; omega
                        clear hrr hrk hzx
                        generalize wz (smL m M x z k) = X at *
                        generalize wz (M z) = Y at *
                        generalize d z = dz at *
                        go_wp2_with fail
                        go_roundw
                        case rel => exact ⟨z + 1, by omega, by go_num, updB d z true, updI M z (muL m k x z), ((HD.out.far hn1 _).far hn1 _).set z true, by
                          have h := (HM.out.set z (wrap64 (-X))).set z 1
                          rw [updI_updI] at h
                          exact (h.far hn2 _).ext (by rw [HV.out, ← updI_wz]; rfl), ((HB.out.setCell (p := ⟨w1.heap.size, z, none⟩) (Nat.le_refl _) _).setCell (p := ⟨w1.heap.size, z, none⟩) (Nat.le_refl _) _).setCell (p := ⟨bd, z, none⟩) HSZ.out _, HOK2, HPR2, HPZ2⟩
                        case measure => simp [intOf]; omega
                      · have HV : Hid (wrap64 (-wz (smL m M x z k)) = wz (muL m k x z)) := by
                          show _ = _
                          rw [wz_neg, muL_sum HLAT.out hx hzl hzx hrr.1.2 fun u hu hc => (HOK.out u hu (hrr.2 u hu hc)).2]
                        have hzx' : ((z : Int) == (x : Int)) = false := by simp; omega
                        clear hrr hrk
                        obtain ⟨X, HX⟩ : ∃ X, Hid (wz (smL m M x z k) = X) := ⟨_, rfl⟩
                        rw [HX.out]
                        rw [HX.out] at HV
                        obtain ⟨Y, HY⟩ : ∃ Y, Hid (wz (muL m k x z) = Y) := ⟨_, rfl⟩
                        rw [HY.out] at HV
                        generalize wz (M z) = Y0 at *
                        generalize d z = dz at *
                        go_wp2_with fail
                        go_roundw
                        case rel => exact ⟨z + 1, by omega, by go_num, updB d z true, updI M z (muL m k x z), (HD.out.far hn1 _).set z true, by
                          have h := HM.out.set z (wrap64 (-X))
                          exact (h.far hn2 _).ext (by rw [HV.out, ← HY.out, ← updI_wz]), (HB.out.setCell (p := ⟨w1.heap.size, z, none⟩) (Nat.le_refl _) _).setCell (p := ⟨bd, z, none⟩) HSZ.out _, HOK2, HPR2, HPZ2⟩
                        case measure => simp [intOf]; omega
              · have HRD : Hid (rdy m d x z 0 = true) := by simp [rdy, hdv, hxz, Hid]
                go_wp2_with fail
                refine (under_any q b1 o1 ca b2 lb cb R m x z _ _ hxz (HT.out _ HB.out) hx hzl).mono ?_
                rintro e w5 ⟨rfl, hb5⟩
                have HB5 : Hid (Below w1.heap.size w1 w5) := Below.then HB.out hb5
                have HD5 : Hid (OwnB w5 bd q d) := HD.out.below hb5
                have HM5 : Hid (OwnI w5 w1.heap.size q (fun u => wz (M u))) := HM.out.below hb5
                clear hb5 HB HD HM l0 l1 l2 hdz hdv hxz
                have HB := HB5
                have HD := HD5
                have HM := HM5
                clear HB5 HD5 HM5
                go_wp2_with fail
                go_loopw [11, 12, 13] (fun v s i wx => ∃ k : Nat, k ≤ q ∧ i = .int .i64 k ∧ v = .bool (rdy m d x z k) ∧ s = .int .i64 (wz (smL m M x z k)) ∧ Hid (OwnB wx bd q d) ∧ Hid (OwnI wx w1.heap.size q (fun u => wz (M u))) ∧ Hid (Below w1.heap.size w1 wx)) (fun _ _ i _ => q - (intOf i).toNat)
                case atStart => exact ⟨0, Nat.zero_le _, rfl, by rw [HRD.out], by simp [smL, sumI, wz], HD, HM, HB⟩
                case round =>
                  clear HD HM HB HRD
                  obtain ⟨k, hkq, rfl, rfl, rfl, HD, HM, HB⟩ := hrel
                  have hL := HK.out wr HB.out
                  have l0 := hL.1
                  have l1 := hL.2.1
                  have l2 := hL.2.2
                  clear hL
                  by_cases hkl : k < q
                  · have hlk : (k : Int) < (q : Int) := by omega
                    by_cases hkz : k = z
                    · have hkz' : ((k : Int) != (z : Int)) = false := by simp; omega
                      have hcn : cnd m x z k = false := by simp [cnd, hkz]
                      have HR1 : Hid (rdy m d x z (k + 1) = rdy m d x z k) := by show _ = _; rw [rdy, hcn]; rfl
                      have HS1 : Hid (smL m M x z (k + 1) = smL m M x z k) := by show _ = _; unfold smL; rw [sumI, hcn]; simp
                      clear hcn
                      go_wp2_with fail
                      go_roundw
                      case rel => exact ⟨k + 1, by omega, by go_num, by rw [HR1.out], by rw [HS1.out], HD, HM, HB⟩
                      case measure => simp [intOf]; omega
                    · have hkz' : ((k : Int) != (z : Int)) = true := by simp; omega
                      cases hxk : leB m x k
                      · have hcn : cnd m x z k = false := by simp [cnd, hxk]
                        have HR1 : Hid (rdy m d x z (k + 1) = rdy m d x z k) := by show _ = _; rw [rdy, hcn]; rfl
                        have HS1 : Hid (smL m M x z (k + 1) = smL m M x z k) := by show _ = _; unfold smL; rw [sumI, hcn]; simp
                        clear hcn
                        go_wp2_with fail
                        refine (under_any q b1 o1 ca b2 lb cb R m x k _ _ hxk (HT.out _ HB.out) hx hkl).mono ?_
                        rintro e w6 ⟨rfl, hb6⟩
                        have HB6 : Hid (Below w1.heap.size w1 w6) := Below.then HB.out hb6
                        have HD6 : Hid (OwnB w6 bd q d) := HD.out.below hb6
                        have HM6 : Hid (OwnI w6 w1.heap.size q (fun u => wz (M u))) := HM.out.below hb6
                        clear hb6 HB HD HM l0 l1 l2 hxk
                        go_wp2_with fail
                        go_roundw
                        case rel => exact ⟨k + 1, by omega, by go_num, by rw [HR1.out], by rw [HS1.out], HD6, HM6, HB6⟩
                        case measure => simp [intOf]; omega
                      · go_wp2_with fail
                        refine (under_any q b1 o1 ca b2 lb cb R m x k _ _ hxk (HT.out _ HB.out) hx hkl).mono ?_
                        rintro e w6 ⟨rfl, hb6⟩
                        have HXK : Hid (leB m x k = true) := hxk
                        have HB6 : Hid (Below w1.heap.size w1 w6) := Below.then HB.out hb6
                        have HD6 : Hid (OwnB w6 bd q d) := HD.out.below hb6
                        have HM6 : Hid (OwnI w6 w1.heap.size q (fun u => wz (M u))) := HM.out.below hb6
                        clear hb6 HB HD HM l0 l1 l2 hxk
                        have hL := HK.out w6 HB6.out
                        have l0 := hL.1
                        have l1 := hL.2.1
                        have l2 := hL.2.2
                        clear hL
                        cases hkz2 : leB m k z
                        · have hcn : cnd m x z k = false := by simp [cnd, hkz2]
                          have HR1 : Hid (rdy m d x z (k + 1) = rdy m d x z k) := by show _ = _; rw [rdy, hcn]; rfl
                          have HS1 : Hid (smL m M x z (k + 1) = smL m M x z k) := by show _ = _; unfold smL; rw [sumI, hcn]; simp
                          clear hcn
                          go_wp2_with fail
                          refine (under_any q b1 o1 ca b2 lb cb R m k z _ _ hkz2 (HT.out _ HB6.out) hkl hzl).mono ?_
                          rintro e w7 ⟨rfl, hb7⟩
                          have HB7 : Hid (Below w1.heap.size w1 w7) := Below.then HB6.out hb7
                          have HD7 : Hid (OwnB w7 bd q d) := HD6.out.below hb7
                          have HM7 : Hid (OwnI w7 w1.heap.size q (fun u => wz (M u))) := HM6.out.below hb7
                          clear hb7 HB6 HD6 HM6 l0 l1 l2 hkz2
                          go_wp2_with fail
                          go_roundw
                          case rel => exact ⟨k + 1, by omega, by go_num, by rw [HR1.out], by rw [HS1.out], HD7, HM7, HB7⟩
                          case measure => simp [intOf]; omega
                        · have hcn : cnd m x z k = true := by have := HXK.out; simp [cnd, hkz2, hkz, this]
                          have HR1 : Hid (rdy m d x z (k + 1) = (rdy m d x z k && d k)) := by show _ = _; rw [rdy, hcn]; rfl
                          have HS1 : Hid (wrap64 (wz (smL m M x z k) + wz (M k)) = wz (smL m M x z (k + 1))) := by
                            show _ = _
                            rw [wz_add]; unfold smL; rw [sumI, hcn]; rfl
                          clear hcn
                          go_wp2_with fail
                          refine (under_any q b1 o1 ca b2 lb cb R m k z _ _ hkz2 (HT.out _ HB6.out) hkl hzl).mono ?_
                          rintro e w7 ⟨rfl, hb7⟩
                          have HB7 : Hid (Below w1.heap.size w1 w7) := Below.then HB6.out hb7
                          have HD7 : Hid (OwnB w7 bd q d) := HD6.out.below hb7
                          have HM7 : Hid (OwnI w7 w1.heap.size q (fun u => wz (M u))) := HM6.out.below hb7
                          clear hb7 HB6 HD6 HM6 l0 l1 l2 hkz2
                          have hdk := (HD7.out k hkl).1
                          have hmk := (HM7.out k hkl).1
                          simp only at hmk
                          obtain ⟨X, HX⟩ : ∃ X, Hid (wz (smL m M x z k) = X) := ⟨_, rfl⟩
                          obtain ⟨Y, HY⟩ : ∃ Y, Hid (wz (M k) = Y) := ⟨_, rfl⟩
                          rw [HX.out]
                          rw [HX.out, HY.out] at HS1
                          rw [HY.out] at hmk
                          cases hrk : rdy m d x z k
                          · have HR2 : Hid (rdy m d x z (k + 1) = false) := by show _ = _; rw [HR1.out, hrk]; rfl
                            clear HR1 hrk
                            go_wp2_with fail
                            go_roundw
                            case rel => exact ⟨k + 1, by omega, by go_num, by rw [HR2.out], by rw [← HS1.out], HD7, HM7, HB7⟩
                            case measure => simp [intOf]; omega
                          · have HR2 : Hid (rdy m d x z (k + 1) = d k) := by show _ = _; rw [HR1.out, hrk]; rfl
                            clear HR1 hrk
                            obtain ⟨dk, HDK⟩ : ∃ dk, Hid (d k = dk) := ⟨_, rfl⟩
                            rw [HDK.out] at hdk
                            go_wp2_with fail
                            go_roundw
                            case rel => exact ⟨k + 1, by omega, by go_num, by rw [HR2.out, HDK.out], by rw [← HS1.out], HD7, HM7, HB7⟩
                            case measure => simp [intOf]; omega
                  · obtain rfl : k = q := by omega
                    clear hkl
                    cases hrk : rdy m d x z k
                    · have HPZ2 : Hid (Prz m k x t (z + 1) d) := HPZ.out.skip HLAT.out hzl HPR.out hrk
                      clear hrk
                      go_wp2_with fail
                      go_roundw
                      case rel => exact ⟨z + 1, by omega, by go_num, d, M, HD, HM, HB, HOK, HPR, HPZ2⟩
                      case measure => simp [intOf]; omega
                    · have hrr := (rdy_iff k).1 hrk
                      have HOK2 : Hid (OkL m k x (updB d z true) (updI M z (muL m k x z))) := HOK.out.upd hrr.1.2
                      have HPR2 : Hid (Prg m k x t (updB d z true)) := HPR.out.upd
                      have HPZ2 : Hid (Prz m k x t (z + 1) (updB d z true)) := HPZ.out.upd
                      have hmz := (HM.out z hzl).1
                      have hmf := (HM.out z hzl).2
                      have hdz := (HD.out z hzl).1
                      have hdf := (HD.out z hzl).2
                      have hn1 : ¬ bd = w1.heap.size := fun e => HNE.out e.symm
                      have hn2 : ¬ w1.heap.size = bd := HNE.out
                      have HSZ : Hid (w1.heap.size ≤ bd) := HS2.out
                      by_cases hzx : z = x
                      · have HV : Hid (muL m k x z = 1) := by show _ = _; rw [hzx]; exact mu1_self HLAT.out.rk HLAT.out.tr hx
                        have hzx' : ((z : Int) == (x : Int)) = true := by simp; omega
                        clear hrr hrk hzx
                        generalize wz (smL m M x z k) = X at *
                        generalize wz (M z) = Y at *
                        generalize d z = dz at *
                        go_wp2_with fail
                        go_roundw
                        case rel => exact ⟨z + 1, by omega, by go_num, updB d z true, updI M z (muL m k x z), ((HD.out.far hn1 _).far hn1 _).set z true, by
                          have h := (HM.out.set z (wrap64 (-X))).set z 1
                          rw [updI_updI] at h
                          exact (h.far hn2 _).ext (by rw [HV.out, ← updI_wz]; rfl), ((HB.out.setCell (p := ⟨w1.heap.size, z, none⟩) (Nat.le_refl _) _).setCell (p := ⟨w1.heap.size, z, none⟩) (Nat.le_refl _) _).setCell (p := ⟨bd, z, none⟩) HSZ.out _, HOK2, HPR2, HPZ2⟩
                        case measure => simp [intOf]; omega
                      · have HV : Hid (wrap64 (-wz (smL m M x z k)) = wz (muL m k x z)) := by
                          show _ = _
                          rw [wz_neg, muL_sum HLAT.out hx hzl hzx hrr.1.2 fun u hu hc => (HOK.out u hu (hrr.2 u hu hc)).2]
                        have hzx' : ((z : Int) == (x : Int)) = false := by simp; omega
                        clear hrr hrk
                        obtain ⟨X, HX⟩ : ∃ X, Hid (wz (smL m M x z k) = X) := ⟨_, rfl⟩
                        rw [HX.out]
                        rw [HX.out] at HV
                        obtain ⟨Y, HY⟩ : ∃ Y, Hid (wz (muL m k x z) = Y) := ⟨_, rfl⟩
                        rw [HY.out] at HV
                        generalize wz (M z) = Y0 at *
                        generalize d z = dz at *
                        go_wp2_with fail
                        go_roundw
                        case rel => exact ⟨z + 1, by omega, by go_num, updB d z true, updI M z (muL m k x z), (HD.out.far hn1 _).set z true, by
                          have h := HM.out.set z (wrap64 (-X))
                          exact (h.far hn2 _).ext (by rw [HV.out, ← HY.out, ← updI_wz]), (HB.out.setCell (p := ⟨w1.heap.size, z, none⟩) (Nat.le_refl _) _).setCell (p := ⟨bd, z, none⟩) HSZ.out _, HOK2, HPR2, HPZ2⟩
                        case measure => simp [intOf]; omega
            · rw [hdv] at hdz
              have HRD : Hid (rdy m d x z 0 = false) := by simp [rdy, hdv, Hid]
              clear hdv
              go_wp2_with fail
              clear l0 l1 l2 hdz
              go_loopw [11, 12, 13] (fun v s i wx => ∃ k : Nat, k ≤ q ∧ i = .int .i64 k ∧ v = .bool (rdy m d x z k) ∧ s = .int .i64 (wz (smL m M x z k)) ∧ Hid (OwnB wx bd q d) ∧ Hid (OwnI wx w1.heap.size q (fun u => wz (M u))) ∧ Hid (Below w1.heap.size w1 wx)) (fun _ _ i _ => q - (intOf i).toNat)
              case atStart => exact ⟨0, Nat.zero_le _, rfl, by rw [HRD.out], by simp [smL, sumI, wz], HD, HM, HB⟩
              case round =>
                clear HD HM HB HRD
                obtain ⟨k, hkq, rfl, rfl, rfl, HD, HM, HB⟩ := hrel
                have hL := HK.out wr HB.out
                have l0 := hL.1
                have l1 := hL.2.1
                have l2 := hL.2.2
                clear hL
                by_cases hkl : k < q
                · have hlk : (k : Int) < (q : Int) := by omega
                  by_cases hkz : k = z
                  · have hkz' : ((k : Int) != (z : Int)) = false := by simp; omega
                    have hcn : cnd m x z k = false := by simp [cnd, hkz]
                    have HR1 : Hid (rdy m d x z (k + 1) = rdy m d x z k) := by show _ = _; rw [rdy, hcn]; rfl
                    have HS1 : Hid (smL m M x z (k + 1) = smL m M x z k) := by show _ = _; unfold smL; rw [sumI, hcn]; simp
                    clear hcn
                    go_wp2_with fail
                    go_roundw
                    case rel => exact ⟨k + 1, by omega, by go_num, by rw [HR1.out], by rw [HS1.out], HD, HM, HB⟩
                    case measure => simp [intOf]; omega
                  · have hkz' : ((k : Int) != (z : Int)) = true := by simp; omega
                    cases hxk : leB m x k
                    · have hcn : cnd m x z k = false := by simp [cnd, hxk]
                      have HR1 : Hid (rdy m d x z (k + 1) = rdy m d x z k) := by show _ = _; rw [rdy, hcn]; rfl
                      have HS1 : Hid (smL m M x z (k + 1) = smL m M x z k) := by show _ = _; unfold smL; rw [sumI, hcn]; simp
                      clear hcn
                      go_wp2_with fail
                      refine (under_any q b1 o1 ca b2 lb cb R m x k _ _ hxk (HT.out _ HB.out) hx hkl).mono ?_
                      rintro e w6 ⟨rfl, hb6⟩
                      have HB6 : Hid (Below w1.heap.size w1 w6) := Below.then HB.out hb6
                      have HD6 : Hid (OwnB w6 bd q d) := HD.out.below hb6
                      have HM6 : Hid (OwnI w6 w1.heap.size q (fun u => wz (M u))) := HM.out.below hb6
                      clear hb6 HB HD HM l0 l1 l2 hxk
                      go_wp2_with fail
                      go_roundw
                      case rel => exact ⟨k + 1, by omega, by go_num, by rw [HR1.out], by rw [HS1.out], HD6, HM6, HB6⟩
                      case measure => simp [intOf]; omega
                    · go_wp2_with fail
                      refine (under_any q b1 o1 ca b2 lb cb R m x k _ _ hxk (HT.out _ HB.out) hx hkl).mono ?_
                      rintro e w6 ⟨rfl, hb6⟩
                      have HXK : Hid (leB m x k = true) := hxk
                      have HB6 : Hid (Below w1.heap.size w1 w6) := Below.then HB.out hb6
                      have HD6 : Hid (OwnB w6 bd q d) := HD.out.below hb6
                      have HM6 : Hid (OwnI w6 w1.heap.size q (fun u => wz (M u))) := HM.out.below hb6
                      clear hb6 HB HD HM l0 l1 l2 hxk
                      have hL := HK.out w6 HB6.out
                      have l0 := hL.1
                      have l1 := hL.2.1
                      have l2 := hL.2.2
                      clear hL
                      cases hkz2 : leB m k z
                      · have hcn : cnd m x z k = false := by simp [cnd, hkz2]
                        have HR1 : Hid (rdy m d x z (k + 1) = rdy m d x z k) := by show _ = _; rw [rdy, hcn]; rfl
                        have HS1 : Hid (smL m M x z (k + 1) = smL m M x z k) := by show _ = _; unfold smL; rw [sumI, hcn]; simp
                        clear hcn
                        go_wp2_with fail
                        refine (under_any q b1 o1 ca b2 lb cb R m k z _ _ hkz2 (HT.out _ HB6.out) hkl hzl).mono ?_
                        rintro e w7 ⟨rfl, hb7⟩
                        have HB7 : Hid (Below w1.heap.size w1 w7) := Below.then HB6.out hb7
                        have HD7 : Hid (OwnB w7 bd q d) := HD6.out.below hb7
                        have HM7 : Hid (OwnI w7 w1.heap.size q (fun u => wz (M u))) := HM6.out.below hb7
                        clear hb7 HB6 HD6 HM6 l0 l1 l2 hkz2
                        go_wp2_with fail
                        go_roundw
                        case rel => exact ⟨k + 1, by omega, by go_num, by rw [HR1.out], by rw [HS1.out], HD7, HM7, HB7⟩
                        case measure => simp [intOf]; omega
                      · have hcn : cnd m x z k = true := by have := HXK.out; simp [cnd, hkz2, hkz, this]
                        have HR1 : Hid (rdy m d x z (k + 1) = (rdy m d x z k && d k)) := by show _ = _; rw [rdy, hcn]; rfl
                        have HS1 : Hid (wrap64 (wz (smL m M x z k) + wz (M k)) = wz (smL m M x z (k + 1))) := by
                          show _ = _
                          rw [wz_add]; unfold smL; rw [sumI, hcn]; rfl
                        clear hcn
                        go_wp2_with fail
                        refine (under_any q b1 o1 ca b2 lb cb R m k z _ _ hkz2 (HT.out _ HB6.out) hkl hzl).mono ?_
                        rintro e w7 ⟨rfl, hb7⟩
                        have HB7 : Hid (Below w1.heap.size w1 w7) := Below.then HB6.out hb7
                        have HD7 : Hid (OwnB w7 bd q d) := HD6.out.below hb7
                        have HM7 : Hid (OwnI w7 w1.heap.size q (fun u => wz (M u))) := HM6.out.below hb7
                        clear hb7 HB6 HD6 HM6 l0 l1 l2 hkz2
                        have hdk := (HD7.out k hkl).1
                        have hmk := (HM7.out k hkl).1
                        simp only at hmk
                        obtain ⟨X, HX⟩ : ∃ X, Hid (wz (smL m M x z k) = X) := ⟨_, rfl⟩
                        obtain ⟨Y, HY⟩ : ∃ Y, Hid (wz (M k) = Y) := ⟨_, rfl⟩
                        rw [HX.out]
                        rw [HX.out, HY.out] at HS1
                        rw [HY.out] at hmk
                        cases hrk : rdy m d x z k
                        · have HR2 : Hid (rdy m d x z (k + 1) = false) := by show _ = _; rw [HR1.out, hrk]; rfl
                          clear HR1 hrk
                          go_wp2_with fail
                          go_roundw
                          case rel => exact ⟨k + 1, by omega, by go_num, by rw [HR2.out], by rw [← HS1.out], HD7, HM7, HB7⟩
                          case measure => simp [intOf]; omega
                        · have HR2 : Hid (rdy m d x z (k + 1) = d k) := by show _ = _; rw [HR1.out, hrk]; rfl
                          clear HR1 hrk
                          obtain ⟨dk, HDK⟩ : ∃ dk, Hid (d k = dk) := ⟨_, rfl⟩
                          rw [HDK.out] at hdk
                          go_wp2_with fail
                          go_roundw
                          case rel => exact ⟨k + 1, by omega, by go_num, by rw [HR2.out, HDK.out], by rw [← HS1.out], HD7, HM7, HB7⟩
                          case measure => simp [intOf]; omega
                · obtain rfl : k = q := by omega
                  clear hkl
                  cases hrk : rdy m d x z k
                  · have HPZ2 : Hid (Prz m k x t (z + 1) d) := HPZ.out.skip HLAT.out hzl HPR.out hrk
                    clear hrk
                    go_wp2_with fail
                    go_roundw
                    case rel => exact ⟨z + 1, by omega, by go_num, d, M, HD, HM, HB, HOK, HPR, HPZ2⟩
                    case measure => simp [intOf]; omega
                  · have hrr := (rdy_iff k).1 hrk
                    have HOK2 : Hid (OkL m k x (updB d z true) (updI M z (muL m k x z))) := HOK.out.upd hrr.1.2
                    have HPR2 : Hid (Prg m k x t (updB d z true)) := HPR.out.upd
                    have HPZ2 : Hid (Prz m k x t (z + 1) (updB d z true)) := HPZ.out.upd
                    have hmz := (HM.out z hzl).1
                    have hmf := (HM.out z hzl).2
                    have hdz := (HD.out z hzl).1
                    have hdf := (HD.out z hzl).2
                    have hn1 : ¬ bd = w1.heap.size := fun e => HNE.out e.symm
                    have hn2 : ¬ w1.heap.size = bd := HNE.out
                    have HSZ : Hid (w1.heap.size ≤ bd) := HS2.out
                    by_cases hzx : z = x
                    · have HV : Hid (muL m k x z = 1) := by show _ = _; rw [hzx]; exact mu1_self HLAT.out.rk HLAT.out.tr hx
                      have hzx' : ((z : Int) == (x : Int)) = true := by simp; omega
                      clear hrr hrk hzx
                      generalize wz (smL m M x z k) = X at *
                      generalize wz (M z) = Y at *
                      generalize d z = dz at *
                      go_wp2_with fail
                      go_roundw
                      case rel => exact ⟨z + 1, by omega, by go_num, updB d z true, updI M z (muL m k x z), ((HD.out.far hn1 _).far hn1 _).set z true, by
                        have h := (HM.out.set z (wrap64 (-X))).set z 1
                        rw [updI_updI] at h
                        exact (h.far hn2 _).ext (by rw [HV.out, ← updI_wz]; rfl), ((HB.out.setCell (p := ⟨w1.heap.size, z, none⟩) (Nat.le_refl _) _).setCell (p := ⟨w1.heap.size, z, none⟩) (Nat.le_refl _) _).setCell (p := ⟨bd, z, none⟩) HSZ.out _, HOK2, HPR2, HPZ2⟩
                      case measure => simp [intOf]; omega
                    · have HV : Hid (wrap64 (-wz (smL m M x z k)) = wz (muL m k x z)) := by
                        show _ = _
                        rw [wz_neg, muL_sum HLAT.out hx hzl hzx hrr.1.2 fun u hu hc => (HOK.out u hu (hrr.2 u hu hc)).2]
                      have hzx' : ((z : Int) == (x : Int)) = false := by simp; omega
                      clear hrr hrk
                      obtain ⟨X, HX⟩ : ∃ X, Hid (wz (smL m M x z k) = X) := ⟨_, rfl⟩
                      rw [HX.out]
                      rw [HX.out] at HV
                      obtain ⟨Y, HY⟩ : ∃ Y, Hid (wz (muL m k x z) = Y) := ⟨_, rfl⟩
                      rw [HY.out] at HV
                      generalize wz (M z) = Y0 at *
                      generalize d z = dz at *
                      go_wp2_with fail
                      go_roundw
                      case rel => exact ⟨z + 1, by omega, by go_num, updB d z true, updI M z (muL m k x z), (HD.out.far hn1 _).set z true, by
                        have h := HM.out.set z (wrap64 (-X))
                        exact (h.far hn2 _).ext (by rw [HV.out, ← HY.out, ← updI_wz]), (HB.out.setCell (p := ⟨w1.heap.size, z, none⟩) (Nat.le_refl _) _).setCell (p := ⟨bd, z, none⟩) HSZ.out _, HOK2, HPR2, HPZ2⟩
                      case measure => simp [intOf]; omega
          · obtain rfl : z = q := by omega
            have HPN : Hid (Prg m z x (t + 1) d) := HPZ.out.done
            go_wp2_with fail
            go_roundw
            case rel => exact ⟨t + 1, by omega, by go_num, d, M, HD, HM, HB, HOK, HPN⟩
            case measure => simp [intOf]; omega
      · obtain rfl : t = q := by omega
        have HF : Hid (M y = muL m t x y) := (HOK.out y hy (HPR.out y hy HU.out (rkC_small hy (sB_irr m y)))).2
        have hcy := (HM.out y hy).1
        have hly : (y : Int) < (t : Int) := by omega
        simp only [HF.out] at hcy
        clear HD HM HOK HPR
        obtain ⟨Z, HZ⟩ : ∃ Z, Hid (wz (muL m t x y) = Z) := ⟨_, rfl⟩
        rw [HZ.out] at hcy
        go_wp2_with fail
        go_ret
        exact ⟨by rw [HZ.out]; rfl, Below.then HB1.out HB.out⟩
end Go.Proofs.Ytgdbldfbhiaepaa
