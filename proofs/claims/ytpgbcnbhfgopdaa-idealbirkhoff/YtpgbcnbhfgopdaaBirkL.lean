/-
  hasselaw.IdealBirkhoff returns true for every lattice. No condition but that a slice reads as what it is.
-/
import Derived.Deep.RegionHeld3
import Derived.Test.YtpgbcnbhfgopdaaIBegun
import Derived.Test.YtpgbcnbhfgopdaaRefIrr
import Derived.Test.YtpgbcnbhfgopdaaBirM
import Derived.Test.YtpgbcnbhfgopdaaPlaceR
namespace Go.Proofs.Ytpgbcnbhfgopdaa
open Go.RowKit

set_option maxRecDepth 20000 in
set_option maxHeartbeats 8000000 in
theorem idealBirkhoff_any (n : Int) (a : Option Addr) (la ca : Nat) (SA : Nat → Option Addr × Nat × Nat) (FA : Nat → Nat → Int) (b : Option Addr) (lb cb : Nat) (SB : Nat → Option Addr × Nat × Nat) (FB : Nat → Nat → Int) (w : World) (hla : la ≤ maxLen) (hlb : lb ≤ maxLen) (hra : RR w a la SA FA) (hrb : RR w b lb SB FB) :
    Calls Try.prog 8 #[.agg #[.int .i64 n, .slice a la ca, .slice b lb cb]] w fun e w' => e = .returned (.bool true) ∧ Below w.heap.size w w' := by
  obtain ⟨i0, hi, hz0, hz1, hz2⟩ := info_parts Try.info3
  have B1 : Below w.heap.size w (w.alloc (.cells #[.int .i64 n, .slice a la ca, .slice b lb cb] 27)) := (Below.refl _ _).alloc (Nat.le_refl _) _
  have L0 := LB.new w n a la ca b lb cb
  have HB1 : Hid (Below w.heap.size w (w.alloc (.cells #[.int .i64 n, .slice a la ca, .slice b lb cb] 27))) := B1
  have HRA0 : Hid (RR _ a la SA FA) := hra.below HB1.out
  have HRB0 : Hid (RR _ b lb SB FB) := hrb.below HB1.out
  clear hra hrb B1
  go_enter Try.func8, Try.ntmps8
  go_wp2_with fail
  refine (idealBegun_any _).mono ?_
  rintro e w0 ⟨rfl, hb0⟩
  have L1 := L0.step hb0
  have HRA : Hid (RR w0 a la SA FA) := HRA0.out.below hb0
  have HRB : Hid (RR w0 b lb SB FB) := HRB0.out.below hb0
  have HB0 : Hid (Below w.heap.size w w0) := Below.then HB1.out hb0
  have l0 := L1.1
  have l1 := L1.2.1
  have l2 := L1.2.2
  clear hb0 HB1 HRA0 HRB0 L0
  go_wp2_with fail
  refine (points_any n a la ca SA FA b lb cb SB FB _ hla hlb HRA.out HRB.out).mono ?_
  rintro e w1 ⟨⟨c0, c, v, hc0, hc, rfl, hv⟩, hb1⟩
  obtain ⟨vk, va, vl, vcp, rfl⟩ := hv.form
  obtain ⟨w2, HW2⟩ : ∃ w2, Hid (w2 = w1.alloc (.cells #[.int .i64 vk, .slice va vl vcp] 24)) := ⟨_, rfl⟩
  have hb2 : Below w1.heap.size w1 w2 := by rw [HW2.out]; exact (Below.refl _ _).alloc (Nat.le_refl _) _
  have X2 : Box w2 w1.heap.size vk va vl vcp := by rw [HW2.out]; exact Box.new _ _ _ _ _
  have L2 := (L1.step hb1).step hb2
  have HRA2 : Hid (RR w2 a la SA FA) := (HRA.out.below hb1).below hb2
  have HRB2 : Hid (RR w2 b lb SB FB) := (HRB.out.below hb1).below hb2
  have HV2 : Hid (OrdErr c _ _ _ (.agg #[.int .i64 vk, .slice va vl vcp]) w2) := hv.step hb2
  have HB2 : Hid (Below w.heap.size w w2) := Below.then (Below.then HB0.out hb1) hb2
  have L2e := L2
  rw [HW2.out] at L2e
  have k0 := L2e.1
  have k1 := L2e.2.1
  have k2 := L2e.2.2
  clear HRA HRB HB0 l0 l1 l2 L1 hb1 hb2 hv
  by_cases h0 : c = 0
  · subst h0
    obtain ⟨rfl, hk10⟩ : c0 = 0 ∧ (irrs (nat2 FA) (nat2 FB) n.toNat).length ≤ 10 := by
      rcases hc with ⟨h, e⟩ | ⟨h, ⟨e, _⟩ | ⟨_, h2⟩⟩
      · exact absurd e.symm h
      · omega
      · exact ⟨h, h2⟩
    obtain ⟨q, rfl, h1, h40, e1, e2, hs1, hs2, hg1, hg2, hlat⟩ := hc0.good
    obtain rfl := e1.symm
    obtain rfl := e2.symm
    obtain ⟨b1, o1, rfl, ht1, _⟩ := HRA2.out.tb h1 hs1 hg1
    obtain ⟨b2, o2, rfl, ht2, _⟩ := HRB2.out.tb h1 hs2 hg2
    rw [show (q : Int).toNat = q from rfl] at hk10 HV2
    have HLAT : Hid (Lat q (nat2 FA) (nat2 FB)) := hlat
    have HK10 : Hid ((irrs (nat2 FA) (nat2 FB) q).length ≤ 10) := hk10
    have HLC : Hid (LCk (q : Int) q SA FA q SB FB 0) := hc0
    have HT2 : Hid (Tb w2 b1 o1 q (fun x => rAt (SA x)) (nat2 FA)) := ht1
    obtain ⟨⟨rfl, rfl⟩, hrow, _⟩ := HV2.out.low rfl
    have HROW : Hid (Row w2 va (irrs (nat2 FA) (nat2 FB) q).length (fun k => (pbl (nat2 FA) (nat2 FB) q k : Nat))) := hrow
    have HCHK : Hid (Chk ((irrs (nat2 FA) (nat2 FB) q).length : Int) (irrs (nat2 FA) (nat2 FB) q).length (fun k => (pbl (nat2 FA) (nat2 FB) q k : Nat)) 0) := hlat.pbl_chk hk10
    have HBIRK : Hid (All3 q (disB (nat2 FA) (nat2 FB)) ↔ q = (idls (pbl (nat2 FA) (nat2 FB) q) (irrs (nat2 FA) (nat2 FB) q).length).length) := hlat.birk h1 hk10
    have HSL : Hid ((idls (pbl (nat2 FA) (nat2 FB) q) (irrs (nat2 FA) (nat2 FB) q).length).length ≤ maxLen) := Nat.le_trans (idls_len _ _ hk10) (by unfold maxLen; omega)
    obtain ⟨K, HK⟩ : ∃ K, Hid (K = (irrs (nat2 FA) (nat2 FB) q).length) := ⟨_, rfl⟩
    obtain ⟨IL, HIL⟩ : ∃ IL, Hid (IL = idls (pbl (nat2 FA) (nat2 FB) q) K) := ⟨_, rfl⟩
    have HIN : Hid (∀ x, x < q → ∃ k, k < IL.length ∧ nth IL k = pst (nat2 FA) (nat2 FB) q x) := fun x hx => by
      rw [HIL.out, HK.out]
      exact ⟨_, plc_is (HLAT.out.pst_in HK10.out hx)⟩
    rw [← HK.out] at X2 HROW HCHK HBIRK HSL hk10 HW2 k0 k1 k2 L2e
    rw [← HIL.out] at HBIRK HSL
    have HKM : Hid (K ≤ maxLen) := by rw [Hid]; unfold maxLen; omega
    clear hc hc0 hs1 hs2 hg1 hg2 hlat ht1 ht2 hrow HV2
    rw [← HK.out]
    go_wp2_with fail
    rw [← HW2.out]
    clear HW2 L2e k0 k1 k2
    refine (distr_any q (some ⟨b1, o1, none⟩) q ca SA FA (some ⟨b2, o2, none⟩) q cb SB FB _ hla hlb HRA2.out HRB2.out).mono ?_
    rintro e w3 ⟨⟨c3, v3, hc3, rfl, hv3⟩, hb3⟩
    obtain rfl := LCk.one hc3 HLC.out
    have HV3 : Hid ((v3 == ((q : Int) == ((IL.length : Nat) : Int))) = true) := by
      rcases hv3 with ⟨h, _⟩ | ⟨_, h⟩
      · exact absurd rfl h
      · have h2 := h.trans HBIRK.out
        rw [Hid, beq_iff_eq, Bool.eq_iff_iff, h2]
        simp; omega
    have L3 := L2.step hb3
    have X3 := X2.step hb3
    have x0 := X3.1
    have x1 := X3.2
    have HROW3 : Hid (Row w3 va K (fun k => (pbl (nat2 FA) (nat2 FB) q k : Nat))) := HROW.out.below hb3
    have HB3 : Hid (Below w.heap.size w w3) := Below.then HB2.out hb3
    have HRA3 : Hid (RR w3 (some ⟨b1, o1, none⟩) q SA FA) := HRA2.out.below hb3
    have HRB3 : Hid (RR w3 (some ⟨b2, o2, none⟩) q SB FB) := HRB2.out.below hb3
    have HT3 : Hid (Tb w3 b1 o1 q (fun x => rAt (SA x)) (nat2 FA)) := HT2.out.step hb3
    clear hc3 hv3 hb3 L2 X2 HROW HB2 HRA2 HRB2 HT2
    go_wp2_with fail
    refine (ideals_any K va K vcp (fun k => (pbl (nat2 FA) (nat2 FB) q k : Nat)) _ HKM.out HROW3.out).mono ?_
    rintro e W ⟨⟨c4, v4, hc4, rfl, hv4⟩, hb4⟩
    obtain rfl := Chk.unique hc4 HCHK.out
    obtain ⟨va4, vc4, rfl, hr4⟩ : NSl W v4 IL := by
      rcases hv4 with ⟨h, _⟩ | ⟨_, h⟩
      · exact absurd rfl h
      · rw [HIL.out]; exact h
    have HLW : Hid (∀ w', Below W.heap.size W w' → LB w' w.heap.size (q : Int) (some ⟨b1, o1, none⟩) q ca (some ⟨b2, o2, none⟩) q cb) := fun w' h => (L3.step hb4).step h
    have HRI : Hid (∀ w', Below W.heap.size W w' → Row w' va4 IL.length (fun k => (nth IL k : Nat))) := fun w' h => hr4.below h
    have HRAW : Hid (∀ w', Below W.heap.size W w' → RR w' (some ⟨b1, o1, none⟩) q SA FA) := fun w' h => (HRA3.out.below hb4).below h
    have HRBW : Hid (∀ w', Below W.heap.size W w' → RR w' (some ⟨b2, o2, none⟩) q SB FB) := fun w' h => (HRB3.out.below hb4).below h
    have LT : Hid (∀ w', Below W.heap.size W w' → Tb w' b1 o1 q (fun x => rAt (SA x)) (nat2 FA)) := fun w' h => (HT3.out.step hb4).step h
    have HBW : Hid (Below w.heap.size w W) := Below.then HB3.out hb4
    clear hc4 hv4 hb4 hr4 L3 X3 x0 x1 HROW3 HB3 HRA3 HRB3 HT3
    obtain ⟨IN, HILN⟩ : ∃ IN, Hid (IN = IL.length) := ⟨_, rfl⟩
    rw [← HILN.out] at HV3 HSL HBIRK ⊢
    have hin : IN ≤ maxLen := HSL.out
    unfold maxLen at hin
    go_wp2_with fail
    go_loopw [9, 10] (fun u i wx => ∃ k : Nat, k ≤ q ∧ i = .int .i64 k ∧ Hid (wx.ownsRow W.heap.size 3 1 u (psl (nat2 FA) (nat2 FB) q k).length (natVals (psl (nat2 FA) (nat2 FB) q k))) ∧ Hid (Below W.heap.size W wx)) (fun _ i _ => q - (intOf i).toNat)
    case atStart => exact ⟨0, Nat.zero_le _, rfl, World.ownsRow_nil _ _ _ _, Below.refl _ _⟩
    case round =>
      obtain ⟨k, hk, rfl, HOW, HW⟩ := hrel
      have L5 := HLW.out _ HW.out
      have l0 := L5.1
      have l1 := L5.2.1
      have l2 := L5.2.2
      by_cases hlt : k < q
      · go_wp2_with fail
        refine (setL_any q (some ⟨b1, o1, none⟩) q ca SA FA (some ⟨b2, o2, none⟩) q cb SB FB (k : Int) _ hla hlb (HRAW.out _ HW.out) (HRBW.out _ HW.out)).mono ?_
        rintro e w5 ⟨⟨c5, c6, v5, hc5, hc6, rfl, hv5⟩, hb5⟩
        obtain rfl := LCk.one hc5 HLC.out
        obtain rfl : c6 = 0 := hc6.one (.inr ⟨rfl, .inr ⟨⟨by omega, by omega⟩, .inr ⟨rfl, HK10.out⟩⟩⟩)
        obtain rfl : v5 = ((pst (nat2 FA) (nat2 FB) q k : Nat) : Int) := by
          rcases hv5 with ⟨h, _⟩ | ⟨_, h⟩
          · exact absurd rfl h
          · exact h
        have HW5 : Hid (Below W.heap.size W w5) := Below.then HW.out hb5
        have HO5 : Hid (w5.ownsRow W.heap.size 3 1 u9 (psl (nat2 FA) (nat2 FB) q k).length (natVals (psl (nat2 FA) (nat2 FB) q k))) := owns_below HOW.out hb5
        obtain ⟨sa, sc, rfl, hsr⟩ := owns_nats HO5.out
        have HSR : Hid (Row w5 sa (psl (nat2 FA) (nat2 FB) q k).length (fun i => (nth (psl (nat2 FA) (nat2 FB) q k) i : Nat))) := hsr
        have HOUT : Hid (∀ i, i < (psl (nat2 FA) (nat2 FB) q k).length → nth (psl (nat2 FA) (nat2 FB) q k) i ≠ pst (nat2 FA) (nat2 FB) q k) := fun i hi e => by
          rw [psl_len] at hi
          rw [psl_at k i hi] at e
          have := HLAT.out.pst_one h1 (by omega) hlt e
          omega
        have HNX : Hid (psl (nat2 FA) (nat2 FB) q (k + 1) = psl (nat2 FA) (nat2 FB) q k ++ [pst (nat2 FA) (nat2 FB) q k]) := rfl
        have HPL : Hid ((psl (nat2 FA) (nat2 FB) q k).length = k) := psl_len k
        have HINK : Hid (∃ i, i < IL.length ∧ nth IL i = pst (nat2 FA) (nat2 FB) q k) := HIN.out k hlt
        obtain ⟨PL, HPLE⟩ : ∃ PL, Hid (PL = psl (nat2 FA) (nat2 FB) q k) := ⟨_, rfl⟩
        rw [← HPLE.out] at HSR HOUT HNX HPL HO5 ⊢
        obtain ⟨PS, HPS⟩ : ∃ PS, Hid (PS = pst (nat2 FA) (nat2 FB) q k) := ⟨_, rfl⟩
        rw [← HPS.out] at HOUT HNX HINK ⊢
        clear hc5 hc6 hv5 hb5 HOW HW hsr HPLE HPS L5 l0 l1 l2
        have HKL : Hid (k ≤ maxLen) := by rw [Hid]; unfold maxLen; omega
        have hown := HO5.out
        have hsz := HW5.out.size
        rw [HPL.out] at hown ⊢
        go_wp2_with fail
        refine (place_in IL va4 IN vc4 PS _ HSL.out HILN.out (HRI.out _ HW5.out) HINK.out).mono ?_
        rintro e wz ⟨⟨r, rfl⟩, rfl⟩
        go_wp2_with fail
        refine (place_out PL sa k sc PS _ HKL.out HPL.out.symm HSR.out HOUT.out).mono ?_
        rintro e wz ⟨rfl, rfl⟩
        go_wp2_with (at_builtin; refine wpList_append_own _ rfl _ _ 22 rfl W.heap.size 3 i0 (.int .i64 0) 1 8 Try.underlying22 hi hz0 hz1 hz2 rfl (by decide) _ _ _ rfl (hown.alloc _) ⟨w5.heap.size, 0, none⟩ 1 1 [.int .i64 (PS : Nat)] rfl rfl ?c1 ?c2 ?c3 ?c4 ?c5 ?_)
        case c1 =>
          intro j u hj
          match j, hj with
          | 0, hj => simp at hj; subst hj; simp [Addr.add]
        case c2 => intro u hu; simp at hu; subst hu; rfl
        case c3 => unfold maxLen; omega
        case c4 => omega
        case c5 => simp; omega
        intro v' w6 hown' hgrow _
        have HW6 : Hid (Below W.heap.size W w6) := (HW5.out.alloc hsz _).grown hgrow (by simp; omega) (owns_block hown)
        have HO6 : Hid (w6.ownsRow W.heap.size 3 1 v' (PL ++ [PS]).length (natVals (PL ++ [PS]))) := by
          rw [natVals_append, List.length_append, HPL.out]; exact hown'
        clear hown' hgrow hown HO5 HW5
        go_wp2_with fail
        go_roundw
        case rel => exact ⟨k + 1, by omega, by go_num, by rw [HNX.out]; exact HO6.out, HW6.out⟩
        case measure => simp [intOf]; omega
      · obtain rfl : q = k := by omega
        obtain ⟨sa, sc, rfl, hsr⟩ := owns_nats HOW.out
        rw [psl_len] at hsr ⊢
        obtain ⟨V, HV⟩ : ∃ V, Hid (V = wr) := ⟨_, rfl⟩
        have HSET : Hid (∀ w', Below V.heap.size V w' → ∀ i, i < q → ∃ sb so, sa = some ⟨sb, so, none⟩ ∧ w'.cell? ⟨sb, so + i, none⟩ = some (.int .i64 (pst (nat2 FA) (nat2 FB) q i : Nat))) := fun w' h i hi => by
          rw [HV.out] at h
          obtain ⟨sb, so, e, hc⟩ := hsr.below h i hi
          dsimp only at hc
          rw [psl_at q i hi] at hc
          exact ⟨sb, so, e, hc⟩
        have HBV : Hid (Below W.heap.size W V) := by rw [HV.out]; exact HW.out
        have LTV : Hid (∀ w', Below V.heap.size V w' → Tb w' b1 o1 q (fun x => rAt (SA x)) (nat2 FA)) := fun w' h => LT.out w' (Below.then HBV.out h)
        have HLV : Hid (∀ w', Below V.heap.size V w' → LB w' w.heap.size (q : Int) (some ⟨b1, o1, none⟩) q ca (some ⟨b2, o2, none⟩) q cb) := fun w' h => HLW.out w' (Below.then HBV.out h)
        clear hsr HOW HRI HIN
        go_wp2_with fail
        rw [← HV.out]
        clear HV HW
        clear l0 l1 l2 L5
        go_loopw [13] (fun i wx => ∃ x : Nat, x ≤ q ∧ i = .int .i64 x ∧ Hid (Below V.heap.size V wx)) (fun i _ => q - (intOf i).toNat)
        case atStart => exact ⟨0, Nat.zero_le _, rfl, Below.refl _ _⟩
        case round =>
          obtain ⟨x, hx, rfl, HW0⟩ := hrel
          have l0 := (HLV.out _ HW0.out).1
          by_cases hxq : x < q
          · go_wp2_with fail
            clear l0
            go_loopw [14] (fun i wx => ∃ y : Nat, y ≤ q ∧ i = .int .i64 y ∧ Hid (Below V.heap.size V wx)) (fun i _ => q - (intOf i).toNat)
            case atStart => exact ⟨0, Nat.zero_le _, rfl, HW0⟩
            case round =>
              clear HW0
              obtain ⟨y, hy, rfl, HWY⟩ := hrel
              have l0 := (HLV.out _ HWY.out).1
              by_cases hyq : y < q
              · obtain ⟨vu, HVU⟩ : ∃ vu, Hid (leB (nat2 FA) x y = vu) := ⟨_, rfl⟩
                have HSX : Hid (pst (nat2 FA) (nat2 FB) q x < 9223372036854775808) := Nat.lt_trans (set_small pst_lt HK10.out) (by decide)
                have HSY : Hid (pst (nat2 FA) (nat2 FB) q y < 9223372036854775808) := Nat.lt_trans (set_small pst_lt HK10.out) (by decide)
                have HVI : Hid ((lack (pst (nat2 FA) (nat2 FB) q x) (pst (nat2 FA) (nat2 FB) q y) == 0) = vu) := by
                  have h1 := HSX.out
                  have h2 := HSY.out
                  rw [Hid, ← HVU.out, Bool.eq_iff_iff, beq_iff_eq, leB_iff, HLAT.out.pst_le (by assumption) hxq hyq, lack_zero _ _ (by omega) (by omega)]
                  exact Iff.rfl
                obtain ⟨sb, so, rfl, _⟩ := HSET.out V (Below.refl _ _) x hxq
                have c1 : ∀ w', Below V.heap.size V w' → w'.cell? ⟨sb, so + x, none⟩ = some (.int .i64 (pst (nat2 FA) (nat2 FB) q x : Nat)) := fun w' h => by
                  obtain ⟨sb', so', e, hc⟩ := HSET.out w' h x hxq
                  injection e with e
                  injection e with e1 e2
                  subst e1
                  subst e2
                  exact hc
                have c2 : ∀ w', Below V.heap.size V w' → w'.cell? ⟨sb, so + y, none⟩ = some (.int .i64 (pst (nat2 FA) (nat2 FB) q y : Nat)) := fun w' h => by
                  obtain ⟨sb', so', e, hc⟩ := HSET.out w' h y hyq
                  injection e with e
                  injection e with e1 e2
                  subst e1
                  subst e2
                  exact hc
                have m0 : ∀ w', Below V.heap.size V w' → w'.cell? ⟨w.heap.size, 0, none⟩ = some (.int .i64 (q : Int)) := fun w' h => (HLV.out w' h).1
                have m1 : ∀ w', Below V.heap.size V w' → w'.cell? ⟨w.heap.size, 1, none⟩ = some (.slice (some ⟨b1, o1, none⟩) q ca) := fun w' h => (HLV.out w' h).2.1
                have m2 : ∀ w', Below V.heap.size V w' → w'.cell? ⟨w.heap.size, 2, none⟩ = some (.slice (some ⟨b2, o2, none⟩) q cb) := fun w' h => (HLV.out w' h).2.2
                have i1 : (x : Int) < (q : Int) := by omega
                have i2 : (y : Int) < (q : Int) := by omega
                go_wp2_with fail
                clear l0
                refine wp_region_held_drew (S := (fun w' => Below V.heap.size V w')) (by kernel_rfl) (HWY.out.drew) (fun hHeld => ?_)
                refine wpAnyH_take (i := 0) (oi := { dst := some 82, op := Go.Op.load 27 (Go.Operand.tmp 1), type := 27, pos := "lattice.go:633", after := #[], guard := none }) (v := ?_) rfl (by kernel_rfl) (by kernel_rfl) (by kernel_rfl) (fun _ _ _ h => h) (Or.inl ⟨by rfl, ?hy⟩) (by assumption) ?_
                case hy => (intro w9 hSw; (try dsimp only at hSw); go_simp; try with_reducible rfl)
                try simp only [Act.put, List.setIfInBounds_toArray, List.set_cons_zero, List.set_cons_succ]
                refine wpAnyH_take (i := 1) (oi := { dst := some 83, op := Go.Op.move (Go.Operand.tmp 13), type := 3, pos := "lattice.go:633", after := #[], guard := none }) (v := ?_) rfl (by kernel_rfl) (by kernel_rfl) (by kernel_rfl) (fun _ _ _ h => h) (Or.inl ⟨by rfl, ?hy⟩) (by assumption) ?_
                case hy => (intro w9 hSw; (try dsimp only at hSw); go_simp; try with_reducible rfl)
                try simp only [Act.put, List.setIfInBounds_toArray, List.set_cons_zero, List.set_cons_succ]
                refine wpAnyH_take (i := 2) (oi := { dst := some 84, op := Go.Op.move (Go.Operand.tmp 14), type := 3, pos := "lattice.go:633", after := #[], guard := none }) (v := ?_) rfl (by kernel_rfl) (by kernel_rfl) (by kernel_rfl) (fun _ _ _ h => h) (Or.inl ⟨by rfl, ?hy⟩) (by assumption) ?_
                case hy => (intro w9 hSw; (try dsimp only at hSw); go_simp; try with_reducible rfl)
                try simp only [Act.put, List.setIfInBounds_toArray, List.set_cons_zero, List.set_cons_succ]
                refine wpAnyH_take (i := 4) (oi := { dst := some 86, op := Go.Op.move (Go.Operand.tmp 9), type := 22, pos := "lattice.go:633", after := #[], guard := none }) (v := ?_) rfl (by kernel_rfl) (by kernel_rfl) (by kernel_rfl) (fun _ _ _ h => h) (Or.inl ⟨by rfl, ?hy⟩) (by assumption) ?_
                case hy => (intro w9 hSw; (try dsimp only at hSw); go_simp; try with_reducible rfl)
                try simp only [Act.put, List.setIfInBounds_toArray, List.set_cons_zero, List.set_cons_succ]
                refine wpAnyH_take (i := 5) (oi := { dst := some 87, op := Go.Op.move (Go.Operand.tmp 13), type := 3, pos := "lattice.go:633", after := #[], guard := none }) (v := ?_) rfl (by kernel_rfl) (by kernel_rfl) (by kernel_rfl) (fun _ _ _ h => h) (Or.inl ⟨by rfl, ?hy⟩) (by assumption) ?_
                case hy => (intro w9 hSw; (try dsimp only at hSw); go_simp; try with_reducible rfl)
                try simp only [Act.put, List.setIfInBounds_toArray, List.set_cons_zero, List.set_cons_succ]
                refine wpAnyH_take (i := 6) (oi := { dst := some 88, op := Go.Op.indexAddr 22 (Go.Operand.tmp 86) (Go.Operand.tmp 87), type := 0, pos := "lattice.go:633", after := #[{ on := 4, ground := Go.Ground.data }, { on := 5, ground := Go.Ground.data }], guard := none }) (v := ?_) rfl (by kernel_rfl) (by kernel_rfl) (by kernel_rfl) (fun _ _ _ h => h) (Or.inl ⟨by rfl, ?hy⟩) (by assumption) ?_
                case hy => (intro w9 hSw; (try dsimp only at hSw); go_simp; try with_reducible rfl)
                try simp only [Act.put, List.setIfInBounds_toArray, List.set_cons_zero, List.set_cons_succ]
                refine wpAnyH_take (i := 7) (oi := { dst := some 89, op := Go.Op.load 3 (Go.Operand.tmp 88), type := 3, pos := "lattice.go:633", after := #[{ on := 6, ground := Go.Ground.data }], guard := none }) (v := ?_) rfl (by kernel_rfl) (by kernel_rfl) (by kernel_rfl) (fun _ _ _ h => h) (Or.inl ⟨by rfl, ?hy⟩) (by assumption) ?_
                case hy => (intro w9 hSw; (try dsimp only at hSw); go_simp; try with_reducible rfl)
                try simp only [Act.put, List.setIfInBounds_toArray, List.set_cons_zero, List.set_cons_succ]
                refine wpAnyH_take (i := 8) (oi := { dst := some 90, op := Go.Op.move (Go.Operand.tmp 9), type := 22, pos := "lattice.go:633", after := #[], guard := none }) (v := ?_) rfl (by kernel_rfl) (by kernel_rfl) (by kernel_rfl) (fun _ _ _ h => h) (Or.inl ⟨by rfl, ?hy⟩) (by assumption) ?_
                case hy => (intro w9 hSw; (try dsimp only at hSw); go_simp; try with_reducible rfl)
                try simp only [Act.put, List.setIfInBounds_toArray, List.set_cons_zero, List.set_cons_succ]
                refine wpAnyH_take (i := 9) (oi := { dst := some 91, op := Go.Op.move (Go.Operand.tmp 14), type := 3, pos := "lattice.go:633", after := #[], guard := none }) (v := ?_) rfl (by kernel_rfl) (by kernel_rfl) (by kernel_rfl) (fun _ _ _ h => h) (Or.inl ⟨by rfl, ?hy⟩) (by assumption) ?_
                case hy => (intro w9 hSw; (try dsimp only at hSw); go_simp; try with_reducible rfl)
                try simp only [Act.put, List.setIfInBounds_toArray, List.set_cons_zero, List.set_cons_succ]
                refine wpAnyH_take (i := 10) (oi := { dst := some 92, op := Go.Op.indexAddr 22 (Go.Operand.tmp 90) (Go.Operand.tmp 91), type := 0, pos := "lattice.go:633", after := #[{ on := 8, ground := Go.Ground.data }, { on := 9, ground := Go.Ground.data }], guard := none }) (v := ?_) rfl (by kernel_rfl) (by kernel_rfl) (by kernel_rfl) (fun _ _ _ h => h) (Or.inl ⟨by rfl, ?hy⟩) (by assumption) ?_
                case hy => (intro w9 hSw; (try dsimp only at hSw); go_simp; try with_reducible rfl)
                try simp only [Act.put, List.setIfInBounds_toArray, List.set_cons_zero, List.set_cons_succ]
                refine wpAnyH_take (i := 11) (oi := { dst := some 93, op := Go.Op.load 3 (Go.Operand.tmp 92), type := 3, pos := "lattice.go:633", after := #[{ on := 10, ground := Go.Ground.data }], guard := none }) (v := ?_) rfl (by kernel_rfl) (by kernel_rfl) (by kernel_rfl) (fun _ _ _ h => h) (Or.inl ⟨by rfl, ?hy⟩) (by assumption) ?_
                case hy => (intro w9 hSw; (try dsimp only at hSw); go_simp; try with_reducible rfl)
                try simp only [Act.put, List.setIfInBounds_toArray, List.set_cons_zero, List.set_cons_succ]
                refine wpAnyH_ready (rs := [3]) (by kernel_rfl) (by simp) ?_
                refine AllReadyH.cons (o := { dst := some 85, op := Go.Op.call { callee := Go.Callee.value (Go.Operand.func 31), args := #[Go.Operand.tmp 82, Go.Operand.tmp 83, Go.Operand.tmp 84], argTypes := #[27, 3, 3] }, type := 4, pos := "lattice.go:633", after := #[{ on := 0, ground := Go.Ground.data }, { on := 1, ground := Go.Ground.data }, { on := 2, ground := Go.Ground.data }], guard := none }) rfl (fun K hK => ?_) AllReadyH.nil
                go_simp
                refine (under_any q b1 o1 ca (some ⟨b2, o2, none⟩) q cb _ (nat2 FA) x y _ vu HVU.out (LTV.out _ (by assumption)) hxq hyq).mono ?_
                rintro e w9 ⟨rfl, hbb9⟩
                refine hK.out _ _ ?_ (fun hHeld => ?_)
                · first | assumption | exact Below.then (by assumption) (by assumption)
                clear hK K
                try simp only [Act.put, List.setIfInBounds_toArray, List.set_cons_zero, List.set_cons_succ]
                refine wpAnyH_ready (rs := [12]) (by kernel_rfl) (by simp) ?_
                refine AllReadyH.cons (o := { dst := some 94, op := Go.Op.call { callee := Go.Callee.value (Go.Operand.func 32), args := #[Go.Operand.tmp 89, Go.Operand.tmp 93], argTypes := #[3, 3] }, type := 4, pos := "lattice.go:633", after := #[{ on := 7, ground := Go.Ground.data }, { on := 11, ground := Go.Ground.data }, { on := 3, ground := Go.Ground.chain }], guard := none }) rfl (fun K hK => ?_) AllReadyH.nil
                go_simp
                refine (inside_any (pst (nat2 FA) (nat2 FB) q x) (pst (nat2 FA) (nat2 FB) q y) _ HSX.out HSY.out).mono ?_
                rintro e wz ⟨rfl, rfl⟩
                rw [HVI.out]
                refine hK.out _ _ ?_ (fun hHeld => ?_)
                · first | assumption | exact Below.then (by assumption) (by assumption)
                clear hK K
                try simp only [Act.put, List.setIfInBounds_toArray, List.set_cons_zero, List.set_cons_succ]
                refine wpAnyH_take (i := 13) (oi := { dst := some 95, op := Go.Op.binOp Go.BinOp.neq 4 (Go.Operand.tmp 85) (Go.Operand.tmp 94) 4, type := 4, pos := "lattice.go:633", after := #[{ on := 3, ground := Go.Ground.data }, { on := 12, ground := Go.Ground.data }], guard := none }) (v := .bool false) rfl (by kernel_rfl) (by kernel_rfl) (by kernel_rfl) (fun _ _ _ h => h) (Or.inl ⟨by rfl, ?hy⟩) (by assumption) ?_
                case hy => (intro w9 hSw; (try dsimp only at hSw); go_simp <;> (first | with_reducible rfl | (simp; omega) | omega))
                try simp only [Act.put, List.setIfInBounds_toArray, List.set_cons_zero, List.set_cons_succ]
                refine wpAnyH_done (by kernel_rfl) ?_ _
                try simp only [Act.put, List.setIfInBounds_toArray, List.set_cons_zero, List.set_cons_succ]
                have hb8 : Below V.heap.size V w9 := by first | assumption | exact hHeld
                have HW9 : Hid (Below V.heap.size V w9) := hb8
                clear hb8 hHeld
                go_wp2_with fail
                go_roundw
                case rel => exact ⟨y + 1, by omega, by go_num, HW9⟩
                case measure => simp [intOf]; omega
              · obtain rfl : q = y := by omega
                go_wp2_with fail
                go_roundw
                case rel => exact ⟨x + 1, by omega, by go_num, HWY⟩
                case measure => simp [intOf]; omega
          · obtain rfl : q = x := by omega
            have hfin : (v3 == ((q : Int) == (IN : Int))) = true := HV3.out
            have HBF := Below.then HBW.out (Below.then HBV.out HW0.out)
            go_wp2_with fail
            go_ret
            exact ⟨rfl, HBF⟩
  · have hne : (c != 0) = true := by simpa using h0
    go_wp2_with fail
    rw [← HW2.out]
    go_ret
    exact ⟨rfl, HB2.out⟩
end Go.Proofs.Ytpgbcnbhfgopdaa
