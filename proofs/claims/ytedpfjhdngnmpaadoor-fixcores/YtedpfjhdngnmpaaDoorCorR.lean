/-
  What the reference's CoreOf answers. Conditions: an order of at most ten points.
-/
import Derived.Test.YtedpfjhdngnmpaaDoorPartR
namespace Go.Proofs.YtedpfjhdngnmpaaDoor
open Go.RowKit

theorem lackOk : ((List.range 1024).all fun x => (List.range 10).all fun p => !x.testBit p || (lack x (pw p) == x - pw p && decide (pw p ≤ x))) = true := by decide +kernel
theorem lack_sub {x p : Nat} (hx : x < 1024) (hb : x.testBit p = true) : lack x (pw p) = x - pw p ∧ pw p ≤ x := by
  have hp : p < 10 := bit_of_lt (n := 10) hx hb
  have h1 := List.all_eq_true.1 lackOk x (List.mem_range.2 hx)
  have h2 := List.all_eq_true.1 h1 p (List.mem_range.2 hp)
  simpa [hb] using h2
/-- What has been found behind the first j of a part. -/
def GoneI (g : Nat → Nat) (L : List Nat) (j : Nat) (G : Int) : Prop :=
  (G = -1 ∧ ∀ i, j ≤ i → i < L.length → mayP g L i = false) ∨ (∃ t, j ≤ t ∧ t < L.length ∧ G = (nth L t : Nat) ∧ mayP g L t = true ∧ ∀ i, j ≤ i → i < t → mayP g L i = false)
theorem GoneI.start (g : Nat → Nat) (L : List Nat) : GoneI g L L.length (-1) := .inl ⟨rfl, fun i h1 h2 => by omega⟩
theorem GoneI.yes {g : Nat → Nat} {L : List Nat} {j : Nat} (hj : j < L.length) (h : mayP g L j = true) : GoneI g L j (nth L j : Nat) := .inr ⟨j, Nat.le_refl _, hj, rfl, h, fun i h1 h2 => by omega⟩
theorem GoneI.no {g : Nat → Nat} {L : List Nat} {j : Nat} {G : Int} (h : GoneI g L (j + 1) G) (hm : mayP g L j = false) : GoneI g L j G := by
  rcases h with ⟨e, h⟩ | ⟨t, h1, h2, e, h3, h4⟩
  · refine .inl ⟨e, fun i hi hl => ?_⟩
    by_cases k : i = j
    · subst k; exact hm
    · exact h i (by omega) hl
  · refine .inr ⟨t, by omega, h2, e, h3, fun i hi hl => ?_⟩
    by_cases k : i = j
    · subst k; exact hm
    · exact h4 i (by omega) hl
theorem cntQ_succ (P : Nat → Bool) (k : Nat) : cntQ P (k + 1) = cntQ P k + (P k).toNat := by
  rw [cntQ]
  cases P k <;> simp
theorem prt_sm (g : Nat → Nat) (L : List Nat) : Sm L.length L.length (prt g L) := fun _ _ => setBy_lt _ _
/-- Two cells of a block. -/
def OBv (w : World) (b : Nat) (u v : Value) : Prop := w.cell? ⟨b, 0, none⟩ = some u ∧ w.cell? ⟨b, 1, none⟩ = some v
theorem OBv.step {w w' : World} {b : Nat} {u v : Value} (h : OBv w b u v) (hb : Below w.heap.size w w') : OBv w' b u v := ⟨cell_step hb h.1, cell_step hb h.2⟩
theorem OBv.new (w : World) (u v : Value) : OBv (w.alloc (.cells #[u, v] 24)) w.heap.size u v := ⟨by simp, by simp⟩

set_option maxRecDepth 100000 in
set_option maxHeartbeats 8000000 in
theorem coreOf_any (q : Nat) (a : Option Addr) (ca : Nat) (g : Nat → Nat) (w : World) (h10 : q ≤ 10) (hg : ∀ k, k < q → g k < pw q) (hr : Row w a q (fun k => (g k : Nat))) :
    Calls Tryd.prog 6 #[.agg #[.int .i64 (q : Nat), .slice a q ca]] w fun e w' => e = .returned (.int .i64 (core g (trn g q) q (pw q - 1) (pw q - 1) : Nat)) ∧ Below w.heap.size w w' := by
  have hpw : pw q ≤ 1024 := pw_le q h10
  have hp1 : 1 ≤ pw q := Nat.two_pow_pos q
  obtain ⟨W, HW⟩ : ∃ W, Hid (W = w.alloc (.cells #[.int .i64 (q : Nat), .slice a q ca] 24)) := ⟨_, rfl⟩
  have hbW : Below w.heap.size w W := by rw [HW.out]; exact (Below.refl _ _).alloc (Nat.le_refl _) _
  have xa : OB W w.heap.size (q : Nat) a q ca := by rw [HW.out]; exact OB.new _ _ _ _ _
  have HXX : Hid (∀ wx, Below W.heap.size W wx → OB wx w.heap.size (q : Nat) a q ca ∧ Row wx a q (fun k => (g k : Nat))) := fun wx h => ⟨xa.step h, (hr.below hbW).below h⟩
  have HBW : Hid (Below w.heap.size w W) := hbW
  have HG : Hid (∀ k, k < q → g k < pw q) := hg
  have HG1 : Hid (∀ k, k < q → g k < 1024) := fun k hk => Nat.lt_of_lt_of_le (hg k hk) hpw
  obtain ⟨C, HC⟩ : ∃ C, Hid (C = core g (trn g q) q (pw q - 1) (pw q - 1)) := ⟨_, rfl⟩
  rw [← HC.out]
  obtain ⟨Z, HZ⟩ : ∃ Z, Hid (Z = pw q) := ⟨_, rfl⟩
  rw [← HZ.out] at hpw hp1
  obtain ⟨l0, l1⟩ := xa
  clear hbW hr hg
  go_enter Tryd.func6, Tryd.ntmps6
  go_wp2_with fail
  rw [← HW.out]
  go_wp2_with fail
  refine (bit_any q _ (by omega)).mono ?_
  rintro e w' ⟨rfl, rfl⟩
  rw [← HZ.out]
  clear l0 l1 HW
  go_wp2_with fail
  go_loopw [3] (fun s wx => ∃ left fuel : Nat, s = .int .i64 left ∧ left < Z ∧ Hid (left ≤ fuel ∧ C = core g (trn g q) q fuel left) ∧ Hid (Below W.heap.size W wx)) (fun s _ => (intOf s).toNat)
  case atStart => exact ⟨Z - 1, Z - 1, by go_num, by omega, ⟨Nat.le_refl _, by rw [HC.out, HZ.out]⟩, Below.refl _ _⟩
  case round =>
    obtain ⟨left, fuel, rfl, hlz, HF, HB⟩ := hrel
    obtain ⟨⟨l0, l1⟩, hrow⟩ := HXX.out _ HB.out
    have hl1 : left < 1024 := by omega
    have HPT : Hid (Calls Tryd.prog 15 #[.agg #[.int .i64 (q : Int), .slice a q ca], .int .i64 left] wr fun e w' => OrderPost wr (pts left q).length (prt g (pts left q)) e w' ∧ Below wr.heap.size wr w') := refPart_any a q ca left g wr h10 HG1.out hl1 hrow
    have HLZ : Hid (left < pw q) := by rw [← HZ.out]; exact hlz
    clear hrow
    go_wp2_with fail
    refine Calls.mono HPT.out ?_
    rintro e w1 ⟨⟨pa, pcap, rfl, hpr, _⟩, hb1⟩
    obtain ⟨L, HL⟩ : ∃ L, Hid (L = pts left q) := ⟨_, rfl⟩
    rw [← HL.out] at hpr ⊢
    obtain ⟨m, HM⟩ : ∃ m, Hid (m = L.length) := ⟨_, rfl⟩
    rw [← HM.out] at hpr ⊢
    have hm10 : m ≤ 10 := by rw [HM.out, HL.out]; exact Nat.le_trans (pts_len left q) h10
    obtain ⟨V, HV⟩ : ∃ V, Hid (V = w1.alloc (.cells #[.int .i64 (m : Int), .slice pa m pcap] 24)) := ⟨_, rfl⟩
    have hbV : Below w1.heap.size w1 V := by rw [HV.out]; exact (Below.refl _ _).alloc (Nat.le_refl _) _
    have xv : OBv V w1.heap.size (.int .i64 (m : Int)) (.slice pa m pcap) := by rw [HV.out]; exact OBv.new _ _ _
    have HB2 : Hid (Below W.heap.size W V) := Below.then (Below.then HB.out hb1) hbV
    have HPR : Hid (∀ wx, Below V.heap.size V wx → OBv wx w1.heap.size (.int .i64 (m : Int)) (.slice pa m pcap) ∧ Row wx pa m (fun k => (prt g L k : Nat))) := fun wx h => ⟨xv.step h, (hpr.below hbV).below h⟩
    clear l0 l1
    obtain ⟨⟨l0, l1⟩, _⟩ := HXX.out _ HB2.out
    rw [HV.out] at l0 l1
    clear hb1 HPT hpr hbV xv
    go_wp2_with fail
    rw [← HV.out]
    clear HV
    refine (points_any left q _ hl1 h10).mono ?_
    rintro e w2 ⟨⟨v, rfl, la, lc, rfl, hlr⟩, hb2⟩
    rw [← HL.out] at hlr ⊢
    rw [← HM.out] at hlr ⊢
    have HB3 : Hid (Below W.heap.size W w2) := Below.then HB2.out hb2
    have HPQ : Hid (∀ wx, Below w2.heap.size w2 wx → OBv wx w1.heap.size (.int .i64 (m : Int)) (.slice pa m pcap) ∧ Row wx pa m (fun k => (prt g L k : Nat)) ∧ Row wx la m (fun k => (nth L k : Nat)) ∧ OB wx w.heap.size (q : Nat) a q ca) := fun wx h => ⟨(HPR.out wx (Below.then hb2 h)).1, (HPR.out wx (Below.then hb2 h)).2, hlr.below h, (HXX.out wx (Below.then HB3.out h)).1⟩
    obtain ⟨⟨k0, k1⟩, _, _, _⟩ := HPQ.out w2 (Below.refl _ _)
    have HSTART : Hid (GoneI g L m (-1)) := by rw [HM.out]; exact GoneI.start g L
    clear hb2 hlr l0 l1 HB2 HPR
    go_wp2_with fail
    clear k0 k1
    go_loopw [6, 7] (fun G i wx => ∃ (j : Nat) (G0 : Int), j ≤ m ∧ i = .int .i64 ((j : Int) - 1) ∧ G = .int .i64 G0 ∧ Hid (GoneI g L j G0) ∧ Hid (Below w2.heap.size w2 wx)) (fun _ i _ => (intOf i + 1).toNat)
    case atStart => exact ⟨m, -1, Nat.le_refl _, by go_num, rfl, HSTART.out, Below.refl _ _⟩
    case round =>
      obtain ⟨j, G0, hj, rfl, rfl, HGI, HB4⟩ := hrel
      by_cases hj0 : j = 0
      · subst hj0
        have hlt0 : ¬ ((0 : Int) ≤ ((0 : Nat) : Int) - 1) := by omega
        rcases HGI.out with ⟨rfl, hno⟩ | ⟨t, _, htl, rfl, hyes, hbef⟩
        · have HE : Hid (core g (trn g q) q fuel left = left) := core_stop (find_no h10 HG.out HLZ.out (fun i hi => by rw [← HL.out] at hi ⊢; exact hno i (Nat.zero_le _) hi)) HF.out.1
          clear hno
          go_wp2_with fail
          go_ret
          exact ⟨by rw [HF.out.2, HE.out]; rfl, Below.then HBW.out (Below.then HB3.out HB4.out)⟩
        · have hfd : findB (goB g (trn g q) left) q = some (nth L t) := by
            have := find_yes (i := t) h10 HG.out HLZ.out (by rw [← HL.out]; exact htl) (by rw [← HL.out]; exact hyes) (fun i hi => by rw [← HL.out]; exact hbef i (Nat.zero_le _) hi)
            rw [← HL.out] at this
            exact this
          have hmm := (pts_mem left q (nth L t)).1 (by rw [← HL.out]; exact nth_mem htl)
          obtain ⟨hls, hle⟩ := lack_sub hl1 hmm.2
          have hpos : 0 < pw (nth L t) := Nat.two_pow_pos _
          have HE : Hid (core g (trn g q) q fuel left = core g (trn g q) q (fuel - 1) (left - pw (nth L t))) := by rw [← hls]; exact core_next hfd HF.out.1 (by omega)
          have hpq : nth L t < 10 := by omega
          clear hbef hyes hfd hls hmm HGI htl
          generalize nth L t = p at *
          obtain ⟨Y, HY⟩ : ∃ Y, Hid (Y = pw p) := ⟨_, rfl⟩
          rw [← HY.out] at HE hle hpos
          have hpn : ¬ ((p : Int) < 0) := by omega
          go_wp2_with fail
          refine (bit_any p _ (by omega)).mono ?_
          rintro e w' ⟨rfl, rfl⟩
          rw [← HY.out]
          go_wp2_with fail
          go_roundw
          case rel => exact ⟨left - Y, fuel - 1, by go_num, by omega, ⟨by have := HF.out.1; omega, by rw [← HE.out]; exact HF.out.2⟩, Below.then HB3.out HB4.out⟩
          case measure => simp [intOf] <;> omega
      · obtain ⟨t, rfl⟩ : ∃ t, j = t + 1 := ⟨j - 1, by omega⟩
        have ej : ((t + 1 : Nat) : Int) - 1 = (t : Int) := by omega
        rw [ej]
        have htm : t < m := by omega
        have hge : (0 : Int) ≤ (t : Int) := by omega
        have HD0 : Hid (cntQ (fun x => covQ (prt g L) m x t) 0 = 0 ∧ cntQ (fun x => covQ (prt g L) m t x) 0 = 0) := ⟨rfl, rfl⟩
        clear hj0 ej
        go_wp2_with fail
        go_loopw [8, 9, 10] (fun d u k wx => ∃ k0 : Nat, k0 ≤ m ∧ k = .int .i64 k0 ∧ d = .int .i64 (cntQ (fun x => covQ (prt g L) m x t) k0 : Nat) ∧ u = .int .i64 (cntQ (fun x => covQ (prt g L) m t x) k0 : Nat) ∧ Hid (Below w2.heap.size w2 wx)) (fun _ _ k _ => m - (intOf k).toNat)
        case atStart => exact ⟨0, Nat.zero_le _, rfl, rfl, rfl, HB4⟩
        case round =>
          obtain ⟨k0, hk0, rfl, rfl, rfl, HB5⟩ := hrel
          obtain ⟨⟨c0, c1⟩, hrp, hrl, _⟩ := HPQ.out _ HB5.out
          by_cases hk : k0 < m
          · have hlk : (k0 : Int) < (m : Int) := by omega
            have hsm : Sm m m (prt g L) := by rw [HM.out]; exact prt_sm g L
            have HC1 : Hid (Calls Tryd.prog 17 #[.agg #[.int .i64 (m : Int), .slice pa m pcap], .int .i64 (k0 : Nat), .int .i64 (t : Nat)] wr fun e w' => e = .returned (.bool (covQ (prt g L) m k0 t)) ∧ Below wr.heap.size wr w') := cover_any pa m pcap (prt g L) k0 t wr hm10 hsm hrp hk htm
            have HC2 : Hid (∀ wx, Below wr.heap.size wr wx → Calls Tryd.prog 17 #[.agg #[.int .i64 (m : Int), .slice pa m pcap], .int .i64 (t : Nat), .int .i64 (k0 : Nat)] wx fun e w' => e = .returned (.bool (covQ (prt g L) m t k0)) ∧ Below wx.heap.size wx w') := fun wx h => cover_any pa m pcap (prt g L) t k0 wx hm10 hsm (hrp.below h) htm hk
            have HCC : Hid (∀ wx, Below wr.heap.size wr wx → OBv wx w1.heap.size (.int .i64 (m : Int)) (.slice pa m pcap)) := fun wx h => (HPQ.out wx (Below.then HB5.out h)).1
            have HD : Hid (cntQ (fun x => covQ (prt g L) m x t) (k0 + 1) = cntQ (fun x => covQ (prt g L) m x t) k0 + (covQ (prt g L) m k0 t).toNat) := cntQ_succ _ _
            have HU : Hid (cntQ (fun x => covQ (prt g L) m t x) (k0 + 1) = cntQ (fun x => covQ (prt g L) m t x) k0 + (covQ (prt g L) m t k0).toNat) := cntQ_succ _ _
            have hdl := cntQ_le (fun x => covQ (prt g L) m x t) k0
            have hul := cntQ_le (fun x => covQ (prt g L) m t x) k0
            generalize cntQ (fun x => covQ (prt g L) m x t) k0 = D at *
            generalize cntQ (fun x => covQ (prt g L) m t x) k0 = U at *
            generalize covQ (prt g L) m k0 t = b1 at *
            generalize covQ (prt g L) m t k0 = b2 at *
            clear hrp hrl hsm
            cases b1
            · cases b2
              · have HDa : Hid (cntQ (fun x => covQ (prt g L) m x t) (k0 + 1) = D) := HD.out
                have HUa : Hid (cntQ (fun x => covQ (prt g L) m t x) (k0 + 1) = U) := HU.out
                clear HD HU
                go_wp2_with fail
                refine Calls.mono HC1.out ?_
                rintro e w3 ⟨rfl, hb3⟩
                obtain ⟨c0, c1⟩ := HCC.out w3 hb3
                have HB6 : Hid (Below wr.heap.size wr w3) := hb3
                clear hb3 HC1
                go_wp2_with fail
                refine Calls.mono (HC2.out w3 HB6.out) ?_
                rintro e w4 ⟨rfl, hb4⟩
                have HB7 : Hid (Below w2.heap.size w2 w4) := Below.then (Below.then HB5.out HB6.out) hb4
                clear hb4 HC2 HB6 c0 c1
                go_wp2_with fail
                go_roundw
                case rel => exact ⟨k0 + 1, by omega, by go_num, by first | (rw [HDa.out]; go_num) | rw [HDa.out], by first | (rw [HUa.out]; go_num) | rw [HUa.out], HB7⟩
                case measure => simp [intOf] <;> omega
              · have HDa : Hid (cntQ (fun x => covQ (prt g L) m x t) (k0 + 1) = D) := HD.out
                have HUa : Hid (cntQ (fun x => covQ (prt g L) m t x) (k0 + 1) = U + 1) := HU.out
                clear HD HU
                go_wp2_with fail
                refine Calls.mono HC1.out ?_
                rintro e w3 ⟨rfl, hb3⟩
                obtain ⟨c0, c1⟩ := HCC.out w3 hb3
                have HB6 : Hid (Below wr.heap.size wr w3) := hb3
                clear hb3 HC1
                go_wp2_with fail
                refine Calls.mono (HC2.out w3 HB6.out) ?_
                rintro e w4 ⟨rfl, hb4⟩
                have HB7 : Hid (Below w2.heap.size w2 w4) := Below.then (Below.then HB5.out HB6.out) hb4
                clear hb4 HC2 HB6 c0 c1
                go_wp2_with fail
                go_roundw
                case rel => exact ⟨k0 + 1, by omega, by go_num, by first | (rw [HDa.out]; go_num) | rw [HDa.out], by first | (rw [HUa.out]; go_num) | rw [HUa.out], HB7⟩
                case measure => simp [intOf] <;> omega
            · cases b2
              · have HDa : Hid (cntQ (fun x => covQ (prt g L) m x t) (k0 + 1) = D + 1) := HD.out
                have HUa : Hid (cntQ (fun x => covQ (prt g L) m t x) (k0 + 1) = U) := HU.out
                clear HD HU
                go_wp2_with fail
                refine Calls.mono HC1.out ?_
                rintro e w3 ⟨rfl, hb3⟩
                obtain ⟨c0, c1⟩ := HCC.out w3 hb3
                have HB6 : Hid (Below wr.heap.size wr w3) := hb3
                clear hb3 HC1
                go_wp2_with fail
                refine Calls.mono (HC2.out w3 HB6.out) ?_
                rintro e w4 ⟨rfl, hb4⟩
                have HB7 : Hid (Below w2.heap.size w2 w4) := Below.then (Below.then HB5.out HB6.out) hb4
                clear hb4 HC2 HB6 c0 c1
                go_wp2_with fail
                go_roundw
                case rel => exact ⟨k0 + 1, by omega, by go_num, by first | (rw [HDa.out]; go_num) | rw [HDa.out], by first | (rw [HUa.out]; go_num) | rw [HUa.out], HB7⟩
                case measure => simp [intOf] <;> omega
              · have HDa : Hid (cntQ (fun x => covQ (prt g L) m x t) (k0 + 1) = D + 1) := HD.out
                have HUa : Hid (cntQ (fun x => covQ (prt g L) m t x) (k0 + 1) = U + 1) := HU.out
                clear HD HU
                go_wp2_with fail
                refine Calls.mono HC1.out ?_
                rintro e w3 ⟨rfl, hb3⟩
                obtain ⟨c0, c1⟩ := HCC.out w3 hb3
                have HB6 : Hid (Below wr.heap.size wr w3) := hb3
                clear hb3 HC1
                go_wp2_with fail
                refine Calls.mono (HC2.out w3 HB6.out) ?_
                rintro e w4 ⟨rfl, hb4⟩
                have HB7 : Hid (Below w2.heap.size w2 w4) := Below.then (Below.then HB5.out HB6.out) hb4
                clear hb4 HC2 HB6 c0 c1
                go_wp2_with fail
                go_roundw
                case rel => exact ⟨k0 + 1, by omega, by go_num, by first | (rw [HDa.out]; go_num) | rw [HDa.out], by first | (rw [HUa.out]; go_num) | rw [HUa.out], HB7⟩
                case measure => simp [intOf] <;> omega
          · obtain rfl : m = k0 := by omega
            have HMP : Hid (mayP g L t = (cntQ (fun x => covQ (prt g L) m x t) m == 1 || cntQ (fun x => covQ (prt g L) m t x) m == 1)) := by show mayP g L t = _; unfold mayP; rw [← HM.out]
            have HYES : Hid (mayP g L t = true → GoneI g L t (nth L t : Nat)) := fun h => GoneI.yes (by rw [← HM.out]; exact htm) h
            have HNO : Hid (mayP g L t = false → GoneI g L t G0) := fun h => HGI.out.no h
            generalize cntQ (fun x => covQ (prt g L) m x t) m = D at *
            generalize cntQ (fun x => covQ (prt g L) m t x) m = U at *
            obtain ⟨lb, lo, rfl, hcc⟩ := hrl.at htm
            have hct := hcc t htm
            have hltm : (t : Int) < (m : Int) := by omega
            clear hcc hrp hrl
            generalize nth L t = N at *
            by_cases hD : D = 1
            · have hd : (((D : Nat) : Int) == 1) = true := by simp; omega
              have HI : Hid (GoneI g L t (N : Nat)) := HYES.out (by rw [HMP.out, hD]; rfl)
              clear hD HMP HYES HNO
              go_wp2_with fail
              go_roundw
              case rel => exact ⟨t, (N : Nat), by omega, by go_num, rfl, HI, HB5⟩
              case measure => simp [intOf] <;> omega
            · have hd : (((D : Nat) : Int) == 1) = false := by simp; omega
              by_cases hU : U = 1
              · have hu : (((U : Nat) : Int) == 1) = true := by simp; omega
                have HI : Hid (GoneI g L t (N : Nat)) := HYES.out (by rw [HMP.out, hU]; simp)
                clear hD hU HMP HYES HNO
                go_wp2_with fail
                go_roundw
                case rel => exact ⟨t, (N : Nat), by omega, by go_num, rfl, HI, HB5⟩
                case measure => simp [intOf] <;> omega
              · have hu : (((U : Nat) : Int) == 1) = false := by simp; omega
                have HI : Hid (GoneI g L t G0) := HNO.out (by rw [HMP.out]; simp [hD, hU])
                clear hD hU HMP HYES HNO
                go_wp2_with fail
                go_roundw
                case rel => exact ⟨t, G0, by omega, by go_num, rfl, HI, HB5⟩
                case measure => simp [intOf] <;> omega
end Go.Proofs.YtedpfjhdngnmpaaDoor
