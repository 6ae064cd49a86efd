/-
  hasselaw.IdealBack returns true for every order. No condition but that a slice reads as a slice of numbers.
-/
import Derived.Deep.RegionHeld3
import Derived.Test.YtpgbcnbhfgopdaaIBegun
import Derived.Test.YtpgbcnbhfgopdaaBackM
import Derived.Test.YtpgbcnbhfgopdaaPlaceR
namespace Go.Proofs.Ytpgbcnbhfgopdaa
open Go.RowKit

theorem IdLat.two {n : Int} {len : Nat} {f : Nat → Int} {B : Nat} {e : Ending} {w : World} (h : IdLat n len f B e w) : (∃ c : Int, c ≠ 0 ∧ e = .returned (.tuple #[noLat, .int .i64 c])) ∨
    ((Chk n len f 0 ∧ (idls (nat f) len).length ≤ 40) ∧ ∃ T1 T2 R1 R2, e = .returned (.tuple #[.agg #[.int .i64 (((idls (nat f) len).length : Nat) : Int), .slice (some ⟨T1, 0, none⟩) (idls (nat f) len).length (idls (nat f) len).length, .slice (some ⟨T2, 0, none⟩) (idls (nat f) len).length (idls (nat f) len).length], .int .i64 0]) ∧ Tb w T1 0 (idls (nat f) len).length R1 (idm (nat f) len) ∧ Tb w T2 0 (idls (nat f) len).length R2 (idj (nat f) len)) := by
  rcases h with ⟨c, h0, _, rfl⟩ | ⟨hc, ⟨hq, rfl⟩ | ⟨hq, T1, T2, R1, R2, rfl, ht1, ht2, _, _⟩⟩
  · exact .inl ⟨c, h0, rfl⟩
  · exact .inl ⟨2, by decide, rfl⟩
  · exact .inr ⟨⟨hc, hq⟩, T1, T2, R1, R2, rfl, ht1, ht2⟩
def lst (κ : Nat → Nat) (i k : Nat) : List Nat := if κ i < k then kpl κ (i + 1) else kpl κ i
theorem cell_of {X : World} {a : Option Addr} {b o : Nat} {m k : Nat} {f : Nat → Int} (h : Row X a m f) (e : a = some ⟨b, o, none⟩) (hk : k < m) : X.cell? ⟨b, o + k, none⟩ = some (.int .i64 (f k)) := by
  obtain ⟨b', o', e', hc⟩ := h k hk
  rw [e] at e'
  injection e' with e'
  injection e' with e1 e2
  subst e1
  subst e2
  exact hc

set_option maxRecDepth 20000 in
set_option maxHeartbeats 8000000 in
theorem idealBack_any (n : Int) (a : Option Addr) (len cap : Nat) (f : Nat → Int) (w : World) (hl : len ≤ maxLen) (hr : Row w a len f) :
    Calls Try.prog 7 #[.agg #[.int .i64 n, .slice a len cap]] w fun e w' => e = .returned (.bool true) ∧ Below w.heap.size w w' := by
  obtain ⟨i0, hi, hz0, hz1, hz2⟩ := info_parts Try.info3
  have K0 : Held (w.alloc (.cells #[.int .i64 n, .slice a len cap] 24)) w.heap.size n a len cap f := Held.box hr
  have HB0 : Hid (Below w.heap.size w (w.alloc (.cells #[.int .i64 n, .slice a len cap] 24))) := (Below.refl _ _).alloc (Nat.le_refl _) _
  clear hr
  go_enter Try.func7, Try.ntmps7
  go_wp2_with fail
  refine (idealBegun_any _).mono ?_
  rintro e w0 ⟨rfl, hb0⟩
  have K1 := K0.step hb0
  have HB1 : Hid (Below w.heap.size w w0) := Below.then HB0.out hb0
  have k0 := K1.c0
  have k1 := K1.c1
  clear hb0 K0 HB0
  go_wp2_with fail
  refine (idealLattice_any n a len cap f _ hl K1.row).mono ?_
  rintro e w1 ⟨hI, hb1⟩
  have HB2 : Hid (Below w.heap.size w w1) := Below.then HB1.out hb1
  rcases hI.two with ⟨c, h0, rfl⟩ | ⟨⟨hc, hq40⟩, T1, T2, R1, R2, rfl, ht1, ht2⟩
  · have hne : (c != 0) = true := by simpa using h0
    have HB3 := (HB2.out.alloc HB2.out.size (.cells #[.int .i64 0, .slice none 0 0, .slice none 0 0] 27))
    unfold noLat
    clear hI hb1 K1 HB1 k0 k1
    go_wp2_with fail
    go_ret
    exact ⟨rfl, HB3⟩
  obtain ⟨rfl, h10, hrng, hord⟩ := hc.good
  have HOT : Hid (OT (nat f) len) := ⟨h10, fun k hk => by have := hrng k hk; unfold nat; omega, hord⟩
  obtain ⟨κ, hpts⟩ := HOT.out.pts
  have HPTS : Hid (Pts (nat f) len κ) := hpts
  have HCHK : Hid (Chk (len : Int) len f 0) := hc
  have HG : Hid (∀ k, k < len → nat f k < 1024) := HOT.out.small
  have HLAT : Hid (Lat (idls (nat f) len).length (idm (nat f) len) (idj (nat f) len)) := HOT.out.lat
  have HDIS : Hid (All3 (idls (nat f) len).length (disB (idm (nat f) len) (idj (nat f) len))) := HOT.out.dis
  have HIR : Hid (irrs (idm (nat f) len) (idj (nat f) len) (idls (nat f) len).length = ir (nat f) len) := rfl
  have HIL : Hid ((ir (nat f) len).length = len) := HOT.out.len
  have hq1 : 1 ≤ (idls (nat f) len).length := HOT.out.pos
  obtain ⟨IL, HILE⟩ : ∃ IL, Hid (IL = idls (nat f) len) := ⟨_, rfl⟩
  obtain ⟨q, HQ⟩ : ∃ q, Hid (q = (idls (nat f) len).length) := ⟨_, rfl⟩
  rw [← HQ.out] at hq40 hq1 ht1 ht2 HLAT HDIS HIR ⊢
  obtain ⟨w2, HW2⟩ : ∃ w2, Hid (w2 = w1.alloc (.cells #[.int .i64 (q : Int), .slice (some ⟨T1, 0, none⟩) q q, .slice (some ⟨T2, 0, none⟩) q q] 27)) := ⟨_, rfl⟩
  have hb2 : Below w1.heap.size w1 w2 := by rw [HW2.out]; exact (Below.refl _ _).alloc (Nat.le_refl _) _
  have X2 : LB w2 w1.heap.size (q : Int) (some ⟨T1, 0, none⟩) q q (some ⟨T2, 0, none⟩) q q := by rw [HW2.out]; exact LB.new _ _ _ _ _ _ _ _
  have K2 := (K1.step hb1).step hb2
  have HQM : Hid (q ≤ maxLen) := by rw [Hid]; unfold maxLen; omega
  have HRA2 : Hid (RR w2 (some ⟨T1, 0, none⟩) q _ _) := (ht1.step hb2).rr HQM.out
  have HRB2 : Hid (RR w2 (some ⟨T2, 0, none⟩) q _ _) := (ht2.step hb2).rr HQM.out
  have HLC : Hid (LCk (q : Int) q _ _ q _ _ 0) := LCk.of (SA := fun x => (some ⟨(R1 x).1, (R1 x).2.1, none⟩, q, (R1 x).2.2)) (SB := fun x => (some ⟨(R2 x).1, (R2 x).2.1, none⟩, q, (R2 x).2.2)) hq1 hq40 (fun _ _ => rfl) (fun _ _ => rfl) HLAT.out
  have HB3 : Hid (Below w.heap.size w w2) := Below.then HB2.out hb2
  have X2e := X2
  rw [HW2.out] at X2e
  have x0 := X2e.1
  have x1 := X2e.2.1
  have x2 := X2e.2.2
  clear hI hb1 hb2 ht1 ht2 K1 HB1 HB2 k0 k1 hrng hord hc hpts
  go_wp2_with fail
  rw [← HW2.out]
  clear HW2 X2e x0 x1 x2
  refine (points_any q (some ⟨T1, 0, none⟩) q q _ _ (some ⟨T2, 0, none⟩) q q _ _ _ HQM.out HQM.out HRA2.out HRB2.out).mono ?_
  rintro e w3 ⟨⟨c0, c, v, hc0, hc, rfl, hv⟩, hb3⟩
  obtain rfl := LCk.one hc0 HLC.out
  rw [nat2_cast, nat2_cast, show (q : Int).toNat = q from rfl] at hc hv
  have hv' : OrdErr c ((irrs (idm (nat f) len) (idj (nat f) len) q).length : Int) (irrs (idm (nat f) len) (idj (nat f) len) q).length (fun k => (pbl (idm (nat f) len) (idj (nat f) len) q k : Nat)) v w3 := hv
  rw [HIR.out, HIL.out] at hc hv'
  obtain rfl : c = 0 := hc.one (.inr ⟨rfl, .inr ⟨rfl, h10⟩⟩)
  obtain ⟨vk, pa, vl, pcp, rfl⟩ := hv'.form
  obtain ⟨⟨rfl, evl⟩, hrow, _⟩ := hv'.low rfl
  obtain rfl := evl.symm
  obtain ⟨w4, HW4⟩ : ∃ w4, Hid (w4 = w3.alloc (.cells #[.int .i64 (len : Int), .slice pa len pcp] 24)) := ⟨_, rfl⟩
  have hb4 : Below w3.heap.size w3 w4 := by rw [HW4.out]; exact (Below.refl _ _).alloc (Nat.le_refl _) _
  have hb34 := Below.then hb3 hb4
  have P4 : Box w4 w3.heap.size (len : Int) pa len pcp := by rw [HW4.out]; exact Box.new _ _ _ _ _
  have HPR4 : Hid (Row w4 pa len (fun k => (pbl (idm (nat f) len) (idj (nat f) len) q k : Nat))) := hrow.below hb4
  have K4 := K2.step hb34
  have X4 := X2.step hb34
  have HRA4 : Hid (RR w4 (some ⟨T1, 0, none⟩) q _ _) := HRA2.out.below hb34
  have HRB4 : Hid (RR w4 (some ⟨T2, 0, none⟩) q _ _) := HRB2.out.below hb34
  have HB4 : Hid (Below w.heap.size w w4) := Below.then HB3.out hb34
  have K4e := K4
  rw [HW4.out] at K4e
  have k0 := K4e.c0
  have k1 := K4e.c1
  clear hc0 hc hv hv' hrow hb3 hb4 hb34 K2 X2 HRA2 HRB2 HB3
  go_wp2_with fail
  rw [← HW4.out]
  clear HW4 K4e k0 k1
  refine (ideals_any len a len cap f _ hl K4.row).mono ?_
  rintro e w5 ⟨⟨c5, v5, hc5, rfl, hv5⟩, hb5⟩
  obtain rfl := Chk.unique hc5 HCHK.out
  obtain ⟨sa, scp, rfl, hr5⟩ : NSl w5 v5 IL := by
    rcases hv5 with ⟨h, _⟩ | ⟨_, h⟩
    · exact absurd rfl h
    · rw [HILE.out]; exact h
  have P5 := P4.step hb5
  have K5 := K4.step hb5
  have X5 := X4.step hb5
  have HPR5 : Hid (Row w5 pa len (fun k => (pbl (idm (nat f) len) (idj (nat f) len) q k : Nat))) := HPR4.out.below hb5
  have HSR5 : Hid (Row w5 sa IL.length (fun k => (nth IL k : Nat))) := hr5
  have HRA5 : Hid (RR w5 (some ⟨T1, 0, none⟩) q _ _) := HRA4.out.below hb5
  have HRB5 : Hid (RR w5 (some ⟨T2, 0, none⟩) q _ _) := HRB4.out.below hb5
  have HB5 : Hid (Below w.heap.size w w5) := Below.then HB4.out hb5
  have HQI : Hid (IL.length = q) := by rw [Hid, HQ.out, HILE.out]
  have x0 := X5.1
  have x1 := X5.2.1
  have x2 := X5.2.2
  clear hc5 hv5 hr5 hb5 P4 K4 X4 HPR4 HRA4 HRB4 HB4
  rw [HQI.out] at HSR5 ⊢
  go_wp2_with fail
  clear x0 x1 x2
  refine (irr_any q (some ⟨T1, 0, none⟩) q q _ _ (some ⟨T2, 0, none⟩) q q _ _ _ HQM.out HQM.out HRA5.out HRB5.out).mono ?_
  rintro e w6 ⟨⟨c6, v6, hc6, rfl, hv6⟩, hb6⟩
  obtain rfl := LCk.one hc6 HLC.out
  rw [nat2_cast, nat2_cast, show (q : Int).toNat = q from rfl, HIR.out] at hv6
  obtain ⟨TI, HTI⟩ : ∃ TI, Hid (TI = ir (nat f) len) := ⟨_, rfl⟩
  rw [← HTI.out] at hv6 HIL
  obtain ⟨ta, tcp, rfl, hr6⟩ : NSl w6 v6 TI := by
    rcases hv6 with ⟨h, _⟩ | ⟨_, h⟩
    · exact absurd rfl h
    · exact h
  have P6 := P5.step hb6
  have K6 := K5.step hb6
  have X6 := X5.step hb6
  have HPR6 : Hid (Row w6 pa len (fun k => (pbl (idm (nat f) len) (idj (nat f) len) q k : Nat))) := HPR5.out.below hb6
  have HSR6 : Hid (Row w6 sa q (fun k => (nth IL k : Nat))) := HSR5.out.below hb6
  have HTR6 : Hid (Row w6 ta TI.length (fun k => (nth TI k : Nat))) := hr6
  have HRA6 : Hid (RR w6 (some ⟨T1, 0, none⟩) q _ _) := HRA5.out.below hb6
  have HRB6 : Hid (RR w6 (some ⟨T2, 0, none⟩) q _ _) := HRB5.out.below hb6
  have HB6 : Hid (Below w.heap.size w w6) := Below.then HB5.out hb6
  have x0 := X6.1
  have x1 := X6.2.1
  have x2 := X6.2.2
  clear hc6 hv6 hr6 hb6 P5 K5 X5 HPR5 HSR5 HRA5 HRB5 HB5
  rw [HIL.out] at HTR6 ⊢
  go_wp2_with fail
  clear x0 x1 x2
  refine (distr_any q (some ⟨T1, 0, none⟩) q q _ _ (some ⟨T2, 0, none⟩) q q _ _ _ HQM.out HQM.out HRA6.out HRB6.out).mono ?_
  rintro e W ⟨⟨c7, v7, hc7, rfl, hv7⟩, hb7⟩
  obtain rfl := LCk.one hc7 HLC.out
  obtain rfl : v7 = true := by
    rcases hv7 with ⟨h, _⟩ | ⟨_, h⟩
    · exact absurd rfl h
    · rw [nat2_cast, nat2_cast, show (q : Int).toNat = q from rfl] at h
      exact h.2 HDIS.out
  have P7 := P6.step hb7
  have K7 := K6.step hb7
  have HR7 : Hid (Row W a len (fun k => (nat f k : Nat))) := HCHK.out.good.2.2.1.row K7.row
  have HKW : Hid (∀ w', Below W.heap.size W w' → Held w' w.heap.size (len : Int) a len cap f) := fun w' h => K7.step h
  have HPW : Hid (∀ w', Below W.heap.size W w' → Box w' w3.heap.size (len : Int) pa len pcp) := fun w' h => P7.step h
  have LP : Hid (∀ w', Below W.heap.size W w' → Row w' pa len (fun k => (pbl (idm (nat f) len) (idj (nat f) len) q k : Nat))) := fun w' h => (HPR6.out.below hb7).below h
  have LS : Hid (∀ w', Below W.heap.size W w' → Row w' sa q (fun k => (nth IL k : Nat))) := fun w' h => (HSR6.out.below hb7).below h
  have LTI : Hid (∀ w', Below W.heap.size W w' → Row w' ta len (fun k => (nth TI k : Nat))) := fun w' h => (HTR6.out.below hb7).below h
  have LO : Hid (∀ w', Below W.heap.size W w' → Row w' a len (fun k => (nat f k : Nat))) := fun w' h => HR7.out.below h
  have HBW : Hid (Below w.heap.size w W) := Below.then HB6.out hb7
  have k0 := K7.c0
  have k1 := K7.c1
  have p0 := P7.1
  have p1 := P7.2
  clear hc7 hv7 hb7 P6 K6 X6 HPR6 HSR6 HTR6 HRA6 HRB6 HB6 HR7
  go_wp2_with fail
  clear k0 k1 p0 p1 P7 K7
  go_loopw [12, 13] (fun u i wx => ∃ k : Nat, k ≤ len ∧ i = .int .i64 k ∧ Hid (wx.ownsRow W.heap.size 3 1 u (kpl κ k).length (natVals (kpl κ k))) ∧ Hid (Below W.heap.size W wx)) (fun _ i _ => len - (intOf i).toNat)
  case atStart => exact ⟨0, Nat.zero_le _, rfl, World.ownsRow_nil _ _ _ _, Below.refl _ _⟩
  case round =>
    obtain ⟨i, hil, rfl, HOW, HW⟩ := hrel
    by_cases hlt : i < len
    · go_wp2_with fail
      go_loopw [12, 14] (fun u z wx => ∃ k : Nat, k ≤ len ∧ z = .int .i64 k ∧ Hid (wx.ownsRow W.heap.size 3 1 u (lst κ i k).length (natVals (lst κ i k))) ∧ Hid (Below W.heap.size W wx)) (fun _ z _ => len - (intOf z).toNat)
      case atStart => exact ⟨0, Nat.zero_le _, rfl, by unfold lst; rw [if_neg (Nat.not_lt_zero _)]; exact HOW, HW⟩
      case round =>
        clear HOW HW
        obtain ⟨k, hkl, rfl, HOK, HWK⟩ := hrel
        have k0 := (HKW.out _ HWK.out).c0
        by_cases hklt : k < len
        · obtain ⟨tb, to, rfl, _⟩ := LTI.out _ HWK.out i hlt
          have hti := (HPTS.out.is i hlt).1
          rw [← HQ.out, ← HTI.out] at hti
          obtain ⟨sb, so, rfl, _⟩ := LS.out _ HWK.out _ hti
          obtain ⟨rb, ro, rfl, _⟩ := LO.out _ HWK.out k hklt
          have c1 : ∀ w', Below W.heap.size W w' → w'.cell? ⟨tb, to + i, none⟩ = some (.int .i64 (nth TI i : Nat)) := fun w' h => cell_of (LTI.out w' h) rfl hlt
          have c2 : ∀ w', Below W.heap.size W w' → w'.cell? ⟨sb, so + nth TI i, none⟩ = some (.int .i64 (nth IL (nth TI i) : Nat)) := fun w' h => cell_of (LS.out w' h) rfl hti
          have c3 : ∀ w', Below W.heap.size W w' → w'.cell? ⟨rb, ro + k, none⟩ = some (.int .i64 (nat f k : Nat)) := fun w' h => cell_of (LO.out w' h) rfl hklt
          have m1 : ∀ w', Below W.heap.size W w' → w'.cell? ⟨w.heap.size, 1, none⟩ = some (.slice (some ⟨rb, ro, none⟩) len cap) := fun w' h => (HKW.out w' h).c1
          have hng := HG.out k hklt
          have hpwk := pw_le k (by omega)
          have HUB : Hid (nat f k + pw k = upb (nat f) k) := HOT.out.add hklt
          have HONLY : Hid (nth IL (nth TI i) = upb (nat f) k ↔ κ i = k) := by rw [HILE.out, HTI.out]; exact HOT.out.only HPTS.out hlt hklt
          have hub : upb (nat f) k < 9223372036854775808 := by rw [← HUB.out]; omega
          have HSUM : Hid (((nat f k : Nat) : Int) + ((pw k : Nat) : Int) = ((upb (nat f) k : Nat) : Int)) := by rw [Hid, ← HUB.out]; simp
          have hwr : IntKind.i64.wrap (((nat f k : Nat) : Int) + ((pw k : Nat) : Int)) = ((upb (nat f) k : Nat) : Int) := (wrap_i64_small _ (by omega) (by omega)).trans HSUM.out
          have i1 : (i : Int) < (len : Int) := by omega
          have i2 : (k : Int) < (len : Int) := by omega
          have i3 : ((nth TI i : Nat) : Int) < (q : Int) := by omega
          obtain ⟨UB, HUBE⟩ : ∃ UB, Hid (UB = upb (nat f) k) := ⟨_, rfl⟩
          obtain ⟨TV, HTV⟩ : ∃ TV, Hid (TV = nth TI i) := ⟨_, rfl⟩
          obtain ⟨SV, HSV⟩ : ∃ SV, Hid (SV = nth IL TV) := ⟨_, rfl⟩
          rw [← HTV.out] at c1 c2 i3 HONLY hti
          rw [← HSV.out] at c2 HONLY
          rw [← HUBE.out] at hwr hub HONLY
          obtain ⟨v, hv⟩ : ∃ v, (((SV : Nat) : Int) == ((UB : Nat) : Int)) = v := ⟨_, rfl⟩
          have HVV : Hid (v = true ↔ κ i = k) := by
            rw [Hid, ← HONLY.out, ← hv, beq_iff_eq]; omega
          clear HUB HSUM hub
          go_wp2_with fail
          clear k0
          refine wp_region_held_drew (S := (fun w' => Below W.heap.size W w')) (by kernel_rfl) (HWK.out.drew) (fun hHeld => ?_)
          refine wpAnyH_take (i := 0) (oi := { dst := some 90, op := Go.Op.move (Go.Operand.tmp 8), type := 22, pos := "lattice.go:591", after := #[], guard := none }) (v := ?_) rfl (by kernel_rfl) (by kernel_rfl) (by kernel_rfl) (fun _ _ _ h => h) (Or.inl ⟨by rfl, ?hy⟩) (by assumption) ?_
          case hy => (intro w9 hSw; (try dsimp only at hSw); go_simp; try with_reducible rfl)
          try simp only [Act.put, List.setIfInBounds_toArray, List.set_cons_zero, List.set_cons_succ]
          refine wpAnyH_take (i := 1) (oi := { dst := some 91, op := Go.Op.move (Go.Operand.tmp 13), type := 3, pos := "lattice.go:591", after := #[], guard := none }) (v := ?_) rfl (by kernel_rfl) (by kernel_rfl) (by kernel_rfl) (fun _ _ _ h => h) (Or.inl ⟨by rfl, ?hy⟩) (by assumption) ?_
          case hy => (intro w9 hSw; (try dsimp only at hSw); go_simp; try with_reducible rfl)
          try simp only [Act.put, List.setIfInBounds_toArray, List.set_cons_zero, List.set_cons_succ]
          refine wpAnyH_take (i := 2) (oi := { dst := some 92, op := Go.Op.indexAddr 22 (Go.Operand.tmp 90) (Go.Operand.tmp 91), type := 0, pos := "lattice.go:591", after := #[{ on := 0, ground := Go.Ground.data }, { on := 1, ground := Go.Ground.data }], guard := none }) (v := ?_) rfl (by kernel_rfl) (by kernel_rfl) (by kernel_rfl) (fun _ _ _ h => h) (Or.inl ⟨by rfl, ?hy⟩) (by assumption) ?_
          case hy => (intro w9 hSw; (try dsimp only at hSw); go_simp; try with_reducible rfl)
          try simp only [Act.put, List.setIfInBounds_toArray, List.set_cons_zero, List.set_cons_succ]
          refine wpAnyH_take (i := 3) (oi := { dst := some 93, op := Go.Op.load 3 (Go.Operand.tmp 92), type := 3, pos := "lattice.go:591", after := #[{ on := 2, ground := Go.Ground.data }], guard := none }) (v := ?_) rfl (by kernel_rfl) (by kernel_rfl) (by kernel_rfl) (fun _ _ _ h => h) (Or.inl ⟨by rfl, ?hy⟩) (by assumption) ?_
          case hy => (intro w9 hSw; (try dsimp only at hSw); go_simp; try with_reducible rfl)
          try simp only [Act.put, List.setIfInBounds_toArray, List.set_cons_zero, List.set_cons_succ]
          refine wpAnyH_take (i := 4) (oi := { dst := some 94, op := Go.Op.binOp Go.BinOp.geq 3 (Go.Operand.tmp 93) (Go.Operand.const (Go.Value.int Go.IntKind.i64 0)) 3, type := 4, pos := "lattice.go:591", after := #[{ on := 3, ground := Go.Ground.data }], guard := none }) (v := ?_) rfl (by kernel_rfl) (by kernel_rfl) (by kernel_rfl) (fun _ _ _ h => h) (Or.inl ⟨by rfl, ?hy⟩) (by assumption) ?_
          case hy => (intro w9 hSw; (try dsimp only at hSw); go_simp; try with_reducible rfl)
          try simp only [Act.put, List.setIfInBounds_toArray, List.set_cons_zero, List.set_cons_succ]
          refine wpAnyH_take (i := 5) (oi := { dst := some 95, op := Go.Op.move (Go.Operand.tmp 94), type := 4, pos := "lattice.go:591", after := #[{ on := 4, ground := Go.Ground.data }], guard := none }) (v := ?_) rfl (by kernel_rfl) (by kernel_rfl) (by kernel_rfl) (fun _ _ _ h => h) (Or.inl ⟨by rfl, ?hy⟩) (by assumption) ?_
          case hy => (intro w9 hSw; (try dsimp only at hSw); go_simp; try with_reducible rfl)
          try simp only [Act.put, List.setIfInBounds_toArray, List.set_cons_zero, List.set_cons_succ]
          refine wpAnyH_take (i := 6) (oi := { dst := some 96, op := Go.Op.move (Go.Operand.tmp 8), type := 22, pos := "lattice.go:591", after := #[{ on := 5, ground := Go.Ground.guard }], guard := some (5, true) }) (v := ?_) rfl (by kernel_rfl) (by kernel_rfl) (by kernel_rfl) (fun _ _ _ h => h) (Or.inl ⟨by rfl, ?hy⟩) (by assumption) ?_
          case hy => (intro w9 hSw; (try dsimp only at hSw); go_simp; try with_reducible rfl)
          try simp only [Act.put, List.setIfInBounds_toArray, List.set_cons_zero, List.set_cons_succ]
          refine wpAnyH_take (i := 7) (oi := { dst := some 97, op := Go.Op.move (Go.Operand.tmp 13), type := 3, pos := "lattice.go:591", after := #[{ on := 5, ground := Go.Ground.guard }], guard := some (5, true) }) (v := ?_) rfl (by kernel_rfl) (by kernel_rfl) (by kernel_rfl) (fun _ _ _ h => h) (Or.inl ⟨by rfl, ?hy⟩) (by assumption) ?_
          case hy => (intro w9 hSw; (try dsimp only at hSw); go_simp; try with_reducible rfl)
          try simp only [Act.put, List.setIfInBounds_toArray, List.set_cons_zero, List.set_cons_succ]
          refine wpAnyH_take (i := 8) (oi := { dst := some 98, op := Go.Op.indexAddr 22 (Go.Operand.tmp 96) (Go.Operand.tmp 97), type := 0, pos := "lattice.go:591", after := #[{ on := 6, ground := Go.Ground.data }, { on := 7, ground := Go.Ground.data }, { on := 5, ground := Go.Ground.guard }], guard := some (5, true) }) (v := ?_) rfl (by kernel_rfl) (by kernel_rfl) (by kernel_rfl) (fun _ _ _ h => h) (Or.inl ⟨by rfl, ?hy⟩) (by assumption) ?_
          case hy => (intro w9 hSw; (try dsimp only at hSw); go_simp; try with_reducible rfl)
          try simp only [Act.put, List.setIfInBounds_toArray, List.set_cons_zero, List.set_cons_succ]
          refine wpAnyH_take (i := 9) (oi := { dst := some 99, op := Go.Op.load 3 (Go.Operand.tmp 98), type := 3, pos := "lattice.go:591", after := #[{ on := 8, ground := Go.Ground.data }, { on := 5, ground := Go.Ground.guard }], guard := some (5, true) }) (v := ?_) rfl (by kernel_rfl) (by kernel_rfl) (by kernel_rfl) (fun _ _ _ h => h) (Or.inl ⟨by rfl, ?hy⟩) (by assumption) ?_
          case hy => (intro w9 hSw; (try dsimp only at hSw); go_simp; try with_reducible rfl)
          try simp only [Act.put, List.setIfInBounds_toArray, List.set_cons_zero, List.set_cons_succ]
          refine wpAnyH_take (i := 10) (oi := { dst := some 100, op := Go.Op.move (Go.Operand.tmp 6), type := 22, pos := "lattice.go:591", after := #[{ on := 5, ground := Go.Ground.guard }], guard := some (5, true) }) (v := ?_) rfl (by kernel_rfl) (by kernel_rfl) (by kernel_rfl) (fun _ _ _ h => h) (Or.inl ⟨by rfl, ?hy⟩) (by assumption) ?_
          case hy => (intro w9 hSw; (try dsimp only at hSw); go_simp; try with_reducible rfl)
          try simp only [Act.put, List.setIfInBounds_toArray, List.set_cons_zero, List.set_cons_succ]
          refine wpAnyH_take (i := 11) (oi := { dst := some 101, op := Go.Op.call { callee := Go.Callee.builtin Go.Builtin.len, args := #[Go.Operand.tmp 100], argTypes := #[22] }, type := 3, pos := "lattice.go:591", after := #[{ on := 10, ground := Go.Ground.data }, { on := 5, ground := Go.Ground.guard }], guard := some (5, true) }) (v := ?_) rfl (by kernel_rfl) (by kernel_rfl) (by kernel_rfl) (fun _ _ _ h => h) (Or.inl ⟨by rfl, ?hy⟩) (by assumption) ?_
          case hy => (intro w9 hSw; (try dsimp only at hSw); go_simp; try with_reducible rfl)
          try simp only [Act.put, List.setIfInBounds_toArray, List.set_cons_zero, List.set_cons_succ]
          refine wpAnyH_take (i := 12) (oi := { dst := some 102, op := Go.Op.binOp Go.BinOp.lss 3 (Go.Operand.tmp 99) (Go.Operand.tmp 101) 3, type := 4, pos := "lattice.go:591", after := #[{ on := 9, ground := Go.Ground.data }, { on := 11, ground := Go.Ground.data }, { on := 5, ground := Go.Ground.guard }], guard := some (5, true) }) (v := ?_) rfl (by kernel_rfl) (by kernel_rfl) (by kernel_rfl) (fun _ _ _ h => h) (Or.inl ⟨by rfl, ?hy⟩) (by assumption) ?_
          case hy => (intro w9 hSw; (try dsimp only at hSw); go_simp; try with_reducible rfl)
          try simp only [Act.put, List.setIfInBounds_toArray, List.set_cons_zero, List.set_cons_succ]
          refine wpAnyH_take (i := 13) (oi := { dst := some 103, op := Go.Op.pick (Go.Operand.tmp 95) (Go.Operand.tmp 102) (Go.Operand.const (Go.Value.bool false)), type := 4, pos := "lattice.go:591", after := #[{ on := 5, ground := Go.Ground.data }, { on := 12, ground := Go.Ground.data }], guard := none }) (v := ?_) rfl (by kernel_rfl) (by kernel_rfl) (by kernel_rfl) (fun _ _ _ h => h) (Or.inl ⟨by rfl, ?hy⟩) (by assumption) ?_
          case hy => (intro w9 hSw; (try dsimp only at hSw); go_simp; try with_reducible rfl)
          try simp only [Act.put, List.setIfInBounds_toArray, List.set_cons_zero, List.set_cons_succ]
          refine wpAnyH_take (i := 14) (oi := { dst := some 104, op := Go.Op.move (Go.Operand.tmp 103), type := 4, pos := "lattice.go:591", after := #[{ on := 13, ground := Go.Ground.data }, { on := 5, ground := Go.Ground.chain }], guard := none }) (v := ?_) rfl (by kernel_rfl) (by kernel_rfl) (by kernel_rfl) (fun _ _ _ h => h) (Or.inl ⟨by rfl, ?hy⟩) (by assumption) ?_
          case hy => (intro w9 hSw; (try dsimp only at hSw); go_simp; try with_reducible rfl)
          try simp only [Act.put, List.setIfInBounds_toArray, List.set_cons_zero, List.set_cons_succ]
          refine wpAnyH_take (i := 15) (oi := { dst := some 105, op := Go.Op.move (Go.Operand.tmp 6), type := 22, pos := "lattice.go:591", after := #[{ on := 14, ground := Go.Ground.guard }], guard := some (14, true) }) (v := ?_) rfl (by kernel_rfl) (by kernel_rfl) (by kernel_rfl) (fun _ _ _ h => h) (Or.inl ⟨by rfl, ?hy⟩) (by assumption) ?_
          case hy => (intro w9 hSw; (try dsimp only at hSw); go_simp; try with_reducible rfl)
          try simp only [Act.put, List.setIfInBounds_toArray, List.set_cons_zero, List.set_cons_succ]
          refine wpAnyH_take (i := 16) (oi := { dst := some 106, op := Go.Op.move (Go.Operand.tmp 8), type := 22, pos := "lattice.go:591", after := #[{ on := 14, ground := Go.Ground.guard }], guard := some (14, true) }) (v := ?_) rfl (by kernel_rfl) (by kernel_rfl) (by kernel_rfl) (fun _ _ _ h => h) (Or.inl ⟨by rfl, ?hy⟩) (by assumption) ?_
          case hy => (intro w9 hSw; (try dsimp only at hSw); go_simp; try with_reducible rfl)
          try simp only [Act.put, List.setIfInBounds_toArray, List.set_cons_zero, List.set_cons_succ]
          refine wpAnyH_take (i := 17) (oi := { dst := some 107, op := Go.Op.move (Go.Operand.tmp 13), type := 3, pos := "lattice.go:591", after := #[{ on := 14, ground := Go.Ground.guard }], guard := some (14, true) }) (v := ?_) rfl (by kernel_rfl) (by kernel_rfl) (by kernel_rfl) (fun _ _ _ h => h) (Or.inl ⟨by rfl, ?hy⟩) (by assumption) ?_
          case hy => (intro w9 hSw; (try dsimp only at hSw); go_simp; try with_reducible rfl)
          try simp only [Act.put, List.setIfInBounds_toArray, List.set_cons_zero, List.set_cons_succ]
          refine wpAnyH_take (i := 18) (oi := { dst := some 108, op := Go.Op.indexAddr 22 (Go.Operand.tmp 106) (Go.Operand.tmp 107), type := 0, pos := "lattice.go:591", after := #[{ on := 16, ground := Go.Ground.data }, { on := 17, ground := Go.Ground.data }, { on := 14, ground := Go.Ground.guard }], guard := some (14, true) }) (v := ?_) rfl (by kernel_rfl) (by kernel_rfl) (by kernel_rfl) (fun _ _ _ h => h) (Or.inl ⟨by rfl, ?hy⟩) (by assumption) ?_
          case hy => (intro w9 hSw; (try dsimp only at hSw); go_simp; try with_reducible rfl)
          try simp only [Act.put, List.setIfInBounds_toArray, List.set_cons_zero, List.set_cons_succ]
          refine wpAnyH_take (i := 19) (oi := { dst := some 109, op := Go.Op.load 3 (Go.Operand.tmp 108), type := 3, pos := "lattice.go:591", after := #[{ on := 18, ground := Go.Ground.data }, { on := 14, ground := Go.Ground.guard }], guard := some (14, true) }) (v := ?_) rfl (by kernel_rfl) (by kernel_rfl) (by kernel_rfl) (fun _ _ _ h => h) (Or.inl ⟨by rfl, ?hy⟩) (by assumption) ?_
          case hy => (intro w9 hSw; (try dsimp only at hSw); go_simp; try with_reducible rfl)
          try simp only [Act.put, List.setIfInBounds_toArray, List.set_cons_zero, List.set_cons_succ]
          refine wpAnyH_take (i := 20) (oi := { dst := some 110, op := Go.Op.indexAddr 22 (Go.Operand.tmp 105) (Go.Operand.tmp 109), type := 0, pos := "lattice.go:591", after := #[{ on := 15, ground := Go.Ground.data }, { on := 19, ground := Go.Ground.data }, { on := 14, ground := Go.Ground.guard }], guard := some (14, true) }) (v := ?_) rfl (by kernel_rfl) (by kernel_rfl) (by kernel_rfl) (fun _ _ _ h => h) (Or.inl ⟨by rfl, ?hy⟩) (by assumption) ?_
          case hy => (intro w9 hSw; (try dsimp only at hSw); go_simp; try with_reducible rfl)
          try simp only [Act.put, List.setIfInBounds_toArray, List.set_cons_zero, List.set_cons_succ]
          refine wpAnyH_take (i := 21) (oi := { dst := some 111, op := Go.Op.load 3 (Go.Operand.tmp 110), type := 3, pos := "lattice.go:591", after := #[{ on := 20, ground := Go.Ground.data }, { on := 14, ground := Go.Ground.guard }], guard := some (14, true) }) (v := ?_) rfl (by kernel_rfl) (by kernel_rfl) (by kernel_rfl) (fun _ _ _ h => h) (Or.inl ⟨by rfl, ?hy⟩) (by assumption) ?_
          case hy => (intro w9 hSw; (try dsimp only at hSw); go_simp; try with_reducible rfl)
          try simp only [Act.put, List.setIfInBounds_toArray, List.set_cons_zero, List.set_cons_succ]
          refine wpAnyH_take (i := 22) (oi := { dst := some 112, op := Go.Op.fieldAddr 24 (Go.Operand.tmp 1) 1, type := 0, pos := "lattice.go:591", after := #[{ on := 14, ground := Go.Ground.guard }], guard := some (14, true) }) (v := ?_) rfl (by kernel_rfl) (by kernel_rfl) (by kernel_rfl) (fun _ _ _ h => h) (Or.inl ⟨by rfl, ?hy⟩) (by assumption) ?_
          case hy => (intro w9 hSw; (try dsimp only at hSw); go_simp; try with_reducible rfl)
          try simp only [Act.put, List.setIfInBounds_toArray, List.set_cons_zero, List.set_cons_succ]
          refine wpAnyH_take (i := 23) (oi := { dst := some 113, op := Go.Op.load 22 (Go.Operand.tmp 112), type := 22, pos := "lattice.go:591", after := #[{ on := 22, ground := Go.Ground.data }, { on := 14, ground := Go.Ground.guard }], guard := some (14, true) }) (v := ?_) rfl (by kernel_rfl) (by kernel_rfl) (by kernel_rfl) (fun _ _ _ h => h) (Or.inl ⟨by rfl, ?hy⟩) (by assumption) ?_
          case hy => (intro w9 hSw; (try dsimp only at hSw); go_simp; try with_reducible rfl)
          try simp only [Act.put, List.setIfInBounds_toArray, List.set_cons_zero, List.set_cons_succ]
          refine wpAnyH_take (i := 24) (oi := { dst := some 114, op := Go.Op.move (Go.Operand.tmp 14), type := 3, pos := "lattice.go:591", after := #[{ on := 14, ground := Go.Ground.guard }], guard := some (14, true) }) (v := ?_) rfl (by kernel_rfl) (by kernel_rfl) (by kernel_rfl) (fun _ _ _ h => h) (Or.inl ⟨by rfl, ?hy⟩) (by assumption) ?_
          case hy => (intro w9 hSw; (try dsimp only at hSw); go_simp; try with_reducible rfl)
          try simp only [Act.put, List.setIfInBounds_toArray, List.set_cons_zero, List.set_cons_succ]
          refine wpAnyH_take (i := 25) (oi := { dst := some 115, op := Go.Op.indexAddr 22 (Go.Operand.tmp 113) (Go.Operand.tmp 114), type := 0, pos := "lattice.go:591", after := #[{ on := 23, ground := Go.Ground.data }, { on := 24, ground := Go.Ground.data }, { on := 14, ground := Go.Ground.guard }], guard := some (14, true) }) (v := ?_) rfl (by kernel_rfl) (by kernel_rfl) (by kernel_rfl) (fun _ _ _ h => h) (Or.inl ⟨by rfl, ?hy⟩) (by assumption) ?_
          case hy => (intro w9 hSw; (try dsimp only at hSw); go_simp; try with_reducible rfl)
          try simp only [Act.put, List.setIfInBounds_toArray, List.set_cons_zero, List.set_cons_succ]
          refine wpAnyH_take (i := 26) (oi := { dst := some 116, op := Go.Op.load 3 (Go.Operand.tmp 115), type := 3, pos := "lattice.go:591", after := #[{ on := 25, ground := Go.Ground.data }, { on := 14, ground := Go.Ground.guard }], guard := some (14, true) }) (v := ?_) rfl (by kernel_rfl) (by kernel_rfl) (by kernel_rfl) (fun _ _ _ h => h) (Or.inl ⟨by rfl, ?hy⟩) (by assumption) ?_
          case hy => (intro w9 hSw; (try dsimp only at hSw); go_simp; try with_reducible rfl)
          try simp only [Act.put, List.setIfInBounds_toArray, List.set_cons_zero, List.set_cons_succ]
          refine wpAnyH_take (i := 27) (oi := { dst := some 117, op := Go.Op.move (Go.Operand.tmp 14), type := 3, pos := "lattice.go:591", after := #[{ on := 14, ground := Go.Ground.guard }], guard := some (14, true) }) (v := ?_) rfl (by kernel_rfl) (by kernel_rfl) (by kernel_rfl) (fun _ _ _ h => h) (Or.inl ⟨by rfl, ?hy⟩) (by assumption) ?_
          case hy => (intro w9 hSw; (try dsimp only at hSw); go_simp; try with_reducible rfl)
          try simp only [Act.put, List.setIfInBounds_toArray, List.set_cons_zero, List.set_cons_succ]
          refine wpAnyH_ready (rs := [28]) (by kernel_rfl) (by simp) ?_
          refine AllReadyH.cons (o := { dst := some 118, op := Go.Op.call { callee := Go.Callee.value (Go.Operand.func 27), args := #[Go.Operand.tmp 117], argTypes := #[3] }, type := 3, pos := "lattice.go:591", after := #[{ on := 27, ground := Go.Ground.data }, { on := 14, ground := Go.Ground.chain }, { on := 14, ground := Go.Ground.guard }], guard := some (14, true) }) rfl (fun K hK => ?_) AllReadyH.nil
          go_simp
          refine (bit_any k _ (by omega)).mono ?_
          rintro e wz ⟨rfl, rfl⟩
          refine hK.out _ _ ?_ (fun hHeld => ?_)
          · first | assumption | exact Below.then (by assumption) (by assumption)
          clear hK K
          try simp only [Act.put, List.setIfInBounds_toArray, List.set_cons_zero, List.set_cons_succ]
          refine wpAnyH_take (i := 29) (oi := { dst := some 119, op := Go.Op.binOp Go.BinOp.add 3 (Go.Operand.tmp 116) (Go.Operand.tmp 118) 3, type := 3, pos := "lattice.go:591", after := #[{ on := 26, ground := Go.Ground.data }, { on := 28, ground := Go.Ground.data }, { on := 14, ground := Go.Ground.guard }], guard := some (14, true) }) (v := ?_) rfl (by kernel_rfl) (by kernel_rfl) (by kernel_rfl) (fun _ _ _ h => h) (Or.inl ⟨by rfl, ?hy⟩) (by assumption) ?_
          case hy => (intro w9 hSw; (try dsimp only at hSw); go_simp; try with_reducible rfl)
          try simp only [Act.put, List.setIfInBounds_toArray, List.set_cons_zero, List.set_cons_succ]
          refine wpAnyH_take (i := 30) (oi := { dst := some 120, op := Go.Op.binOp Go.BinOp.eql 3 (Go.Operand.tmp 111) (Go.Operand.tmp 119) 3, type := 4, pos := "lattice.go:591", after := #[{ on := 21, ground := Go.Ground.data }, { on := 29, ground := Go.Ground.data }, { on := 14, ground := Go.Ground.guard }], guard := some (14, true) }) (v := ?_) rfl (by kernel_rfl) (by kernel_rfl) (by kernel_rfl) (fun _ _ _ h => h) (Or.inl ⟨by rfl, ?hy⟩) (by assumption) ?_
          case hy => (intro w9 hSw; (try dsimp only at hSw); go_simp; try with_reducible rfl)
          try simp only [Act.put, List.setIfInBounds_toArray, List.set_cons_zero, List.set_cons_succ]
          refine wpAnyH_take (i := 31) (oi := { dst := some 121, op := Go.Op.pick (Go.Operand.tmp 104) (Go.Operand.tmp 120) (Go.Operand.const (Go.Value.bool false)), type := 4, pos := "lattice.go:591", after := #[{ on := 14, ground := Go.Ground.data }, { on := 30, ground := Go.Ground.data }], guard := none }) (v := ?_) rfl (by kernel_rfl) (by kernel_rfl) (by kernel_rfl) (fun _ _ _ h => h) (Or.inl ⟨by rfl, ?hy⟩) (by assumption) ?_
          case hy => (intro w9 hSw; (try dsimp only at hSw); go_simp; try with_reducible rfl)
          try simp only [Act.put, List.setIfInBounds_toArray, List.set_cons_zero, List.set_cons_succ]
          refine wpAnyH_done (by kernel_rfl) ?_ _
          try simp only [Act.put, List.setIfInBounds_toArray, List.set_cons_zero, List.set_cons_succ]
          have HW9 : Hid (Below W.heap.size W wr.drew) := HWK.out.drew
          have HO9 : Hid (wr.drew.ownsRow W.heap.size 3 1 u12 (lst κ i k).length (natVals (lst κ i k))) := owns_below HOK.out (Below.refl _ _).drew
          clear HOK HWK hHeld
          generalize wr.drew = w9 at *
          cases v
          · have hne : ¬ κ i = k := fun e => absurd (HVV.out.2 e) (by decide)
            have HNX : Hid (lst κ i (k + 1) = lst κ i k) := by
              unfold Hid lst
              by_cases h : κ i < k
              · rw [if_pos (by omega), if_pos h]
              · rw [if_neg (by omega), if_neg h]
            go_wp2_with fail
            go_roundw
            case rel => exact ⟨k + 1, by omega, by go_num, by rw [HNX.out]; exact HO9, HW9⟩
            case measure => simp [intOf]; omega
          · have hek : κ i = k := HVV.out.1 rfl
            have HPL : Hid ((kpl κ i).length = i) := kpl_len κ i
            have hown : w9.ownsRow W.heap.size 3 1 u12 i (natVals (kpl κ i)) := by
              have h1 : lst κ i k = kpl κ i := by unfold lst; rw [if_neg (by omega)]
              have := HO9.out
              rw [h1, HPL.out] at this; exact this
            have HNX : Hid (lst κ i (k + 1) = kpl κ i ++ [k]) := by
              unfold Hid lst
              rw [if_pos (by omega)]
              show kpl κ i ++ [κ i] = _
              rw [hek]
            have hsz := HW9.out.size
            obtain ⟨PL, HPLE⟩ : ∃ PL, Hid (PL = kpl κ i) := ⟨_, rfl⟩
            rw [← HPLE.out] at hown HNX HPL
            clear HO9 HPLE c1 c2 c3 m1 hwr hv
            go_wp2_with (at_builtin; refine wpList_append_own _ rfl _ _ 22 rfl W.heap.size 3 i0 (.int .i64 0) 1 8 Try.underlying22 hi hz0 hz1 hz2 rfl (by decide) _ _ _ rfl (hown.alloc _) ⟨w9.heap.size, 0, none⟩ 1 1 [.int .i64 (k : Nat)] rfl rfl ?g1 ?g2 ?g3 ?g4 ?g5 ?_)
            case g2 => first | rfl | (intro u hu; simp at hu; subst hu; rfl)
            case g3 => unfold maxLen; omega
            case g4 => omega
            case g5 => first | omega | (simp; omega)
            intro v' w10 hown' hgrow _
            have HW10 : Hid (Below W.heap.size W w10) := (HW9.out.alloc hsz _).grown hgrow (by simp; omega) (owns_block hown)
            have HO10 : Hid (w10.ownsRow W.heap.size 3 1 v' (PL ++ [k]).length (natVals (PL ++ [k]))) := by
              rw [natVals_append, List.length_append, HPL.out]; exact hown'
            clear hown' hgrow hown HW9
            go_wp2_with fail
            go_roundw
            case rel => exact ⟨k + 1, by omega, by go_num, by rw [HNX.out]; exact HO10, HW10⟩
            case measure => simp [intOf]; omega
        · obtain rfl : len = k := by omega
          have HNX : Hid (lst κ i len = kpl κ (i + 1)) := by
            unfold Hid lst
            rw [if_pos (HPTS.out.lt i hlt)]
          rw [HNX.out] at HOK
          go_wp2_with fail
          go_roundw
          case rel => exact ⟨i + 1, by omega, by go_num, HOK, HWK⟩
          case measure => simp [intOf]; omega
    · obtain rfl : len = i := by omega
      obtain ⟨za, zc, rfl, hzr⟩ := owns_nats HOW.out
      rw [kpl_len] at hzr ⊢
      have HZR : Hid (Row wr za len (fun k => (nth (kpl κ len) k : Nat))) := hzr
      have HON : Hid (∀ x, x < len → ∃ k, k < (kpl κ len).length ∧ nth (kpl κ len) k = x) := fun x hx => by
        obtain ⟨k, hk, e⟩ := HPTS.out.onto x hx
        exact ⟨k, by rw [kpl_len]; exact hk, by rw [kpl_at κ len k hk, e]⟩
      have HKL : Hid (len = (kpl κ len).length) := (kpl_len κ len).symm
      have k0 := (HKW.out _ HW.out).c0
      clear hzr HOW
      go_wp2_with fail
      clear k0
      refine (isPermY_any (kpl κ len) za len zc _ hl HKL.out (by rw [← HKL.out]; exact HZR.out) HON.out).mono ?_
      rintro e wz ⟨rfl, hwz⟩
      subst hwz
      obtain ⟨V, HV⟩ : ∃ V, Hid (V = wr) := ⟨_, rfl⟩
      rw [← HV.out] at HZR HW
      go_wp2_with fail
      rw [← HV.out]
      clear HV
      have LZV : Hid (∀ w', Below V.heap.size V w' → Row w' za len (fun k => (nth (kpl κ len) k : Nat))) := fun w' h => HZR.out.below h
      have LPV : Hid (∀ w', Below V.heap.size V w' → Row w' pa len (fun k => (pbl (idm (nat f) len) (idj (nat f) len) q k : Nat))) := fun w' h => LP.out w' (Below.then HW.out h)
      have LOV : Hid (∀ w', Below V.heap.size V w' → Row w' a len (fun k => (nat f k : Nat))) := fun w' h => LO.out w' (Below.then HW.out h)
      have HKV : Hid (∀ w', Below V.heap.size V w' → Held w' w.heap.size (len : Int) a len cap f) := fun w' h => HKW.out w' (Below.then HW.out h)
      have HPV : Hid (∀ w', Below V.heap.size V w' → Box w' w3.heap.size (len : Int) pa len pcp) := fun w' h => HPW.out w' (Below.then HW.out h)
      have HPG : Hid (∀ k, k < len → pbl (idm (nat f) len) (idj (nat f) len) q k < 1024) := fun k hk => by
        have := pbl_lt (m := idm (nat f) len) (j := idj (nat f) len) (n := q) (b := k)
        rw [HIR.out, ← HTI.out, HIL.out] at this
        exact set_small this h10
      have HBV : Hid (Below w.heap.size w V) := Below.then HBW.out HW.out
      clear HON HKL HZR HW HKW HPW LP LO LS LTI HBW
      go_loopw [15] (fun i wx => ∃ x : Nat, x ≤ len ∧ i = .int .i64 x ∧ Hid (Below V.heap.size V wx)) (fun i _ => len - (intOf i).toNat)
      case atStart => exact ⟨0, Nat.zero_le _, rfl, Below.refl _ _⟩
      case round =>
        obtain ⟨x, hx, rfl, HW0⟩ := hrel
        have k0 := (HKV.out _ HW0.out).c0
        by_cases hxl : x < len
        · go_wp2_with fail
          clear k0
          go_loopw [16] (fun i wx => ∃ y : Nat, y ≤ len ∧ i = .int .i64 y ∧ Hid (Below V.heap.size V wx)) (fun i _ => len - (intOf i).toNat)
          case atStart => exact ⟨0, Nat.zero_le _, rfl, HW0⟩
          case round =>
            clear HW0
            obtain ⟨y, hy, rfl, HWY⟩ := hrel
            have k0 := (HKV.out _ HWY.out).c0
            by_cases hyl : y < len
            · obtain ⟨v, HVL⟩ : ∃ v, Hid ((pbl (idm (nat f) len) (idj (nat f) len) q y).testBit x = v) := ⟨_, rfl⟩
              have HVR : Hid ((nat f (κ y)).testBit (κ x) = v) := by
                rw [Hid, ← HVL.out, HQ.out]; exact (HOT.out.less HPTS.out hxl hyl).symm
              have hkx := HPTS.out.lt x hxl
              have hky := HPTS.out.lt y hyl
              obtain ⟨zb, zo, rfl, _⟩ := LZV.out _ HWY.out x hxl
              have c1 : ∀ w', Below V.heap.size V w' → w'.cell? ⟨zb, zo + x, none⟩ = some (.int .i64 (κ x : Nat)) := fun w' h => by
                have := cell_of (LZV.out w' h) rfl hxl
                try dsimp only at this
                rw [kpl_at κ len x hxl] at this; exact this
              have c2 : ∀ w', Below V.heap.size V w' → w'.cell? ⟨zb, zo + y, none⟩ = some (.int .i64 (κ y : Nat)) := fun w' h => by
                have := cell_of (LZV.out w' h) rfl hyl
                try dsimp only at this
                rw [kpl_at κ len y hyl] at this; exact this
              have m0 : ∀ w', Below V.heap.size V w' → w'.cell? ⟨w.heap.size, 0, none⟩ = some (.int .i64 (len : Int)) := fun w' h => (HKV.out w' h).c0
              have m1 : ∀ w', Below V.heap.size V w' → w'.cell? ⟨w.heap.size, 1, none⟩ = some (.slice a len cap) := fun w' h => (HKV.out w' h).c1
              have p0 : ∀ w', Below V.heap.size V w' → w'.cell? ⟨w3.heap.size, 0, none⟩ = some (.int .i64 (len : Int)) := fun w' h => (HPV.out w' h).1
              have p1 : ∀ w', Below V.heap.size V w' → w'.cell? ⟨w3.heap.size, 1, none⟩ = some (.slice pa len pcp) := fun w' h => (HPV.out w' h).2
              have i1 : (x : Int) < (len : Int) := by omega
              have i2 : (y : Int) < (len : Int) := by omega
              go_wp2_with fail
              clear k0
              refine wp_region_held_drew (S := (fun w' => Below V.heap.size V w')) (by kernel_rfl) (HWY.out.drew) (fun hHeld => ?_)
              refine wpAnyH_take (i := 0) (oi := { dst := some 143, op := Go.Op.load 24 (Go.Operand.tmp 5), type := 24, pos := "lattice.go:601", after := #[], guard := none }) (v := ?_) rfl (by kernel_rfl) (by kernel_rfl) (by kernel_rfl) (fun _ _ _ h => h) (Or.inl ⟨by rfl, ?hy⟩) (by assumption) ?_
              case hy => (intro w9 hSw; (try dsimp only at hSw); go_simp; try with_reducible rfl)
              try simp only [Act.put, List.setIfInBounds_toArray, List.set_cons_zero, List.set_cons_succ]
              refine wpAnyH_take (i := 1) (oi := { dst := some 144, op := Go.Op.move (Go.Operand.tmp 15), type := 3, pos := "lattice.go:601", after := #[], guard := none }) (v := ?_) rfl (by kernel_rfl) (by kernel_rfl) (by kernel_rfl) (fun _ _ _ h => h) (Or.inl ⟨by rfl, ?hy⟩) (by assumption) ?_
              case hy => (intro w9 hSw; (try dsimp only at hSw); go_simp; try with_reducible rfl)
              try simp only [Act.put, List.setIfInBounds_toArray, List.set_cons_zero, List.set_cons_succ]
              refine wpAnyH_take (i := 2) (oi := { dst := some 145, op := Go.Op.move (Go.Operand.tmp 16), type := 3, pos := "lattice.go:601", after := #[], guard := none }) (v := ?_) rfl (by kernel_rfl) (by kernel_rfl) (by kernel_rfl) (fun _ _ _ h => h) (Or.inl ⟨by rfl, ?hy⟩) (by assumption) ?_
              case hy => (intro w9 hSw; (try dsimp only at hSw); go_simp; try with_reducible rfl)
              try simp only [Act.put, List.setIfInBounds_toArray, List.set_cons_zero, List.set_cons_succ]
              refine wpAnyH_take (i := 4) (oi := { dst := some 147, op := Go.Op.load 24 (Go.Operand.tmp 1), type := 24, pos := "lattice.go:601", after := #[], guard := none }) (v := ?_) rfl (by kernel_rfl) (by kernel_rfl) (by kernel_rfl) (fun _ _ _ h => h) (Or.inl ⟨by rfl, ?hy⟩) (by assumption) ?_
              case hy => (intro w9 hSw; (try dsimp only at hSw); go_simp; try with_reducible rfl)
              try simp only [Act.put, List.setIfInBounds_toArray, List.set_cons_zero, List.set_cons_succ]
              refine wpAnyH_take (i := 5) (oi := { dst := some 148, op := Go.Op.move (Go.Operand.tmp 12), type := 22, pos := "lattice.go:601", after := #[], guard := none }) (v := ?_) rfl (by kernel_rfl) (by kernel_rfl) (by kernel_rfl) (fun _ _ _ h => h) (Or.inl ⟨by rfl, ?hy⟩) (by assumption) ?_
              case hy => (intro w9 hSw; (try dsimp only at hSw); go_simp; try with_reducible rfl)
              try simp only [Act.put, List.setIfInBounds_toArray, List.set_cons_zero, List.set_cons_succ]
              refine wpAnyH_take (i := 6) (oi := { dst := some 149, op := Go.Op.move (Go.Operand.tmp 15), type := 3, pos := "lattice.go:601", after := #[], guard := none }) (v := ?_) rfl (by kernel_rfl) (by kernel_rfl) (by kernel_rfl) (fun _ _ _ h => h) (Or.inl ⟨by rfl, ?hy⟩) (by assumption) ?_
              case hy => (intro w9 hSw; (try dsimp only at hSw); go_simp; try with_reducible rfl)
              try simp only [Act.put, List.setIfInBounds_toArray, List.set_cons_zero, List.set_cons_succ]
              refine wpAnyH_take (i := 7) (oi := { dst := some 150, op := Go.Op.indexAddr 22 (Go.Operand.tmp 148) (Go.Operand.tmp 149), type := 0, pos := "lattice.go:601", after := #[{ on := 5, ground := Go.Ground.data }, { on := 6, ground := Go.Ground.data }], guard := none }) (v := ?_) rfl (by kernel_rfl) (by kernel_rfl) (by kernel_rfl) (fun _ _ _ h => h) (Or.inl ⟨by rfl, ?hy⟩) (by assumption) ?_
              case hy => (intro w9 hSw; (try dsimp only at hSw); go_simp; try with_reducible rfl)
              try simp only [Act.put, List.setIfInBounds_toArray, List.set_cons_zero, List.set_cons_succ]
              refine wpAnyH_take (i := 8) (oi := { dst := some 151, op := Go.Op.load 3 (Go.Operand.tmp 150), type := 3, pos := "lattice.go:601", after := #[{ on := 7, ground := Go.Ground.data }], guard := none }) (v := ?_) rfl (by kernel_rfl) (by kernel_rfl) (by kernel_rfl) (fun _ _ _ h => h) (Or.inl ⟨by rfl, ?hy⟩) (by assumption) ?_
              case hy => (intro w9 hSw; (try dsimp only at hSw); go_simp; try with_reducible rfl)
              try simp only [Act.put, List.setIfInBounds_toArray, List.set_cons_zero, List.set_cons_succ]
              refine wpAnyH_take (i := 9) (oi := { dst := some 152, op := Go.Op.move (Go.Operand.tmp 12), type := 22, pos := "lattice.go:601", after := #[], guard := none }) (v := ?_) rfl (by kernel_rfl) (by kernel_rfl) (by kernel_rfl) (fun _ _ _ h => h) (Or.inl ⟨by rfl, ?hy⟩) (by assumption) ?_
              case hy => (intro w9 hSw; (try dsimp only at hSw); go_simp; try with_reducible rfl)
              try simp only [Act.put, List.setIfInBounds_toArray, List.set_cons_zero, List.set_cons_succ]
              refine wpAnyH_take (i := 10) (oi := { dst := some 153, op := Go.Op.move (Go.Operand.tmp 16), type := 3, pos := "lattice.go:601", after := #[], guard := none }) (v := ?_) rfl (by kernel_rfl) (by kernel_rfl) (by kernel_rfl) (fun _ _ _ h => h) (Or.inl ⟨by rfl, ?hy⟩) (by assumption) ?_
              case hy => (intro w9 hSw; (try dsimp only at hSw); go_simp; try with_reducible rfl)
              try simp only [Act.put, List.setIfInBounds_toArray, List.set_cons_zero, List.set_cons_succ]
              refine wpAnyH_take (i := 11) (oi := { dst := some 154, op := Go.Op.indexAddr 22 (Go.Operand.tmp 152) (Go.Operand.tmp 153), type := 0, pos := "lattice.go:601", after := #[{ on := 9, ground := Go.Ground.data }, { on := 10, ground := Go.Ground.data }], guard := none }) (v := ?_) rfl (by kernel_rfl) (by kernel_rfl) (by kernel_rfl) (fun _ _ _ h => h) (Or.inl ⟨by rfl, ?hy⟩) (by assumption) ?_
              case hy => (intro w9 hSw; (try dsimp only at hSw); go_simp; try with_reducible rfl)
              try simp only [Act.put, List.setIfInBounds_toArray, List.set_cons_zero, List.set_cons_succ]
              refine wpAnyH_take (i := 12) (oi := { dst := some 155, op := Go.Op.load 3 (Go.Operand.tmp 154), type := 3, pos := "lattice.go:601", after := #[{ on := 11, ground := Go.Ground.data }], guard := none }) (v := ?_) rfl (by kernel_rfl) (by kernel_rfl) (by kernel_rfl) (fun _ _ _ h => h) (Or.inl ⟨by rfl, ?hy⟩) (by assumption) ?_
              case hy => (intro w9 hSw; (try dsimp only at hSw); go_simp; try with_reducible rfl)
              try simp only [Act.put, List.setIfInBounds_toArray, List.set_cons_zero, List.set_cons_succ]
              refine wpAnyH_ready (rs := [3]) (by kernel_rfl) (by simp) ?_
              refine AllReadyH.cons (o := { dst := some 146, op := Go.Op.call { callee := Go.Callee.value (Go.Operand.func 29), args := #[Go.Operand.tmp 143, Go.Operand.tmp 144, Go.Operand.tmp 145], argTypes := #[24, 3, 3] }, type := 4, pos := "lattice.go:601", after := #[{ on := 0, ground := Go.Ground.data }, { on := 1, ground := Go.Ground.data }, { on := 2, ground := Go.Ground.data }], guard := none }) rfl (fun K hK => ?_) AllReadyH.nil
              go_simp
              refine (less_any len pa len pcp (pbl (idm (nat f) len) (idj (nat f) len) q) x y _ h10 HPG.out (LPV.out _ (by assumption)) (by omega) hyl).mono ?_
              rintro e w7 ⟨rfl, hbb7⟩
              rw [HVL.out]
              refine hK.out _ _ ?_ (fun hHeld => ?_)
              · first | assumption | exact Below.then (by assumption) (by assumption)
              clear hK K
              try simp only [Act.put, List.setIfInBounds_toArray, List.set_cons_zero, List.set_cons_succ]
              refine wpAnyH_ready (rs := [13]) (by kernel_rfl) (by simp) ?_
              refine AllReadyH.cons (o := { dst := some 156, op := Go.Op.call { callee := Go.Callee.value (Go.Operand.func 29), args := #[Go.Operand.tmp 147, Go.Operand.tmp 151, Go.Operand.tmp 155], argTypes := #[24, 3, 3] }, type := 4, pos := "lattice.go:601", after := #[{ on := 4, ground := Go.Ground.data }, { on := 8, ground := Go.Ground.data }, { on := 12, ground := Go.Ground.data }, { on := 3, ground := Go.Ground.chain }], guard := none }) rfl (fun K hK => ?_) AllReadyH.nil
              go_simp
              refine (less_any len a len cap (nat f) (κ x) (κ y) _ h10 HG.out (LOV.out _ (by assumption)) (by omega) hky).mono ?_
              rintro e w9 ⟨rfl, hbb9⟩
              rw [HVR.out]
              refine hK.out _ _ ?_ (fun hHeld => ?_)
              · first | assumption | exact Below.then (by assumption) (by assumption)
              clear hK K
              try simp only [Act.put, List.setIfInBounds_toArray, List.set_cons_zero, List.set_cons_succ]
              refine wpAnyH_take (i := 14) (oi := { dst := some 157, op := Go.Op.binOp Go.BinOp.neq 4 (Go.Operand.tmp 146) (Go.Operand.tmp 156) 4, type := 4, pos := "lattice.go:601", after := #[{ on := 3, ground := Go.Ground.data }, { on := 13, ground := Go.Ground.data }], guard := none }) (v := .bool false) rfl (by kernel_rfl) (by kernel_rfl) (by kernel_rfl) (fun _ _ _ h => h) (Or.inl ⟨by rfl, ?hy⟩) (by assumption) ?_
              case hy => (intro w9 hSw; (try dsimp only at hSw); go_simp <;> (first | with_reducible rfl | (simp; omega) | omega))
              try simp only [Act.put, List.setIfInBounds_toArray, List.set_cons_zero, List.set_cons_succ]
              refine wpAnyH_done (by kernel_rfl) ?_ _
              try simp only [Act.put, List.setIfInBounds_toArray, List.set_cons_zero, List.set_cons_succ]
              have hb8 : Below V.heap.size V w9 := by first | assumption | exact hHeld
              have HW9 : Hid (Below V.heap.size V w9) := hb8
              clear hb8 hHeld
              go_wp2_with fail
              go_roundw
              case rel => exact ⟨y + 1, by omega, by go_num, HW9⟩
              case measure => simp [intOf]; omega
            · obtain rfl : len = y := by omega
              go_wp2_with fail
              go_roundw
              case rel => exact ⟨x + 1, by omega, by go_num, HWY⟩
              case measure => simp [intOf]; omega
        · obtain rfl : len = x := by omega
          go_wp2_with fail
          go_ret
          exact ⟨rfl, Below.then HBV.out HW0.out⟩
end Go.Proofs.Ytpgbcnbhfgopdaa
