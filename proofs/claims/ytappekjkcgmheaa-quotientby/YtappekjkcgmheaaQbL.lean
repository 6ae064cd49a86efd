/-
  hasselaw.QuotientBy returns true for every lattice and list. No condition but that slices read as slices of rows and of numbers.
-/
import Derived.Test.YtappekjkcgmheaaLFrame
import Derived.Test.YtappekjkcgmheaaQfP
import Derived.Test.YtappekjkcgmheaaLtIs
import Derived.Deep.Cut
namespace Go.Proofs.Ytappekjkcgmheaa
open Go.RowKit
set_option maxRecDepth 100000

theorem CM.tb {w : World} {B : Nat} {r : Nat → Nat} {K : Nat} {G : Nat → Nat → Nat} (h : CM w B r K K K G) : Tb w B 0 K (fun k => (r k, 0, K)) G := fun x hx =>
  ⟨by rw [Nat.zero_add]; exact h.cells x hx, fun y hy => by rw [Nat.zero_add]; exact (h.rows x hx y hy).1⟩
theorem tab_one {f : Nat → Int} {q : Nat} {m : Nat → Nat → Nat} {G G' : Nat → Nat → Nat} (h1 : 1 ≤ q) (hf : RisC f q) (h : TabTo q m (natF f) G q 0) (h' : TabTo q m (natF f) G' q 0) : ∀ x y, x < numK f q → y < numK f q → G x y = G' x y := fun x y hx hy => by
  obtain ⟨s, hs, rfl⟩ := natF_hit h1 hf hx
  obtain ⟨t, ht, rfl⟩ := natF_hit h1 hf hy
  rw [h s t hs ht (.inl hs), h' s t hs ht (.inl hs)]
/-- What By gives, as a box holds it. -/
theorem by_form {n : Int} {la : Nat} {SA : Nat → Option Addr × Nat × Nat} {FA : Nat → Nat → Int} {lb : Nat} {SB : Nat → Option Addr × Nat × Nat} {FB : Nat → Nat → Int} {m : Nat} {f : Nat → Int} {w' : World} {c : Int} {v : Value} (h : ByIs n la SA FA lb SB FB m f w' c v) : ∃ n5 a5 l5 c5 b5 k5 d5, v = .agg #[.int .i64 n5, .slice a5 l5 c5, .slice b5 k5 d5] := by
  rcases h with ⟨_, _, rfl⟩ | ⟨_, ⟨_, _, rfl⟩ | ⟨_, _, B1, r1, G1, B2, r2, G2, rfl, _⟩⟩
  · exact ⟨_, _, _, _, _, _, _, rfl⟩
  · exact ⟨_, _, _, _, _, _, _, rfl⟩
  · exact ⟨_, _, _, _, _, _, _, rfl⟩
theorem quotientOf_row {n : Int} {a : Option Addr} {la ca : Nat} {SA : Nat → Option Addr × Nat × Nat} {FA : Nat → Nat → Int} {b : Option Addr} {lb cb : Nat} {SB : Nat → Option Addr × Nat × Nat} {FB : Nat → Nat → Int} {p : Option Addr} {m cm : Nat} {f : Nat → Int} {B : Nat} {w : World} (h : QS n a la ca SA FA b lb cb SB FB p m f B w) (hk : QCk n la SA FA lb SB FB m f 0) (hc : Con m (nat2 FA) (nat2 FB) (natF f)) :
    Calls Try.prog 25 #[.agg #[.int .i64 n, .slice a la ca, .slice b lb cb], .slice p m cm] w fun e w' => (∃ T1 c1 T2 c2 R1 R2 G1 G2, e = .returned (.agg #[.int .i64 (numK f m : Nat), .slice (some ⟨T1, 0, none⟩) (numK f m) c1, .slice (some ⟨T2, 0, none⟩) (numK f m) c2]) ∧ Tb w' T1 0 (numK f m) R1 G1 ∧ Tb w' T2 0 (numK f m) R2 G2 ∧ TabTo m (nat2 FA) (natF f) G1 m 0 ∧ TabTo m (nat2 FB) (natF f) G2 m 0 ∧ (w.heap.size ≤ T1 ∧ w.heap.size ≤ T2) ∧ ∀ k, k < numK f m → w.heap.size ≤ (R1 k).1 ∧ w.heap.size ≤ (R2 k).1) ∧ Below w.heap.size w w' := by
  obtain ⟨hlk, hmn, hri⟩ := hk.good
  subst hmn
  obtain ⟨q, hq, h1, h40, rfl, rfl, hsa, hsb, hga, hgb, hLat⟩ := hlk.good
  obtain rfl : m = lb := by omega
  obtain ⟨bA, oA, rfl, hta, hia⟩ := h.ra.tb h1 hsa hga
  obtain ⟨bB, oB, rfl, htb, hib⟩ := h.rb.tb h1 hsb hgb
  have hrp := h.rp
  obtain ⟨bp, op, rfl, hcc⟩ := h.rp.at (show 0 < m by omega)
  exact quotientOf_any m bA oA ca bB oB cb bp op cm _ _ (nat2 FA) (nat2 FB) f w h1 h40 hia hib hta htb hrp hri (goes_con hLat hc).1 (goes_con hLat hc).2
theorem numK_le {n : Int} {la : Nat} {SA : Nat → Option Addr × Nat × Nat} {FA : Nat → Nat → Int} {lb : Nat} {SB : Nat → Option Addr × Nat × Nat} {FB : Nat → Nat → Int} {m : Nat} {f : Nat → Int} (hk : QCk n la SA FA lb SB FB m f 0) : 1 ≤ m ∧ RisC f m ∧ 1 ≤ numK f m ∧ numK f m ≤ 40 := by
  obtain ⟨hlk, hmn, hri⟩ := hk.good
  obtain ⟨q, hq, h1, h40, _⟩ := hlk.good
  have hm : 1 ≤ m := by omega
  have := natF_le hm hri
  exact ⟨hm, hri, by unfold numK; omega, by omega⟩

set_option maxHeartbeats 8000000 in
theorem quotientBy_any (n : Int) (a : Option Addr) (la ca : Nat) (SA : Nat → Option Addr × Nat × Nat) (FA : Nat → Nat → Int) (b : Option Addr) (lb cb : Nat) (SB : Nat → Option Addr × Nat × Nat) (FB : Nat → Nat → Int) (p : Option Addr) (m cm : Nat) (f : Nat → Int) (w : World) (hla : la ≤ maxLen) (hlb : lb ≤ maxLen) (_ : m ≤ maxLen) (hra : RR w a la SA FA) (hrb : RR w b lb SB FB) (hrp : Row w p m f) :
    Calls Try.prog 6 #[.agg #[.int .i64 n, .slice a la ca, .slice b lb cb], .slice p m cm] w fun e w' => e = .returned (.bool true) ∧ Below w.heap.size w w' := by
  have HB0 : Hid (Below w.heap.size w (w.alloc (.cells #[.int .i64 n, .slice a la ca, .slice b lb cb] 24))) := (Below.refl _ _).alloc (Nat.le_refl _) _
  have HS : Hid (QS n a la ca SA FA b lb cb SB FB p m f w.heap.size (w.alloc (.cells #[.int .i64 n, .slice a la ca, .slice b lb cb] 24))) := QS.new hra hrb hrp
  clear hra hrb hrp
  go_enter Try.func6, Try.ntmps6
  go_wp2_with fail
  refine (by_any n a la ca SA FA b lb cb SB FB p m cm f _ hla hlb HS.out.ra HS.out.rb HS.out.rp).mono ?_
  rintro e w1 ⟨⟨c, v, rfl, hv⟩, hb1⟩
  have HB1 : Hid (Below w.heap.size w w1) := Below.then HB0.out hb1
  have HS1 : Hid (QS n a la ca SA FA b lb cb SB FB p m f w.heap.size w1) := HS.out.step hb1
  obtain ⟨n5, a5, l5, c5, b5, k5, d5, rfl⟩ := by_form hv
  have HV : Hid (ByIs n la SA FA lb SB FB m f w1 c (.agg #[.int .i64 n5, .slice a5 l5 c5, .slice b5 k5 d5])) := hv
  clear hv hb1 HB0 HS
  obtain ⟨W1, HW1⟩ : ∃ W1, Hid (W1 = w1.alloc (.cells #[.int .i64 n5, .slice a5 l5 c5, .slice b5 k5 d5] 24)) := ⟨_, rfl⟩
  obtain ⟨B5, HB5⟩ : ∃ B5, Hid (B5 = w1.heap.size) := ⟨_, rfl⟩
  have HBB : Hid (Below w1.heap.size w1 W1) := by rw [HW1.out]; exact (Below.refl _ _).alloc (Nat.le_refl _) _
  have HL5 : Hid (LB W1 B5 n5 a5 l5 c5 b5 k5 d5) := by rw [HW1.out, HB5.out]; exact LB.new _ _ _ _ _ _ _ _
  have HSW : Hid (QS n a la ca SA FA b lb cb SB FB p m f w.heap.size W1) := HS1.out.step HBB.out
  have HBW : Hid (Below w.heap.size w W1) := Below.then HB1.out HBB.out
  have k0 := HSW.out.bx.1
  have k1 := HSW.out.bx.2.1
  have k2 := HSW.out.bx.2.2
  clear HS1 HB1
  go_upto_region 2 with fail
  rw [← HW1.out, ← HB5.out]
  go_wp2_with fail
  clear HW1
  refine (checkClasses_any n a la ca SA FA b lb cb SB FB p m cm f W1 hla hlb HSW.out.ra HSW.out.rb HSW.out.rp).mono ?_
  rintro e w2 ⟨⟨d, rfl, hd⟩, hb2⟩
  have HQ : Hid (QCk n la SA FA lb SB FB m f d) := hd
  have HBW2 : Hid (Below w.heap.size w w2) := Below.then HBW.out hb2
  have HBB2 : Hid (Below w1.heap.size w1 w2) := Below.then HBB.out hb2
  have HL52 : Hid (LB w2 B5 n5 a5 l5 c5 b5 k5 d5) := HL5.out.step hb2
  have HSW2 : Hid (QS n a la ca SA FA b lb cb SB FB p m f w.heap.size w2) := HSW.out.step hb2
  clear hd hb2 HBW HBB HL5 HSW k0 k1 k2
  obtain ⟨W2, HW2⟩ : ∃ W2, Hid (W2 = w2.alloc (.cells #[.int .i64 0, .slice none 0 0, .slice none 0 0] 24)) := ⟨_, rfl⟩
  obtain ⟨B8, HB8⟩ : ∃ B8, Hid (B8 = w2.heap.size) := ⟨_, rfl⟩
  have hbW2 : Below w2.heap.size w2 W2 := by rw [HW2.out]; exact (Below.refl _ _).alloc (Nat.le_refl _) _
  have HZ8 : Hid (ZL W2 B8) := by rw [HW2.out, HB8.out]; exact ZL.new _
  have HBW3 : Hid (Below w.heap.size w W2) := Below.then HBW2.out hbW2
  have HBB3 : Hid (Below w1.heap.size w1 W2) := Below.then HBB2.out hbW2
  have HL53 : Hid (LB W2 B5 n5 a5 l5 c5 b5 k5 d5) := HL52.out.step hbW2
  have HSW3 : Hid (QS n a la ca SA FA b lb cb SB FB p m f w.heap.size W2) := HSW2.out.step hbW2
  have HLT8 : Hid (w1.heap.size ≤ B8 ∧ B5 < B8 ∧ w.heap.size < B8 ∧ B8 < W2.heap.size) := by
    have h1 := HBB2.out.size
    have h2 := World.block_lt_of_cell? _ _ HL52.out.1
    have h3 := World.block_lt_of_cell? _ _ HSW2.out.bx.1
    have h4 := World.block_lt_of_cell? _ _ HZ8.out.1.1
    have h5 := HB8.out
    simp only at h2 h3 h4
    unfold Hid
    omega
  clear HBW2 HBB2 HL52 HSW2 hbW2
  have k0 := HSW3.out.bx.1
  have k1 := HSW3.out.bx.2.1
  have k2 := HSW3.out.bx.2.2
  by_cases h0 : d = 0
  · subst h0
    by_cases hcon : Con m (nat2 FA) (nat2 FB) (natF f)
    · have HN : Hid (Con m (nat2 FA) (nat2 FB) (natF f)) := hcon
      obtain ⟨hm1, hri, hK1, hK40⟩ := numK_le HQ.out
      have HRI : Hid (RisC f m) := hri
      rcases HV.out with ⟨h, hh, _⟩ | ⟨_, ⟨_, h, _⟩ | ⟨rfl, _, B1, r1, G1, B2, r2, G2, hv5, hM1, hM2, hT1, hT2⟩⟩
      · exact absurd (hh.one HQ.out) h
      · exact absurd hcon h
      obtain ⟨K, HKE⟩ : ∃ K, Hid (numK f m = K) := ⟨_, rfl⟩
      rw [HKE.out] at hv5 hM1 hM2 hK1 hK40
      simp only [Value.agg.injEq, Array.mk.injEq, List.cons.injEq, Value.int.injEq, Value.slice.injEq, and_true, true_and] at hv5
      obtain ⟨e1, ⟨e2, e3, e4⟩, e5, e6, e7⟩ := hv5
      subst n5
      subst a5
      subst b5
      subst l5
      subst c5
      subst k5
      subst d5
      have HTB1 : Hid (Tb W2 B1 0 K (fun k => (r1 k, 0, K)) G1) := hM1.tb.step HBB3.out
      have HTB2 : Hid (Tb W2 B2 0 K (fun k => (r2 k, 0, K)) G2) := hM2.tb.step HBB3.out
      have HLW : Hid ((B1 < w1.heap.size ∧ B2 < w1.heap.size) ∧ ∀ j, j < K → r1 j < w1.heap.size ∧ r2 j < w1.heap.size) := ⟨⟨hM1.ltB, hM2.ltB⟩, fun j hj => ⟨(hM1.lt j hj).2, (hM2.lt j hj).2⟩⟩
      have HTT1 : Hid (TabTo m (nat2 FA) (natF f) G1 m 0) := hT1
      have HTT2 : Hid (TabTo m (nat2 FB) (natF f) G2 m 0) := hT2
      clear hcon hri HV hM1 hM2 hT1 hT2
      go_upto_region 3 with fail
      rw [← HW2.out, ← HB8.out]
      go_wp2_with fail
      clear HW2
      refine (isCongruence_row HSW3.out HQ.out).mono ?_
      rintro e w3 ⟨⟨v', rfl, hv'⟩, hb3⟩
      obtain rfl : v' = true := hv'.2 HN.out
      have HBW4 : Hid (Below w.heap.size w w3) := Below.then HBW3.out hb3
      have HL54 : Hid (LB w3 B5 K (some ⟨B1, 0, none⟩) K K (some ⟨B2, 0, none⟩) K K) := HL53.out.step hb3
      have HZ84 : Hid (ZL w3 B8) := HZ8.out.step hb3
      have HSW4 : Hid (QS n a la ca SA FA b lb cb SB FB p m f w.heap.size w3) := HSW3.out.step hb3
      have HTB3 : Hid (Tb w3 B1 0 K (fun k => (r1 k, 0, K)) G1) := HTB1.out.step hb3
      have HTB4 : Hid (Tb w3 B2 0 K (fun k => (r2 k, 0, K)) G2) := HTB2.out.step hb3
      have HSZ3 : Hid (B8 < w3.heap.size) := World.block_lt_of_cell? _ _ HZ84.out.1.1
      clear hb3 hv' HBW3 HL53 HZ8 HSW3 HTB1 HTB2 k0 k1 k2
      have k0 := HSW4.out.bx.1
      have k1 := HSW4.out.bx.2.1
      have k2 := HSW4.out.bx.2.2
      go_wp2_with fail
      refine (quotientOf_row HSW4.out HQ.out HN.out).mono ?_
      rintro e w4 ⟨⟨T1, c1, T2, c2, R1, R2, F1, F2, rfl, ht1, ht2, hu1, hu2, hfr, hfr2⟩, hb4⟩
      rw [HKE.out] at ht1 ht2 hfr2
      rw [HKE.out]
      obtain ⟨⟨z0, z1, z2⟩, f0, f1, f2⟩ := HZ84.out.step hb4
      obtain ⟨W4, HW4⟩ : ∃ W4, Hid (W4 = ((w4.setCell ⟨B8, 0, none⟩ (.int .i64 (K : Nat))).setCell ⟨B8, 1, none⟩ (.slice (some ⟨T1, 0, none⟩) K c1)).setCell ⟨B8, 2, none⟩ (.slice (some ⟨T2, 0, none⟩) K c2)) := ⟨_, rfl⟩
      have HTT3 : Hid (TabTo m (nat2 FA) (natF f) F1 m 0) := hu1
      have HTT4 : Hid (TabTo m (nat2 FB) (natF f) F2 m 0) := hu2
      have hlt8 := HLT8.out
      have hlt3 := HSZ3.out
      have hlw := HLW.out
      have HB4 : Hid (Below w.heap.size w W4) := by rw [HW4.out]; exact set3B (Below.then HBW4.out hb4) (by omega)
      have HA1 : Hid (Tb W4 T1 0 K R1 F1) := by rw [HW4.out]; exact ht1.set3 _ _ _ (by omega) (fun k hk => by have := (hfr2 k hk).1; omega)
      have HA2 : Hid (Tb W4 T2 0 K R2 F2) := by rw [HW4.out]; exact ht2.set3 _ _ _ (by omega) (fun k hk => by have := (hfr2 k hk).2; omega)
      have HA3 : Hid (Tb W4 B1 0 K (fun k => (r1 k, 0, K)) G1) := by rw [HW4.out]; exact (HTB3.out.step hb4).set3 _ _ _ (by omega) (fun k hk => by have := (hlw.2 k hk).1; show B8 ≠ r1 k; omega)
      have HA4 : Hid (Tb W4 B2 0 K (fun k => (r2 k, 0, K)) G2) := by rw [HW4.out]; exact (HTB4.out.step hb4).set3 _ _ _ (by omega) (fun k hk => by have := (hlw.2 k hk).2; show B8 ≠ r2 k; omega)
      have HL5X : Hid (LB W4 B5 K (some ⟨B1, 0, none⟩) K K (some ⟨B2, 0, none⟩) K K) := by
        rw [HW4.out]
        have ne : ∀ i k : Nat, (⟨B8, i, none⟩ : Addr) ≠ ⟨B5, k, none⟩ := fun i k e => by injection e with e; omega
        have h5 := HL54.out.step hb4
        refine ⟨?_, ?_, ?_⟩ <;> rw [World.cell?_setCell_other _ _ _ _ (ne _ _), World.cell?_setCell_other _ _ _ _ (ne _ _), World.cell?_setCell_other _ _ _ _ (ne _ _)]
        · exact h5.1
        · exact h5.2.1
        · exact h5.2.2
      have HL8X : Hid (LB W4 B8 K (some ⟨T1, 0, none⟩) K c1 (some ⟨T2, 0, none⟩) K c2) := by
        rw [HW4.out]
        have ne : ∀ i k : Nat, i ≠ k → (⟨B8, i, none⟩ : Addr) ≠ ⟨B8, k, none⟩ := fun i k h e => by injection e with _ e; exact h e
        refine ⟨?_, ?_, ?_⟩
        · rw [World.cell?_setCell_other _ _ _ _ (ne _ _ (by decide)), World.cell?_setCell_other _ _ _ _ (ne _ _ (by decide))]; exact World.cell?_setCell_same _ _ _ z0
        · rw [World.cell?_setCell_other _ _ _ _ (ne _ _ (by decide))]; refine World.cell?_setCell_same _ _ _ (?_ : _ = some (.slice none 0 0)); rw [World.cell?_setCell_other _ _ _ _ (ne _ _ (by decide))]; exact z1
        · refine World.cell?_setCell_same _ _ _ (?_ : _ = some (.slice none 0 0)); rw [World.cell?_setCell_other _ _ _ _ (ne _ _ (by decide)), World.cell?_setCell_other _ _ _ _ (ne _ _ (by decide))]; exact z2
      clear ht1 ht2 hu1 hu2 hfr hfr2 hb4 HTB3 HTB4 HL54 HZ84 HSW4 HBW4 hlt8 hlt3 hlw HSZ3 k0 k1 k2
      go_upto_region 7 with fail
      rw [← HW4.out]
      clear HW4 z0 z1 z2 f0 f1 f2
      go_wp2_with fail
      refine (quotientBegun_any _).mono ?_
      rintro e w5 ⟨rfl, hb5⟩
      have HBW5 : Hid (Below w.heap.size w w5) := Below.then HB4.out hb5
      obtain ⟨m0, m1, m2⟩ := HL5X.out.step hb5
      obtain ⟨z0, z1, z2⟩ := HL8X.out.step hb5
      have hlm : K ≤ maxLen := by unfold maxLen; omega
      have HE1 : Hid (EqT w5 (some ⟨B1, 0, none⟩) (some ⟨T1, 0, none⟩) K) := EqT.of (HA3.out.step hb5) (HA1.out.step hb5) hlm (by have := tab_one hm1 HRI.out HTT1.out HTT3.out; rw [HKE.out] at this; exact this)
      have HE2 : Hid (EqT w5 (some ⟨B2, 0, none⟩) (some ⟨T2, 0, none⟩) K) := EqT.of (HA4.out.step hb5) (HA2.out.step hb5) hlm (by have := tab_one hm1 HRI.out HTT2.out HTT4.out; rw [HKE.out] at this; exact this)
      clear hb5 HB4 HL5X HL8X HA1 HA2 HA3 HA4
      go_wp2_with fail
      refine (latticeIs_ok K _ _ _ _ K K K K c1 c2 w5 hlm hlm HE1.out HE2.out).mono ?_
      rintro e w6 ⟨rfl, hb6⟩
      have HBW6 : Hid (Below w.heap.size w w6) := Below.then HBW5.out hb6
      clear hb6
      go_wp2_with fail
      go_ret
      exact ⟨rfl, HBW6.out⟩
    · obtain ⟨rfl, hv5⟩ : c = 4 ∧ (Value.agg #[.int .i64 n5, .slice a5 l5 c5, .slice b5 k5 d5]) = noLat := by
        rcases HV.out with ⟨h, hh, _⟩ | ⟨_, ⟨h, _, hv⟩ | ⟨_, h, _⟩⟩
        · exact absurd (hh.one HQ.out) h
        · exact ⟨h, hv⟩
        · exact absurd h hcon
      unfold noLat at hv5
      simp only [Value.agg.injEq, Array.mk.injEq, List.cons.injEq, Value.int.injEq, Value.slice.injEq, and_true, true_and] at hv5
      obtain ⟨rfl, ⟨rfl, rfl, rfl⟩, rfl, rfl, rfl⟩ := hv5
      have HN : Hid (¬ Con m (nat2 FA) (nat2 FB) (natF f)) := hcon
      clear hcon HV
      go_upto_region 3 with fail
      rw [← HW2.out, ← HB8.out]
      go_wp2_with fail
      clear HW2
      refine (isCongruence_row HSW3.out HQ.out).mono ?_
      rintro e w3 ⟨⟨v', rfl, hv'⟩, hb3⟩
      obtain rfl : v' = false := by
        cases v'
        · rfl
        · exact absurd (hv'.1 rfl) HN.out
      have HBW4 : Hid (Below w.heap.size w w3) := Below.then HBW3.out hb3
      have HL54 : Hid (LB w3 B5 0 none 0 0 none 0 0) := HL53.out.step hb3
      have HZ84 : Hid (ZL w3 B8) := HZ8.out.step hb3
      clear hb3 hv' HBW3 HL53 HZ8 HSW3 k0 k1 k2
      go_wp2_with fail
      refine (quotientBegun_any _).mono ?_
      rintro e w4 ⟨rfl, hb4⟩
      have HBW5 : Hid (Below w.heap.size w w4) := Below.then HBW4.out hb4
      obtain ⟨m0, m1, m2⟩ := HL54.out.step hb4
      obtain ⟨⟨z0, z1, z2⟩, _, _, _⟩ := HZ84.out.step hb4
      clear hb4 HBW4 HL54 HZ84
      go_wp2_with fail
      refine (latticeIs_err 4 0 none none 0 0 0 0 w4 (by decide)).mono ?_
      rintro e w5 ⟨rfl, hb5⟩
      have HBW6 : Hid (Below w.heap.size w w5) := Below.then HBW5.out hb5
      clear hb5
      go_wp2_with fail
      go_ret
      exact ⟨rfl, HBW6.out⟩
  · have hne : (d == 0) = false := by simpa using h0
    obtain ⟨rfl, hv5⟩ : c = d ∧ (Value.agg #[.int .i64 n5, .slice a5 l5 c5, .slice b5 k5 d5]) = noLat := by
      rcases HV.out with ⟨h, hh, hv⟩ | ⟨hh, _⟩
      · exact ⟨hh.one HQ.out, hv⟩
      · exact absurd (HQ.out.one hh) h0
    unfold noLat at hv5
    simp only [Value.agg.injEq, Array.mk.injEq, List.cons.injEq, Value.int.injEq, Value.slice.injEq, and_true, true_and] at hv5
    obtain ⟨rfl, ⟨rfl, rfl, rfl⟩, rfl, rfl, rfl⟩ := hv5
    clear HV
    go_upto_region 3 with fail
    rw [← HW2.out, ← HB8.out]
    go_wp2_with fail
    clear HW2
    refine (quotientBegun_any _).mono ?_
    rintro e w4 ⟨rfl, hb4⟩
    have HBW5 : Hid (Below w.heap.size w w4) := Below.then HBW3.out hb4
    obtain ⟨m0, m1, m2⟩ := HL53.out.step hb4
    obtain ⟨⟨z0, z1, z2⟩, _, _, _⟩ := HZ8.out.step hb4
    clear hb4 HBW3 HL53 HZ8 k0 k1 k2
    go_wp2_with fail
    refine (latticeIs_err c 0 none none 0 0 0 0 w4 h0).mono ?_
    rintro e w5 ⟨rfl, hb5⟩
    have HBW6 : Hid (Below w.heap.size w w5) := Below.then HBW5.out hb5
    clear hb5
    go_wp2_with fail
    go_ret
    exact ⟨rfl, HBW6.out⟩
end Go.Proofs.Ytappekjkcgmheaa
