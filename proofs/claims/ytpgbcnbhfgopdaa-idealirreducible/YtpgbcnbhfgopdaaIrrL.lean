/-
  hasselaw.IdealIrreducible and IdealSets return true for every lattice and number. No condition but that slices read as slices of rows.
-/
import Derived.Test.YtpgbcnbhfgopdaaIBegun
import Derived.Test.YtpgbcnbhfgopdaaRefPS
import Derived.Test.YtpgbcnbhfgopdaaRefLat
namespace Go.Proofs.Ytpgbcnbhfgopdaa
open Go.RowKit

set_option maxHeartbeats 4000000 in
theorem idealIrreducible_any (n : Int) (a : Option Addr) (la ca : Nat) (SA : Nat → Option Addr × Nat × Nat) (FA : Nat → Nat → Int) (b : Option Addr) (lb cb : Nat) (SB : Nat → Option Addr × Nat × Nat) (FB : Nat → Nat → Int) (w : World) (hla : la ≤ maxLen) (hlb : lb ≤ maxLen) (hra : RR w a la SA FA) (hrb : RR w b lb SB FB) :
    Calls Try.prog 4 #[.agg #[.int .i64 n, .slice a la ca, .slice b lb cb]] w fun e w' => e = .returned (.bool true) ∧ Below w.heap.size w w' := by
  have B1 : Below w.heap.size w (w.alloc (.cells #[.int .i64 n, .slice a la ca, .slice b lb cb] 27)) := (Below.refl _ _).alloc (Nat.le_refl _) _
  have L0 := LB.new w n a la ca b lb cb
  have HB1 : Hid (Below w.heap.size w (w.alloc (.cells #[.int .i64 n, .slice a la ca, .slice b lb cb] 27))) := B1
  have hRA := hra.below HB1.out
  have hRB := hrb.below HB1.out
  clear hra hrb B1
  have l0 := L0.1
  have l1 := L0.2.1
  have l2 := L0.2.2
  go_enter Try.func4, Try.ntmps4
  go_wp2_with fail
  refine (irr_any n a la ca SA FA b lb cb SB FB _ hla hlb hRA hRB).mono ?_
  rintro e w1 ⟨⟨c, v, hc, rfl, hv⟩, hb1⟩
  have HB2 : Hid (Below w.heap.size w w1) := Below.then HB1.out hb1
  have L1 := L0.step hb1
  have k0 := L1.1
  have k1 := L1.2.1
  have k2 := L1.2.2
  have hRA1 := hRA.below hb1
  have hRB1 := hRB.below hb1
  clear hRA hRB HB1 l0 l1 l2 L0 hb1
  rcases hv with ⟨h0, rfl⟩ | ⟨rfl, hv⟩
  · have hne2 : (c == 0) = false := by simpa using h0
    go_wp2_with fail
    refine (checkLattice_any n a la ca SA FA b lb cb SB FB _ hla hlb hRA1 hRB1).mono ?_
    rintro e w2 ⟨⟨c', rfl, hc'⟩, hb2⟩
    obtain rfl := LCk.one hc' hc
    have HB3 : Hid (Below w.heap.size w w2) := Below.then HB2.out hb2
    clear hb2 HB2 k0 k1 k2 L1 hRA1 hRB1 hc hc'
    go_wp2_with fail
    refine (idealBegun_any _).mono ?_
    rintro e w3 ⟨rfl, hb3⟩
    have HB4 : Hid (Below w.heap.size w w3) := Below.then HB3.out hb3
    clear hb3 HB3
    go_wp2_with fail
    refine (numbersAre_any c' [] _ _ _ (by unfold maxLen; simp) (.inl ⟨h0, rfl, rfl⟩)).mono ?_
    rintro e w4 ⟨rfl, hb4⟩
    have HB5 : Hid (Below w.heap.size w w4) := Below.then HB4.out hb4
    clear hb4 HB4
    go_wp2_with fail
    go_ret
    exact ⟨rfl, HB5.out⟩
  · obtain ⟨q, rfl, h1, h40, e1, e2, hs1, hs2, hg1, hg2, hlat⟩ := hc.good
    obtain rfl := e1.symm
    obtain rfl := e2.symm
    have HV : Hid (NSl w1 v (irrs (nat2 FA) (nat2 FB) q)) := hv
    clear hv
    go_wp2_with fail
    refine (checkLattice_any q a q ca SA FA b q cb SB FB _ hla hlb hRA1 hRB1).mono ?_
    rintro e w2 ⟨⟨c', rfl, hc'⟩, hb2⟩
    obtain rfl := LCk.one hc' hc
    obtain ⟨b1, o1, rfl, ht1, _⟩ := (hRA1.below hb2).tb h1 hs1 hg1
    have HT : Hid (Tb w2 b1 o1 q (fun x => rAt (SA x)) (nat2 FA)) := ht1
    have HB3 : Hid (Below w.heap.size w w2) := Below.then HB2.out hb2
    have HV2 : Hid (NSl w2 v (irrs (nat2 FA) (nat2 FB) q)) := HV.out.below hb2
    have L2 := L1.step hb2
    have m0 := L2.1
    have m1 := L2.2.1
    have m2 := L2.2.2
    have HIR : Hid (filt (fun x => cntB (fun y => covB (nat2 FA) x y q) q == 1) q = irrs (nat2 FA) (nat2 FB) q) := irrs_ref hlat h1
    clear hb2 HB2 k0 k1 k2 L1 hRA1 hRB1 hc hc' ht1 HV hs1 hs2 hg1 hg2 hlat
    go_wp2_with fail
    refine (irrOf_any q b1 o1 ca b q cb _ (nat2 FA) _ h40 HT.out).mono ?_
    rintro e w3 ⟨⟨v3, rfl, hv3⟩, hb3⟩
    rw [HIR.out] at hv3
    have HB4 : Hid (Below w.heap.size w w3) := Below.then HB3.out hb3
    have HV3 : Hid (NSl w3 v (irrs (nat2 FA) (nat2 FB) q)) := HV2.out.below hb3
    have HU3 : Hid (NSl w3 v3 (irrs (nat2 FA) (nat2 FB) q)) := hv3
    have HLL : Hid ((irrs (nat2 FA) (nat2 FB) q).length ≤ maxLen) := Nat.le_trans (filt_len _ _) (by unfold maxLen; omega)
    clear hb3 HB3 L2 m0 m1 m2 hv3 HV2 HT
    go_wp2_with fail
    refine (idealBegun_any _).mono ?_
    rintro e w4 ⟨rfl, hb4⟩
    have HB5 : Hid (Below w.heap.size w w4) := Below.then HB4.out hb4
    have HV4 : Hid (NSl w4 v (irrs (nat2 FA) (nat2 FB) q)) := HV3.out.below hb4
    have HU4 : Hid (NSl w4 v3 (irrs (nat2 FA) (nat2 FB) q)) := HU3.out.below hb4
    clear hb4 HB4 HV3 HU3
    go_wp2_with fail
    refine (numbersAre_any 0 (irrs (nat2 FA) (nat2 FB) q) _ _ _ HLL.out (.inr ⟨rfl, HV4.out, HU4.out⟩)).mono ?_
    rintro e w5 ⟨rfl, hb5⟩
    have HB6 : Hid (Below w.heap.size w w5) := Below.then HB5.out hb5
    clear hb5 HB5 HV4 HU4
    go_wp2_with fail
    go_ret
    exact ⟨rfl, HB6.out⟩
end Go.Proofs.Ytpgbcnbhfgopdaa
