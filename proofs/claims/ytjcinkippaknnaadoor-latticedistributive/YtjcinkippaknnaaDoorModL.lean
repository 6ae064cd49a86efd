/-
  What hasselaw.LatticeModular and hasselaw.LatticeDistributive answer: true. Conditions: the library's table lies in its variable; slices read as slices of rows.
-/
import Derived.Test.YtjcinkippaknnaaDoorRefLat
import Derived.Test.YtjcinkippaknnaaDoorRefTri
import Derived.Test.YtjcinkippaknnaaDoorTruth
namespace Go.Proofs.YtjcinkippaknnaaDoor
open Go.RowKit


set_option maxHeartbeats 4000000 in
theorem latticeModular_any (n : Int) (a : Option Addr) (la ca : Nat) (SA : Nat → Option Addr × Nat × Nat) (FA : Nat → Nat → Int) (b : Option Addr) (lb cb : Nat) (SB : Nat → Option Addr × Nat × Nat) (FB : Nat → Nat → Int) (w : World) (hla : la ≤ maxLen) (hlb : lb ≤ maxLen) (hra : RR w a la SA FA) (hrb : RR w b lb SB FB) (hT : Tab w) :
    Calls Tryd.prog 6 #[.agg #[.int .i64 n, .slice a la ca, .slice b lb cb]] w fun e w' => e = .returned (.bool true) ∧ Below w.heap.size w w' := by
  have B1 : Below w.heap.size w (w.alloc (.cells #[.int .i64 n, .slice a la ca, .slice b lb cb] 24)) := (Below.refl _ _).alloc (Nat.le_refl _) _
  have L0 := LB.new w n a la ca b lb cb
  have HRA : Hid (RR w a la SA FA) := hra
  have HRB : Hid (RR w b lb SB FB) := hrb
  have HT : Hid (Tab w) := hT
  have HB0 : Hid (Below w.heap.size w (w.alloc (.cells #[.int .i64 n, .slice a la ca, .slice b lb cb] 24))) := B1
  clear hra hrb B1 hT
  go_enter Tryd.func6, Tryd.ntmps6
  go_wp2_with fail
  refine (modular_any n a la ca SA FA b lb cb SB FB _ hla hlb (HRA.out.below HB0.out) (HRB.out.below HB0.out)).mono ?_
  rintro e w1 ⟨⟨c, va, hc, rfl, hva⟩, hb1⟩
  have L1 := L0.step hb1
  have HB1 : Hid (Below w.heap.size w w1) := Below.then HB0.out hb1
  have m10 := L1.1
  have m11 := L1.2.1
  have m12 := L1.2.2
  clear hb1 HB0 L0
  have HVA := (show Hid _ from hva)
  clear hva
  go_wp2_with fail
  refine (checkLattice_any n a la ca SA FA b lb cb SB FB _ hla hlb (HRA.out.below HB1.out) (HRB.out.below HB1.out)).mono ?_
  rintro e w2 ⟨⟨c', rfl, hc'⟩, hb2⟩
  have L2 := L1.step hb2
  have HB2 : Hid (Below w.heap.size w w2) := Below.then HB1.out hb2
  have m20 := L2.1
  have m21 := L2.2.1
  have m29 := L2.2.2
  clear hb2 HB1 L1 m10 m11 m12
  obtain rfl := LCk.one hc' hc
  clear hc'
  go_wp2_with fail
  refine (latticeBegun_any _ (HT.out.step HB2.out)).mono ?_
  rintro e w3 ⟨rfl, hb3⟩
  have L3 := L2.step hb3
  have HB3 : Hid (Below w.heap.size w w3) := Below.then HB2.out hb3
  have m30 := L3.1
  have m31 := L3.2.1
  have m32 := L3.2.2
  clear hb3 HB2 L2 m20 m21 m29
  by_cases h0 : c' = 0
  · subst h0
    obtain ⟨q, rfl, h1, h40, e1, e2, hs1, hs2, hg1, hg2, hlat⟩ := hc.good
    obtain rfl := e1.symm
    obtain rfl := e2.symm
    obtain ⟨b1, o1, rfl, ht1, _⟩ := (HRA.out.below HB3.out).tb h1 hs1 hg1
    obtain ⟨b2, o2, rfl, ht2, _⟩ := (HRB.out.below HB3.out).tb h1 hs2 hg2
    have HT1 : Hid (Tb w3 b1 o1 q (fun x => rAt (SA x)) (nat2 FA)) := ht1
    have HT2 : Hid (Tb w3 b2 o2 q (fun x => rAt (SB x)) (nat2 FB)) := ht2
    have HI1 : Hid (Inn q (nat2 FA)) := hlat.im
    have HI2 : Hid (Inn q (nat2 FB)) := hlat.ij
    have hva : va = true ↔ All3 q (modB (nat2 FA) (nat2 FB)) := by
      rcases HVA.out with ⟨k, _⟩ | ⟨_, h⟩
      · exact absurd rfl k
      · exact h
    have HV : Hid (va = true ↔ All3 q (modB (nat2 FA) (nat2 FB))) := hva
    clear ht1 ht2 hs1 hs2 hg1 hg2 hlat hva HVA hc
    go_wp2_with fail
    refine (refIsModular_any q b1 o1 ca b2 o2 cb _ _ (nat2 FA) (nat2 FB) _ h40 HI1.out HI2.out HT1.out HT2.out).mono ?_
    rintro e w4 ⟨⟨v4, rfl, hv4⟩, hb4⟩
    obtain rfl := bool_iff hv4 HV.out
    have HB4 : Hid (Below w.heap.size w w4) := Below.then HB3.out hb4
    clear hb4 hv4 HV m30 m31 m32 L3
    go_wp2_with fail
    refine (truthIs_any 0 v4 v4 _ (.inr ⟨rfl, rfl⟩)).mono ?_
    rintro e w5 ⟨rfl, rfl⟩
    go_wp2_with fail
    go_ret
    exact ⟨rfl, HB4.out⟩
  · have hne : (c' == 0) = false := by simpa using h0
    have HV : Hid (va = false) := by
      rcases HVA.out with ⟨_, h⟩ | ⟨k, _⟩
      · exact h
      · exact absurd k h0
    clear HVA hc m30 m31 m32 L3
    go_wp2_with fail
    refine (truthIs_any c' va false _ (.inl ⟨h0, HV.out⟩)).mono ?_
    rintro e w5 ⟨rfl, rfl⟩
    go_wp2_with fail
    go_ret
    exact ⟨rfl, HB3.out⟩

set_option maxHeartbeats 4000000 in
theorem latticeDistributive_any (n : Int) (a : Option Addr) (la ca : Nat) (SA : Nat → Option Addr × Nat × Nat) (FA : Nat → Nat → Int) (b : Option Addr) (lb cb : Nat) (SB : Nat → Option Addr × Nat × Nat) (FB : Nat → Nat → Int) (w : World) (hla : la ≤ maxLen) (hlb : lb ≤ maxLen) (hra : RR w a la SA FA) (hrb : RR w b lb SB FB) (hT : Tab w) :
    Calls Tryd.prog 7 #[.agg #[.int .i64 n, .slice a la ca, .slice b lb cb]] w fun e w' => e = .returned (.bool true) ∧ Below w.heap.size w w' := by
  have B1 : Below w.heap.size w (w.alloc (.cells #[.int .i64 n, .slice a la ca, .slice b lb cb] 24)) := (Below.refl _ _).alloc (Nat.le_refl _) _
  have L0 := LB.new w n a la ca b lb cb
  have HRA : Hid (RR w a la SA FA) := hra
  have HRB : Hid (RR w b lb SB FB) := hrb
  have HT : Hid (Tab w) := hT
  have HB0 : Hid (Below w.heap.size w (w.alloc (.cells #[.int .i64 n, .slice a la ca, .slice b lb cb] 24))) := B1
  clear hra hrb B1 hT
  go_enter Tryd.func7, Tryd.ntmps7
  go_wp2_with fail
  refine (distr_any n a la ca SA FA b lb cb SB FB _ hla hlb (HRA.out.below HB0.out) (HRB.out.below HB0.out)).mono ?_
  rintro e w1 ⟨⟨c, va, hc, rfl, hva⟩, hb1⟩
  have L1 := L0.step hb1
  have HB1 : Hid (Below w.heap.size w w1) := Below.then HB0.out hb1
  have m10 := L1.1
  have m11 := L1.2.1
  have m12 := L1.2.2
  clear hb1 HB0 L0
  have HVA := (show Hid _ from hva)
  clear hva
  go_wp2_with fail
  refine (checkLattice_any n a la ca SA FA b lb cb SB FB _ hla hlb (HRA.out.below HB1.out) (HRB.out.below HB1.out)).mono ?_
  rintro e w2 ⟨⟨c', rfl, hc'⟩, hb2⟩
  have L2 := L1.step hb2
  have HB2 : Hid (Below w.heap.size w w2) := Below.then HB1.out hb2
  have m20 := L2.1
  have m21 := L2.2.1
  have m29 := L2.2.2
  clear hb2 HB1 L1 m10 m11 m12
  obtain rfl := LCk.one hc' hc
  clear hc'
  go_wp2_with fail
  refine (latticeBegun_any _ (HT.out.step HB2.out)).mono ?_
  rintro e w3 ⟨rfl, hb3⟩
  have L3 := L2.step hb3
  have HB3 : Hid (Below w.heap.size w w3) := Below.then HB2.out hb3
  have m30 := L3.1
  have m31 := L3.2.1
  have m32 := L3.2.2
  clear hb3 HB2 L2 m20 m21 m29
  by_cases h0 : c' = 0
  · subst h0
    obtain ⟨q, rfl, h1, h40, e1, e2, hs1, hs2, hg1, hg2, hlat⟩ := hc.good
    obtain rfl := e1.symm
    obtain rfl := e2.symm
    obtain ⟨b1, o1, rfl, ht1, _⟩ := (HRA.out.below HB3.out).tb h1 hs1 hg1
    obtain ⟨b2, o2, rfl, ht2, _⟩ := (HRB.out.below HB3.out).tb h1 hs2 hg2
    have HT1 : Hid (Tb w3 b1 o1 q (fun x => rAt (SA x)) (nat2 FA)) := ht1
    have HT2 : Hid (Tb w3 b2 o2 q (fun x => rAt (SB x)) (nat2 FB)) := ht2
    have HI1 : Hid (Inn q (nat2 FA)) := hlat.im
    have HI2 : Hid (Inn q (nat2 FB)) := hlat.ij
    have hva : va = true ↔ All3 q (disB (nat2 FA) (nat2 FB)) := by
      rcases HVA.out with ⟨k, _⟩ | ⟨_, h⟩
      · exact absurd rfl k
      · exact h
    have HV : Hid (va = true ↔ All3 q (disB (nat2 FA) (nat2 FB))) := hva
    clear ht1 ht2 hs1 hs2 hg1 hg2 hlat hva HVA hc
    go_wp2_with fail
    refine (refIsDistributive_any q b1 o1 ca b2 o2 cb _ _ (nat2 FA) (nat2 FB) _ h40 HI1.out HI2.out HT1.out HT2.out).mono ?_
    rintro e w4 ⟨⟨v4, rfl, hv4⟩, hb4⟩
    obtain rfl := bool_iff hv4 HV.out
    have HB4 : Hid (Below w.heap.size w w4) := Below.then HB3.out hb4
    clear hb4 hv4 HV m30 m31 m32 L3
    go_wp2_with fail
    refine (truthIs_any 0 v4 v4 _ (.inr ⟨rfl, rfl⟩)).mono ?_
    rintro e w5 ⟨rfl, rfl⟩
    go_wp2_with fail
    go_ret
    exact ⟨rfl, HB4.out⟩
  · have hne : (c' == 0) = false := by simpa using h0
    have HV : Hid (va = false) := by
      rcases HVA.out with ⟨_, h⟩ | ⟨k, _⟩
      · exact h
      · exact absurd k h0
    clear HVA hc m30 m31 m32 L3
    go_wp2_with fail
    refine (truthIs_any c' va false _ (.inl ⟨h0, HV.out⟩)).mono ?_
    rintro e w5 ⟨rfl, rfl⟩
    go_wp2_with fail
    go_ret
    exact ⟨rfl, HB3.out⟩
end Go.Proofs.YtjcinkippaknnaaDoor
