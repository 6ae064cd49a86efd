/-
  What hasselaw.LatticePentagon answer: true. Conditions: the library's table lies in its variable; slices read as slices of rows.
-/
import Derived.Test.YtjcinkippaknnaaDoorRefLat
import Derived.Test.YtjcinkippaknnaaDoorRefTri
import Derived.Test.YtjcinkippaknnaaDoorTruth
namespace Go.Proofs.YtjcinkippaknnaaDoor
open Go.RowKit


set_option maxHeartbeats 4000000 in
theorem latticePentagon_any (n : Int) (a : Option Addr) (la ca : Nat) (SA : Nat → Option Addr × Nat × Nat) (FA : Nat → Nat → Int) (b : Option Addr) (lb cb : Nat) (SB : Nat → Option Addr × Nat × Nat) (FB : Nat → Nat → Int) (w : World) (hla : la ≤ maxLen) (hlb : lb ≤ maxLen) (hra : RR w a la SA FA) (hrb : RR w b lb SB FB) (hT : Tab w) :
    Calls Tryd.prog 8 #[.agg #[.int .i64 n, .slice a la ca, .slice b lb cb]] w fun e w' => e = .returned (.bool true) ∧ Below w.heap.size w w' := by
  have B1 : Below w.heap.size w (w.alloc (.cells #[.int .i64 n, .slice a la ca, .slice b lb cb] 24)) := (Below.refl _ _).alloc (Nat.le_refl _) _
  have L0 := LB.new w n a la ca b lb cb
  have HRA : Hid (RR w a la SA FA) := hra
  have HRB : Hid (RR w b lb SB FB) := hrb
  have HT : Hid (Tab w) := hT
  have HB0 : Hid (Below w.heap.size w (w.alloc (.cells #[.int .i64 n, .slice a la ca, .slice b lb cb] 24))) := B1
  clear hra hrb B1 hT
  go_enter Tryd.func8, Tryd.ntmps8
  go_wp2_with fail
  refine (pent_any n a la ca SA FA b lb cb SB FB _ hla hlb (HRA.out.below HB0.out) (HRB.out.below HB0.out)).mono ?_
  rintro e w1 ⟨⟨c, v1, l, ok, hc, rfl, hva⟩, hb1⟩
  have L1 := L0.step hb1
  have HB1 : Hid (Below w.heap.size w w1) := Below.then HB0.out hb1
  have m10 := L1.1
  have m11 := L1.2.1
  have m12 := L1.2.2
  clear hb1 HB0 L0
  have HVA := (show Hid _ from hva)
  clear hva
  go_wp2_with fail
  refine (checkLattice_any n a la ca SA FA b lb cb SB FB _ hla hlb (HRA.out.below HB1.out) (HRB.out.below HB1.out)).mono ?_
  rintro e w2 ⟨⟨c', rfl, hc'⟩, hb2⟩
  have L2 := L1.step hb2
  have HB2 : Hid (Below w.heap.size w w2) := Below.then HB1.out hb2
  have HB12 : Hid (Below w1.heap.size w1 w2) := hb2
  have m20 := L2.1
  have m21 := L2.2.1
  have m29 := L2.2.2
  clear hb2 HB1 L1 m10 m11 m12
  obtain rfl := LCk.one hc' hc
  clear hc'
  by_cases h0 : c' = 0
  · subst h0
    obtain ⟨q, rfl, h1, h40, e1, e2, hs1, hs2, hg1, hg2, hlat⟩ := hc.good
    obtain rfl := e1.symm
    obtain rfl := e2.symm
    obtain ⟨b1, o1, rfl, ht1, _⟩ := (HRA.out.below HB2.out).tb h1 hs1 hg1
    obtain ⟨b2, o2, rfl, ht2, _⟩ := (HRB.out.below HB2.out).tb h1 hs2 hg2
    have HT1 : Hid (Tb w2 b1 o1 q (fun x => rAt (SA x)) (nat2 FA)) := ht1
    have HT2 : Hid (Tb w2 b2 o2 q (fun x => rAt (SB x)) (nat2 FB)) := ht2
    have HI1 : Hid (Inn q (nat2 FA)) := hlat.im
    have HI2 : Hid (Inn q (nat2 FB)) := hlat.ij
    have hva : First3 q (penB (nat2 FA) (nat2 FB)) l ok ∧ NSl w1 v1 l := by
      rcases HVA.out with ⟨k, _⟩ | ⟨_, h⟩
      · exact absurd rfl k
      · exact h
    have HV : Hid (First3 q (penB (nat2 FA) (nat2 FB)) l ok) := hva.1
    have HN1 : Hid (NSl w2 v1 l) := hva.2.below HB12.out
    clear ht1 ht2 hs1 hs2 hg1 hg2 hlat hva HVA hc
    go_wp2_with fail
    refine (refPentagonOf_any q b1 o1 ca b2 o2 cb _ _ (nat2 FA) (nat2 FB) _ h40 HI1.out HI2.out HT1.out HT2.out).mono ?_
    rintro e w3 ⟨⟨v3, l3, ok3, rfl, hf3, hn3⟩, hb3⟩
    obtain ⟨rfl, rfl⟩ := First3.one hf3 HV.out
    have HB3 : Hid (Below w.heap.size w w3) := Below.then HB2.out hb3
    have HN3 : Hid (NSl w3 v1 l3) := HN1.out.below hb3
    have HN4 : Hid (NSl w3 v3 l3) := hn3
    have hlen : l3.length ≤ maxLen := by have := hf3.len.1; unfold maxLen; omega
    clear hb3 hf3 hn3 HV m20 m21 m29 L2 HN1
    go_wp2_with fail
    refine (latticeBegun_any _ (HT.out.step HB3.out)).mono ?_
    rintro e w4 ⟨rfl, hb4⟩
    have HB4 : Hid (Below w.heap.size w w4) := Below.then HB3.out hb4
    have HN5 : Hid (NSl w4 v1 l3) := HN3.out.below hb4
    have HN6 : Hid (NSl w4 v3 l3) := HN4.out.below hb4
    clear hb4 HN3 HN4
    go_wp2_with fail
    refine (numbersAre_any 0 l3 v1 v3 _ hlen (.inr ⟨rfl, HN5.out, HN6.out⟩)).mono ?_
    rintro e w5 ⟨rfl, hb5⟩
    have HB5 : Hid (Below w.heap.size w w5) := Below.then HB4.out hb5
    clear hb5 HN5 HN6
    rcases ok3 with _ | _
    · go_wp2_with fail
      go_ret
      exact ⟨rfl, HB5.out⟩
    · go_wp2_with fail
      go_ret
      exact ⟨rfl, HB5.out⟩
  · have hne : (c' == 0) = false := by simpa using h0
    obtain ⟨rfl, rfl⟩ : ok = false ∧ v1 = .slice none 0 0 := by
      rcases HVA.out with ⟨_, h⟩ | ⟨k, _⟩
      · exact h
      · exact absurd k h0
    clear HVA hc m20 m21 m29 L2 HB12
    go_wp2_with fail
    refine (latticeBegun_any _ (HT.out.step HB2.out)).mono ?_
    rintro e w4 ⟨rfl, hb4⟩
    have HB4 : Hid (Below w.heap.size w w4) := Below.then HB2.out hb4
    clear hb4
    go_wp2_with fail
    refine (numbersAre_any c' [] _ _ _ (by unfold maxLen; simp) (.inl ⟨h0, rfl, rfl⟩)).mono ?_
    rintro e w5 ⟨rfl, hb5⟩
    have HB5 : Hid (Below w.heap.size w w5) := Below.then HB4.out hb5
    clear hb5
    go_wp2_with fail
    go_ret
    exact ⟨rfl, HB5.out⟩
end Go.Proofs.YtjcinkippaknnaaDoor
