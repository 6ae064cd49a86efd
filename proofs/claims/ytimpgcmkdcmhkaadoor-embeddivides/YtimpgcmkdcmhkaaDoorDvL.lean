/-
  For whatever it is handed, hasselaw.EmbedDivides returns true, and writes nothing that was there. Condition: the table of the least bits.
-/
import Derived.Test.YtimpgcmkdcmhkaaDoorEBeg
import Derived.Test.YtimpgcmkdcmhkaaDoorRefI
namespace Go.Proofs.YtimpgcmkdcmhkaaDoor
set_option maxRecDepth 100000
open Go.RowKit

set_option maxHeartbeats 4000000 in
theorem embedDivides_any (a : Option Addr) (la ca : Nat) (fa : Nat → Int) (b : Option Addr) (lb cb : Nat) (fb : Nat → Int) (w : World) (hla : la ≤ maxLen) (hlb : lb ≤ maxLen) (ha : Row w a la fa) (hb : Row w b lb fb) (hT : Tab w) :
    Calls Tryd.prog 7 #[.slice a la ca, .slice b lb cb] w fun e w' => e = .returned (.bool true) ∧ Below w.heap.size w w' := by
  have HA : Hid (Row w a la fa) := ha
  have HBB : Hid (Row w b lb fb) := hb
  have HT : Hid (Tab w) := hT
  clear ha hb hT
  go_enter Tryd.func7, Tryd.ntmps7
  go_wp2_with fail
  refine (dividesX_any a la ca fa b lb cb fb _ hla HA.out hlb HBB.out).mono ?_
  rintro e w1 ⟨⟨c, v, rfl, hc, hv⟩, hb1⟩
  have HB1 : Hid (Below w.heap.size w w1) := hb1
  have HC : Hid (NC2 la fa lb fb c) := hc
  have HV : Hid ((c ≠ 0 ∧ v = false) ∨ (c = 0 ∧ v = divB la fa fb)) := hv
  clear hb1 hc hv
  have HR := (show Hid (RR _ _ _ _ _) from rr2 (k0 := ca) (k1 := cb) hla hlb (HA.out.below HB1.out) (HBB.out.below HB1.out))
  have HBn : Hid (Below w1.heap.size w1 (w1.alloc (.cells #[.slice a la ca, .slice b lb cb] 22))) := bel_one _ _
  go_wp2_with fail
  refine (refNumbers_any _ 2 2 _ _ _ (by unfold maxLen; omega) HR.out).mono ?_
  rintro e w2 ⟨⟨c', rfl, hc⟩, hb2⟩
  obtain rfl : c = c' := HC.out.one hc.two
  have HB2 : Hid (Below w.heap.size w w2) := Below.then HB1.out (Below.then HBn.out hb2)
  clear hc hb2 HBn HR HB1
  go_wp2_with fail
  refine (embedBegun_any w2 (HT.out.step HB2.out)).mono ?_
  rintro e w3 ⟨rfl, hb3⟩
  have HB3 : Hid (Below w.heap.size w w3) := Below.then HB2.out hb3
  clear hb3 HB2
  by_cases h0 : c = 0
  · subst h0
    obtain ⟨hla2, rfl⟩ := HC.out.good
    obtain rfl : v = divB lb fa fb := by
      rcases HV.out with ⟨h, _⟩ | ⟨_, h⟩
      · exact absurd rfl h
      · exact h
    go_wp2_with fail
    refine (refDivides_any a lb ca fa b cb fb w3 hla2 (HA.out.below HB3.out) (HBB.out.below HB3.out)).mono ?_
    rintro e w4 ⟨rfl, hb4⟩
    have HB5 : Hid (Below w.heap.size w w4) := Below.then HB3.out hb4
    clear hb4
    go_wp2_with fail
    refine (truthIs_any 0 _ _ _ (.inr ⟨rfl, rfl⟩)).mono ?_
    rintro e w' ⟨rfl, hw⟩
    subst hw
    go_wp2_with fail
    go_ret
    exact ⟨rfl, HB5.out⟩
  · have hne : (c == 0) = false := by simpa using h0
    obtain rfl : v = false := by
      rcases HV.out with ⟨_, h⟩ | ⟨h, _⟩
      · exact h
      · exact absurd h h0
    have H0 : Hid (c ≠ 0) := h0
    clear h0
    go_wp2_with fail
    refine (truthIs_any c false false _ (.inl ⟨H0.out, rfl⟩)).mono ?_
    rintro e w' ⟨rfl, hw⟩
    subst hw
    go_wp2_with fail
    go_ret
    exact ⟨rfl, HB3.out⟩
end Go.Proofs.YtimpgcmkdcmhkaaDoor
