/-
  For whatever it is handed, hasselaw.EmbedInto returns true, and writes nothing that was there. Condition: the table of the least bits.
-/
import Derived.Test.YtimpgcmkdcmhkaaDoorEBeg
import Derived.Test.YtimpgcmkdcmhkaaDoorRefI
namespace Go.Proofs.YtimpgcmkdcmhkaaDoor
set_option maxRecDepth 100000
open Go.RowKit

set_option maxHeartbeats 4000000 in
theorem embedInto_any (n : Int) (ao : Option Addr) (len co : Nat) (f : Nat → Int) (a : Option Addr) (la ca : Nat) (fa : Nat → Int) (b : Option Addr) (lb cb : Nat) (fb : Nat → Int) (w : World) (hl : len ≤ maxLen) (hla : la ≤ maxLen) (hlb : lb ≤ maxLen) (ho : Row w ao len f) (ha : Row w a la fa) (hb : Row w b lb fb) (hT : Tab w) :
    Calls Tryd.prog 3 #[.agg #[.int .i64 n, .slice ao len co], .slice a la ca, .slice b lb cb] w fun e w' => e = .returned (.bool true) ∧ Below w.heap.size w w' := by
  have HB0 : Hid (Below w.heap.size w (w.alloc (.cells #[.int .i64 n, .slice ao len co] 24))) := bel_one w _
  have K0 : Hid (Held (w.alloc (.cells #[.int .i64 n, .slice ao len co] 24)) w.heap.size n ao len co f) := Held.box ho
  have HA : Hid (Row w a la fa) := ha
  have HBB : Hid (Row w b lb fb) := hb
  have HT : Hid (Tab w) := hT
  clear ho ha hb hT
  have k0 := K0.out.c0
  have k1 := K0.out.c1
  go_enter Tryd.func3, Tryd.ntmps3
  go_wp2_with fail
  refine (into_any n ao len co f a la ca fa b lb cb fb _ hl K0.out.row hla (HA.out.below HB0.out) hlb (HBB.out.below HB0.out)).mono ?_
  rintro e w1 ⟨⟨c, v, rfl, hc, hv⟩, hb1⟩
  have HB1 : Hid (Below w.heap.size w w1) := Below.then HB0.out hb1
  have K1 : Hid (Held w1 w.heap.size n ao len co f) := K0.out.step hb1
  have HC : Hid (WC2 n len f la fa lb fb c) := hc
  have HV : Hid ((c ≠ 0 ∧ v = false) ∨ (c = 0 ∧ v = goesB (nat f) la (nat fa) lb (nat fb))) := hv
  clear hb1 hc hv HB0 K0 k0 k1
  have k0 := K1.out.c0
  have k1 := K1.out.c1
  have HR := (show Hid (RR _ _ _ _ _) from rr2 (k0 := ca) (k1 := cb) hla hlb (HA.out.below HB1.out) (HBB.out.below HB1.out))
  have HBn : Hid (Below w1.heap.size w1 (w1.alloc (.cells #[.slice a la ca, .slice b lb cb] 22))) := bel_one _ _
  go_wp2_with fail
  refine (refWords_any n ao len co f _ 2 2 _ _ _ hl (K1.out.step HBn.out).row (by unfold maxLen; omega) HR.out).mono ?_
  rintro e w2 ⟨⟨c', rfl, hc⟩, hb2⟩
  obtain rfl : c = c' := HC.out.one hc.two
  have HB2 : Hid (Below w.heap.size w w2) := Below.then HB1.out (Below.then HBn.out hb2)
  have K2 : Hid (Held w2 w.heap.size n ao len co f) := K1.out.step (Below.then HBn.out hb2)
  clear hc hb2 HBn HR HB1 K1 k0 k1
  go_wp2_with fail
  refine (embedBegun_any w2 (HT.out.step HB2.out)).mono ?_
  rintro e w3 ⟨rfl, hb3⟩
  have HB3 : Hid (Below w.heap.size w w3) := Below.then HB2.out hb3
  have K3 : Hid (Held w3 w.heap.size n ao len co f) := K2.out.step hb3
  clear hb3 K2 HB2
  have k0 := K3.out.c0
  have k1 := K3.out.c1
  by_cases h0 : c = 0
  · subst h0
    obtain ⟨hck, hla2, hlb2, hfa, hfb⟩ := HC.out.good
    obtain ⟨rfl, h10, hrng, _⟩ := hck.good
    obtain rfl : v = goesB (nat f) la (nat fa) lb (nat fb) := by
      rcases HV.out with ⟨h, _⟩ | ⟨_, h⟩
      · exact absurd rfl h
      · exact h
    have HRo : Hid (Row w3 ao len (fun k => ((nat f k : Nat) : Int))) := hrng.row K3.out.row
    have HG : Hid (∀ k, k < len → nat f k < 1024) := hrng.small2 h10
    have HA3 : Hid (Row w3 a la (fun k => ((nat fa k : Nat) : Int))) := row_nat (HA.out.below HB3.out) (fun k hk => (hfa k hk).1)
    have HB4 : Hid (Row w3 b lb (fun k => ((nat fb k : Nat) : Int))) := row_nat (HBB.out.below HB3.out) (fun k hk => (hfb k hk).1)
    have HFA : Hid (∀ i, i < la → nat fa i < len) := fun i hi => by have := hfa i hi; unfold nat; omega
    have HFB : Hid (∀ i, i < lb → nat fb i < len) := fun i hi => by have := hfb i hi; unfold nat; omega
    clear hck hrng hfa hfb
    go_wp2_with fail
    refine (refGoes_any len ao len co (nat f) a la ca (nat fa) b lb cb (nat fb) w3 h10 HG.out HRo.out HA3.out HB4.out hla2 hlb2 HFA.out HFB.out).mono ?_
    rintro e w4 ⟨rfl, hb4⟩
    have HB5 : Hid (Below w.heap.size w w4) := Below.then HB3.out hb4
    clear hb4 k0 k1
    go_wp2_with fail
    refine (truthIs_any 0 _ _ _ (.inr ⟨rfl, rfl⟩)).mono ?_
    rintro e w' ⟨rfl, hw⟩
    subst hw
    go_wp2_with fail
    go_ret
    exact ⟨rfl, HB5.out⟩
  · have hne : (c == 0) = false := by simpa using h0
    obtain rfl : v = false := by
      rcases HV.out with ⟨_, h⟩ | ⟨h, _⟩
      · exact h
      · exact absurd h h0
    have H0 : Hid (c ≠ 0) := h0
    clear h0
    go_wp2_with fail
    refine (truthIs_any c false false _ (.inl ⟨H0.out, rfl⟩)).mono ?_
    rintro e w' ⟨rfl, hw⟩
    subst hw
    go_wp2_with fail
    go_ret
    exact ⟨rfl, HB3.out⟩
end Go.Proofs.YtimpgcmkdcmhkaaDoor
