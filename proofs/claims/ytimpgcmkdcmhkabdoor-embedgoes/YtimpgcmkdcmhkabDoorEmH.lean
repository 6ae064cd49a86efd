/-
  What embed.Lighter answers, whatever it is handed. No condition but that slices read as slices of numbers, and the table of the least bits.
-/
import Derived.Test.YtimpgcmkdcmhkabDoorEmL
namespace Go.Proofs.YtimpgcmkdcmhkabDoor
set_option maxRecDepth 100000
open Go.RowKit

def LightPost (n : Int) (len : Nat) (f : Nat → Int) (la : Nat) (fa : Nat → Int) (lb : Nat) (fb : Nat → Int) (e : Ending) : Prop :=
  ∃ c v, e = .returned (.tuple #[.bool v, .int .i64 c]) ∧ WC2 n len f la fa lb fb c ∧ ((c ≠ 0 ∧ v = false) ∨ (c = 0 ∧ v = lightB (nat f) len (tms la (nat fa)) (tms lb (nat fb))))
set_option maxHeartbeats 2000000 in
theorem lighter_any (n : Int) (ao : Option Addr) (len co : Nat) (f : Nat → Int) (a : Option Addr) (la ca : Nat) (fa : Nat → Int) (b : Option Addr) (lb cb : Nat) (fb : Nat → Int) (w : World) (hl : len ≤ maxLen) (ho : Row w ao len f)
    (hla : la ≤ maxLen) (ha : Row w a la fa) (hlb : lb ≤ maxLen) (hb : Row w b lb fb) (hT : Tab w) :
    Calls Tryd.prog 14 #[.agg #[.int .i64 n, .slice ao len co], .slice a la ca, .slice b lb cb] w fun e w' => LightPost n len f la fa lb fb e ∧ Below w.heap.size w w' := by
  have HB0 : Hid (Below w.heap.size w (w.alloc (.cells #[.int .i64 n, .slice ao len co] 24))) := bel_one w _
  have K0 : Hid (Held (w.alloc (.cells #[.int .i64 n, .slice ao len co] 24)) w.heap.size n ao len co f) := Held.box ho
  have HA : Hid (Row w a la fa) := ha
  have HBB : Hid (Row w b lb fb) := hb
  have HT : Hid (Tab w) := hT
  clear ho ha hb hT
  go_enter Tryd.func14, Tryd.ntmps14
  generalize hC : Code.region 1 _ false = C
  go_wp2_with fail
  have HA1 : Hid (Row _ a la fa) := HA.out.below HB0.out
  have HB1 : Hid (Row _ b lb fb) := HBB.out.below HB0.out
  generalize hW : w.alloc (.cells #[.int .i64 n, .slice ao len co] 24) = W1 at *
  generalize hn0 : w.heap.size = B0 at *
  have k0 := K0.out.c0
  have k1 := K0.out.c1
  have HR := (show Hid (RR _ _ _ _ _) from rr2 (k0 := ca) (k1 := cb) hla hlb HA1.out HB1.out)
  have HBn : Hid (Below W1.heap.size W1 (W1.alloc (.cells #[.slice a la ca, .slice b lb cb] 22))) := bel_one _ _
  rw [← hC]
  clear hC C
  go_wp2_with fail
  refine (checkWords_any n ao len co f _ 2 2 _ _ _ hl (K0.out.step HBn.out).row (by unfold maxLen; omega) HR.out).mono ?_
  rintro e w2 ⟨⟨c, rfl, hc⟩, hb2⟩
  have HC : Hid (WC2 n len f la fa lb fb c) := hc.two
  have HBB2 : Hid (Below W1.heap.size W1 w2) := Below.then HBn.out hb2
  have K2 : Hid (Held w2 B0 n ao len co f) := K0.out.step HBB2.out
  have HA2 : Hid (Row w2 a la fa) := HA1.out.below HBB2.out
  have HB2 : Hid (Row w2 b lb fb) := HB1.out.below HBB2.out
  have HBW : Hid (Below w.heap.size w w2) := by rw [hn0]; exact HB0.out.trans (HBB2.out.mono (by rw [← hW, ← hn0]; simp))
  clear hc hb2 HR HBn k0 k1 K0 HA1 HB1 HA HBB HB0 hW HBB2
  have k0 := K2.out.c0
  have k1 := K2.out.c1
  by_cases h0 : c = 0
  · subst h0
    obtain ⟨hck, hla, hlb, hfa, hfb⟩ := HC.out.good
    obtain ⟨rfl, h10, hrng, _⟩ := hck.good
    have HRo : Hid (Row w2 ao len (fun k => ((nat f k : Nat) : Int))) := hrng.row K2.out.row
    have HG : Hid (∀ k, k < len → nat f k < 1024) := hrng.small2 h10
    have HA3 : Hid (Row w2 a la (fun k => ((nat fa k : Nat) : Int))) := row_nat HA2.out (fun k hk => (hfa k hk).1)
    have HB3 : Hid (Row w2 b lb (fun k => ((nat fb k : Nat) : Int))) := row_nat HB2.out (fun k hk => (hfb k hk).1)
    have HFA : Hid (∀ i, i < la → nat fa i < len) := fun i hi => by have := hfa i hi; unfold nat; omega
    have HFB : Hid (∀ i, i < lb → nat fb i < len) := fun i hi => by have := hfb i hi; unfold nat; omega
    clear hck hrng hfa hfb
    go_wp2_with fail
    refine (differing_any len a la ca (nat fa) b lb cb (nat fb) w2 h10 hla hlb HA3.out HB3.out HFA.out HFB.out).mono ?_
    rintro e w3 ⟨rfl, hb3⟩
    have HB4 : Hid (Below w.heap.size w w3) := Below.then HBW.out hb3
    have K3 : Hid (Held w3 B0 len ao len co f) := K2.out.step hb3
    have HRo3 : Hid (Row w3 ao len (fun k => ((nat f k : Nat) : Int))) := HRo.out.below hb3
    have mA : mor (tms la (nat fa)) (tms lb (nat fb)) len < 1024 := mor_lt h10
    have mB : mor (tms lb (nat fb)) (tms la (nat fa)) len < 1024 := mor_lt h10
    have HLB : Hid (lightB (nat f) len (tms la (nat fa)) (tms lb (nat fb)) = ((mor (tms lb (nat fb)) (tms la (nat fa)) len != 0) && (lack (mor (tms la (nat fa)) (tms lb (nat fb)) len) (ors (nat f) (pts (mor (tms lb (nat fb)) (tms la (nat fa)) len) 10) (pts (mor (tms lb (nat fb)) (tms la (nat fa)) len) 10).length) == 0))) := rfl
    have HMM : Hid (∀ j, j < (pts (mor (tms lb (nat fb)) (tms la (nat fa)) len) 10).length → nth (pts (mor (tms lb (nat fb)) (tms la (nat fa)) len) 10) j < len) := fun j hj => ((mor_bit _ _ _ _).1 ((pts_mem _ _ _).1 (nth_mem.2 ⟨j, hj, rfl⟩)).2).1
    obtain ⟨LB, HLBE⟩ : ∃ LB, Hid (lightB (nat f) len (tms la (nat fa)) (tms lb (nat fb)) = LB) := ⟨_, rfl⟩
    rw [HLBE.out] at HLB
    clear hb3 k0 k1 K2 HRo HA3 HB3 HBW
    generalize mor (tms la (nat fa)) (tms lb (nat fb)) len = mA' at *
    generalize mor (tms lb (nat fb)) (tms la (nat fa)) len = mB' at *
    have k0 := K3.out.c0
    have k1 := K3.out.c1
    go_wp2_with fail
    refine (members_any mB' w3 mB (HT.out.step HB4.out)).mono ?_
    rintro e w4 ⟨⟨v4, rfl, a4, cap4, rfl, hr4⟩, hb4⟩
    have HB5 : Hid (Below w.heap.size w w4) := Below.then HB4.out hb4
    have K4 : Hid (Held w4 B0 len ao len co f) := K3.out.step hb4
    have HRo4 : Hid (Row w4 ao len (fun k => ((nat f k : Nat) : Int))) := HRo3.out.below hb4
    have HM4 : Hid (Row w4 a4 (pts mB' 10).length (fun k => ((nth (pts mB' 10) k : Nat) : Int))) := hr4
    have hlen : (pts mB' 10).length ≤ 10 := pts_len _ _
    clear hb4 hr4 k0 k1 K3 HRo3 HB4
    have HOL : Hid (∀ k, k ≤ (pts mB' 10).length → ors (nat f) (pts mB' 10) k < 1024) := ors_lt (fun j hj => HG.out _ (HMM.out j hj))
    have k0 := K4.out.c0
    have k1 := K4.out.c1
    generalize hPL : pts mB' 10 = PL at *
    generalize hLL : PL.length = LL at *
    go_wp2_with fail
    go_loopw [33, 11] (fun i u wx => ∃ k : Nat, k ≤ LL ∧ i = .int .i64 k ∧ u = .int .i64 (ors (nat f) PL k : Nat) ∧ wx = w4) (fun i _ _ => LL - (intOf i).toNat)
    case atStart => exact ⟨0, Nat.zero_le _, rfl, rfl, rfl⟩
    case round =>
      obtain ⟨k, hk, rfl, rfl, rfl⟩ := hrel
      have ho1 := HOL.out k hk
      by_cases hlt : k < LL
      · obtain ⟨b1, o1, rfl, hc1⟩ := HM4.out k hlt
        have hx := HMM.out k hlt
        have hgx := HG.out _ hx
        obtain ⟨b2, o2, rfl, hc2⟩ := HRo4.out _ hx
        have HE : Hid (ors (nat f) PL (k + 1) = ors (nat f) PL k ||| nat f (nth PL k)) := rfl
        have hor := i64_or (ors (nat f) PL k) (nat f (nth PL k)) (by omega) (by omega)
        generalize hgy : nat f (nth PL k) = y at *
        generalize hgz : nth PL k = z at *
        generalize hgo : ors (nat f) PL k = q at *
        go_wp2_with fail
        go_roundw
        case rel => exact ⟨k + 1, by omega, by go_num, by rw [HE.out], by first | rfl | trivial⟩
        case measure => simp [intOf]; omega
      · obtain rfl : k = LL := by omega
        generalize hgo : ors (nat f) PL k = q at *
        by_cases hz : mB' = 0
        · have hz' : (((mB' : Nat) : Int) != 0) = false := by simp [hz]
          have HV : Hid (LB = false) := (by rw [HLB.out]; simp [hz] : LB = false)
          clear hz
          go_wp2_with fail
          go_ret2
          exact ⟨⟨_, _, rfl, HC.out, .inr ⟨rfl, by rw [HLBE.out, HV.out]⟩⟩, HB5.out⟩
        · have hz' : (((mB' : Nat) : Int) != 0) = true := by simp; omega
          have HV : Hid (LB = (lack mA' q == 0)) := (by
            rw [HLB.out, show (mB' != 0) = true by simpa using hz, Bool.true_and] : LB = (lack mA' q == 0))
          clear hz
          go_wp2_with fail
          refine (hasAll_any q mA' wr (by omega) (by omega)).mono ?_
          rintro e w' ⟨rfl, hw⟩
          subst hw
          go_wp2_with fail
          go_ret2
          exact ⟨⟨_, _, rfl, HC.out, .inr ⟨rfl, by rw [HLBE.out, HV.out]⟩⟩, HB5.out⟩
  · have hne : (c != 0) = true := by simpa using h0
    have H0 : Hid (c ≠ 0) := h0
    clear h0
    go_wp2_with fail
    go_ret2
    exact ⟨⟨_, _, rfl, HC.out, .inl ⟨H0.out, rfl⟩⟩, HBW.out⟩

end Go.Proofs.YtimpgcmkdcmhkabDoor
