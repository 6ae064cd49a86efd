/-
  hasselaw.IdealSets returns true for every lattice and number. No condition but that slices read as slices of rows.
-/
import Derived.Test.YtpgbcnbhfgopdaaIBegun
import Derived.Test.YtpgbcnbhfgopdaaRefPS
import Derived.Test.YtpgbcnbhfgopdaaRefLat
namespace Go.Proofs.Ytpgbcnbhfgopdaa
open Go.RowKit

/-- What it says of two answers that agree. -/
theorem numberIs_any (c v v' : Int) (w : World) (h : (c ≠ 0 ∧ v = 0) ∨ (c = 0 ∧ v = v')) :
    Calls Try.prog 24 #[.int .i64 v, .int .i64 c, .int .i64 c, .int .i64 v'] w fun e w' => e = .returned (.bool true) ∧ w = w' := by
  have hcc : (c == c) = true := beq_self_eq_true _
  rcases h with ⟨h0, rfl⟩ | ⟨rfl, rfl⟩
  · have hne : (c != 0) = true := by simpa using h0
    go_enter Try.func24, Try.ntmps24
    go_wp2_with fail
    go_ret
    exact ⟨rfl, rfl⟩
  · have hvv : (v == v) = true := beq_self_eq_true _
    go_enter Try.func24, Try.ntmps24
    go_wp2_with fail
    go_ret
    exact ⟨rfl, rfl⟩
set_option maxHeartbeats 4000000 in
theorem idealSets_any (n : Int) (a : Option Addr) (la ca : Nat) (SA : Nat → Option Addr × Nat × Nat) (FA : Nat → Nat → Int) (b : Option Addr) (lb cb : Nat) (SB : Nat → Option Addr × Nat × Nat) (FB : Nat → Nat → Int) (x : Int) (w : World) (hla : la ≤ maxLen) (hlb : lb ≤ maxLen) (hra : RR w a la SA FA) (hrb : RR w b lb SB FB) :
    Calls Try.prog 6 #[.agg #[.int .i64 n, .slice a la ca, .slice b lb cb], .int .i64 x] w fun e w' => e = .returned (.bool true) ∧ Below w.heap.size w w' := by
  have B1 : Below w.heap.size w (w.alloc (.cells #[.int .i64 n, .slice a la ca, .slice b lb cb] 27)) := (Below.refl _ _).alloc (Nat.le_refl _) _
  have L0 := LB.new w n a la ca b lb cb
  have HB1 : Hid (Below w.heap.size w (w.alloc (.cells #[.int .i64 n, .slice a la ca, .slice b lb cb] 27))) := B1
  have hRA := hra.below HB1.out
  have hRB := hrb.below HB1.out
  clear hra hrb B1
  have l0 := L0.1
  have l1 := L0.2.1
  have l2 := L0.2.2
  go_enter Try.func6, Try.ntmps6
  go_wp2_with fail
  refine (setL_any n a la ca SA FA b lb cb SB FB x _ hla hlb hRA hRB).mono ?_
  rintro e w1 ⟨⟨c0, c, v, hc0, hc, rfl, hv⟩, hb1⟩
  have HB2 : Hid (Below w.heap.size w w1) := Below.then HB1.out hb1
  have L1 := L0.step hb1
  have k0 := L1.1
  have k1 := L1.2.1
  have k2 := L1.2.2
  have hRA1 := hRA.below hb1
  have hRB1 := hRB.below hb1
  clear hRA hRB HB1 l0 l1 l2 L0 hb1
  go_wp2_with fail
  refine (checkLattice_any n a la ca SA FA b lb cb SB FB _ hla hlb hRA1 hRB1).mono ?_
  rintro e w2 ⟨⟨c', rfl, hc'⟩, hb2⟩
  obtain rfl := LCk.one hc' hc0
  have HB3 : Hid (Below w.heap.size w w2) := Below.then HB2.out hb2
  have L2 := L1.step hb2
  have m0 := L2.1
  have m1 := L2.2.1
  have m2 := L2.2.2
  have hRA2 := hRA1.below hb2
  clear hb2 HB2 k0 k1 k2 L1 hRA1 hRB1 hc'
  by_cases h0 : c' = 0
  · subst h0
    obtain ⟨q, rfl, h1, h40, e1, e2, hs1, hs2, hg1, hg2, hlat⟩ := hc0.good
    obtain rfl := e1.symm
    obtain rfl := e2.symm
    obtain ⟨b1, o1, rfl, ht1, _⟩ := hRA2.tb h1 hs1 hg1
    have HT : Hid (Tb w2 b1 o1 q (fun x => rAt (SA x)) (nat2 FA)) := ht1
    have HIR : Hid (filt (fun x => cntB (fun y => covB (nat2 FA) x y q) q == 1) q = irrs (nat2 FA) (nat2 FB) q) := irrs_ref hlat h1
    have HV : Hid ((c ≠ 0 ∧ v = 0) ∨ (c = 0 ∧ v = ((psB (nat2 FA) (irrs (nat2 FA) (nat2 FB) q) x.toNat (irrs (nat2 FA) (nat2 FB) q).length : Nat) : Int))) := hv
    rw [show (q : Int).toNat = q from rfl] at hc
    clear hRA2 hs1 hs2 hg1 hg2 hlat ht1 hv hc0
    by_cases hx : 0 ≤ x ∧ x < (q : Int)
    · obtain ⟨y, rfl⟩ := Int.eq_ofNat_of_zero_le hx.1
      have hyq : y < q := by omega
      have hx1 : ¬ ((q : Int) ≤ (y : Int)) := by omega
      have hx2 : (decide ((y : Int) < 0)) = false := by simp
      go_wp2_with fail
      refine (irrOf_any q b1 o1 ca b q cb _ (nat2 FA) _ h40 HT.out).mono ?_
      rintro e w3 ⟨⟨v3, rfl, hv3⟩, hb3⟩
      rw [HIR.out] at hv3
      obtain ⟨va, vc, rfl, hvr⟩ := hv3
      have HB4 : Hid (Below w.heap.size w w3) := Below.then HB3.out hb3
      have HT3 : Hid (Tb w3 b1 o1 q (fun x => rAt (SA x)) (nat2 FA)) := HT.out.step hb3
      have L3 := L2.step hb3
      have p0 := L3.1
      have p1 := L3.2.1
      have p2 := L3.2.2
      obtain ⟨k, HK⟩ : ∃ k, Hid (k = (irrs (nat2 FA) (nat2 FB) q).length) := ⟨_, rfl⟩
      rw [← HK.out] at hc ⊢
      clear hb3 HB3 L2 m0 m1 m2 hvr HT hx
      by_cases hk : k ≤ 10
      · obtain rfl : c = 0 := hc.one (.inr ⟨rfl, .inr ⟨⟨by omega, by omega⟩, .inr ⟨rfl, hk⟩⟩⟩)
        have hk1 : (k : Int) ≤ 10 := by omega
        go_wp2_with fail
        refine (pointSet_any q b1 o1 ca b q cb _ (nat2 FA) y _ h40 hyq HT3.out (irrs (nat2 FA) (nat2 FB) q) HIR.out.symm (by rw [← HK.out]; exact hk)).mono ?_
        rintro e w4 ⟨rfl, hb4⟩
        have HB5 : Hid (Below w.heap.size w w4) := Below.then HB4.out hb4
        have HVV : Hid (v = ((psB (nat2 FA) (irrs (nat2 FA) (nat2 FB) q) y (irrs (nat2 FA) (nat2 FB) q).length : Nat) : Int)) := by
          rcases HV.out with ⟨h, _⟩ | ⟨_, h⟩
          · exact absurd rfl h
          · exact h
        clear hb4 HB4 L3 p0 p1 p2 hc HV
        go_wp2_with fail
        refine (idealBegun_any _).mono ?_
        rintro e w5 ⟨rfl, hb5⟩
        have HB6 : Hid (Below w.heap.size w w5) := Below.then HB5.out hb5
        clear hb5 HB5
        go_wp2_with fail
        refine (numberIs_any 0 v _ _ (.inr ⟨rfl, HVV.out⟩)).mono ?_
        rintro e w' ⟨rfl, rfl⟩
        go_wp2_with fail
        go_ret
        exact ⟨rfl, HB6.out⟩
      · obtain rfl : c = 2 := hc.one (.inr ⟨rfl, .inr ⟨⟨by omega, by omega⟩, .inl ⟨rfl, by omega⟩⟩⟩)
        have hk1 : ¬ ((k : Int) ≤ 10) := by omega
        have HVV : Hid (v = 0) := by
          rcases HV.out with ⟨_, h⟩ | ⟨h, _⟩
          · exact h
          · cases h
        clear L3 p0 p1 p2 hc HV
        go_wp2_with fail
        refine (idealBegun_any _).mono ?_
        rintro e w5 ⟨rfl, hb5⟩
        have HB6 : Hid (Below w.heap.size w w5) := Below.then HB4.out hb5
        clear hb5 HB4
        go_wp2_with fail
        refine (numberIs_any 2 v 0 _ (.inl ⟨by decide, HVV.out⟩)).mono ?_
        rintro e w' ⟨rfl, rfl⟩
        go_wp2_with fail
        go_ret
        exact ⟨rfl, HB6.out⟩
    · obtain rfl : c = 3 := hc.one (.inr ⟨rfl, .inl ⟨rfl, hx⟩⟩)
      have HVV : Hid (v = 0) := by
        rcases HV.out with ⟨_, h⟩ | ⟨h, _⟩
        · exact h
        · cases h
      clear hc HV
      by_cases hx0 : x < 0
      · go_wp2_with fail
        refine (idealBegun_any _).mono ?_
        rintro e w5 ⟨rfl, hb5⟩
        have HB6 : Hid (Below w.heap.size w w5) := Below.then HB3.out hb5
        clear hb5 HB3
        go_wp2_with fail
        refine (numberIs_any 3 v 0 _ (.inl ⟨by decide, HVV.out⟩)).mono ?_
        rintro e w' ⟨rfl, rfl⟩
        go_wp2_with fail
        go_ret
        exact ⟨rfl, HB6.out⟩
      · have hx1 : (q : Int) ≤ x := by omega
        have hx2 : decide (x < 0) = false := by simp; omega
        go_wp2_with fail
        refine (idealBegun_any _).mono ?_
        rintro e w5 ⟨rfl, hb5⟩
        have HB6 : Hid (Below w.heap.size w w5) := Below.then HB3.out hb5
        clear hb5 HB3
        go_wp2_with fail
        refine (numberIs_any 3 v 0 _ (.inl ⟨by decide, HVV.out⟩)).mono ?_
        rintro e w' ⟨rfl, rfl⟩
        go_wp2_with fail
        go_ret
        exact ⟨rfl, HB6.out⟩
  · have hne2 : (c' == 0) = false := by simpa using h0
    obtain rfl : c = c' := hc.one (.inl ⟨h0, rfl⟩)
    have HVV : Hid (v = 0) := by
      rcases hv with ⟨_, h⟩ | ⟨h, _⟩
      · exact h
      · exact absurd h h0
    clear hc hc0 hv hRA2 L2 m0 m1 m2
    go_wp2_with fail
    refine (idealBegun_any _).mono ?_
    rintro e w5 ⟨rfl, hb5⟩
    have HB6 : Hid (Below w.heap.size w w5) := Below.then HB3.out hb5
    clear hb5 HB3
    go_wp2_with fail
    refine (numberIs_any c v 0 _ (.inl ⟨h0, HVV.out⟩)).mono ?_
    rintro e w' ⟨rfl, rfl⟩
    go_wp2_with fail
    go_ret
    exact ⟨rfl, HB6.out⟩
end Go.Proofs.Ytpgbcnbhfgopdaa
