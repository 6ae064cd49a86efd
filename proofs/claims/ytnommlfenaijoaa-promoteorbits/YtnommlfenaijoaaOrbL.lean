/-
  For every order and list that are handed in, hasselaw.PromoteOrbits returns true, and nothing that was there is written. No condition.
-/
import Derived.Test.YtnommlfenaijoaaPBeg
namespace Go.Proofs.Ytnommlfenaijoaa
set_option maxRecDepth 100000
open Go.RowKit


set_option maxHeartbeats 4000000 in
theorem promoteOrbits_any (n : Int) (ao : Option Addr) (len co : Nat) (f : Nat → Int) (ar : Option Addr) (lr cr : Nat) (r : Nat → Int) (w : World) (hl : len ≤ maxLen) (hlr : lr ≤ maxLen) (ho : Row w ao len f) (hr : Row w ar lr r) :
    Calls Try.prog 6 #[.agg #[.int .i64 n, .slice ao len co], .slice ar lr cr] w fun e w' => e = .returned (.bool true) ∧ Below w.heap.size w w' := by
  have HB0 : Hid (Below w.heap.size w (w.alloc (.cells #[.int .i64 n, .slice ao len co] 24))) := bel_one w _
  have K0 : Hid (Held (w.alloc (.cells #[.int .i64 n, .slice ao len co] 24)) w.heap.size n ao len co f) := Held.box ho
  have HRr : Hid (Row w ar lr r) := hr
  clear ho hr
  have k0 := K0.out.c0
  have k1 := K0.out.c1
  go_enter Try.func6, Try.ntmps6
  go_wp2_with fail
  refine (orbit_any n ao len co f ar lr cr r _ hl hlr K0.out.row (HRr.out.below HB0.out)).mono ?_
  rintro e w1 ⟨⟨c, v, rfl, hc, hv⟩, hb1⟩
  have HB1 : Hid (Below w.heap.size w w1) := Below.then HB0.out hb1
  have K1 : Hid (Held w1 w.heap.size n ao len co f) := K0.out.step hb1
  have HC : Hid (RkC n len f lr r c) := hc
  have HV : Hid ((c ≠ 0 ∧ v = 0) ∨ (c = 0 ∧ OrbIs (nat f) len (nat r) v)) := hv
  clear hb1 hc hv HB0 K0 k0 k1
  have k0 := K1.out.c0
  have k1 := K1.out.c1
  go_wp2_with fail
  refine (rowOf_any n ao len co f ar lr cr r w1 hl hlr K1.out.row (HRr.out.below HB1.out)).mono ?_
  rintro e w2 ⟨⟨c', rfl, hc⟩, hb2⟩
  obtain rfl : c = c' := HC.out.one hc
  have HBX : Hid (Below w1.heap.size w1 w2) := hb2
  have HB2 : Hid (Below w.heap.size w w2) := Below.then HB1.out hb2
  have K2 : Hid (Held w2 w.heap.size n ao len co f) := K1.out.step hb2
  clear hc hb2 K1 k0 k1 HB1
  have hcc : (c != c) = false := by simp
  have hcd : (c == c) = true := by simp
  go_wp2_with fail
  refine (promoteBegun_any w2).mono ?_
  rintro e w3 ⟨rfl, hb3⟩
  have HB3 : Hid (Below w.heap.size w w3) := Below.then HB2.out hb3
  have K3 : Hid (Held w3 w.heap.size n ao len co f) := K2.out.step hb3
  clear hb3 K2 HB2 HBX
  by_cases h0 : c = 0
  · subst h0
    obtain ⟨hck, rfl, hrow⟩ := HC.out.good
    obtain ⟨rfl, h10, hrng, _⟩ := hck.good
    have HRW : Hid (Rw (nat f) lr (nat r)) := rw_of h10 (hrng.small2 h10) hrow
    have HG : Hid (∀ k, k < lr → nat f k < 1024) := hrng.small2 h10
    have HGP : Hid (∀ k, k < lr → nat f k < pw lr) := hrng.small
    have HRP : Hid (∀ k, k < lr → 0 ≤ r k) := fun k hk => (hrow k hk).1
    have HOI : Hid (OrbIs (nat f) lr (nat r) v) := by
      rcases HV.out with ⟨h, _⟩ | ⟨_, h⟩
      · exact absurd rfl h
      · exact h
    have K4 : Hid (Held w3 w.heap.size lr ao lr co (fun k => ((nat f k : Nat) : Int))) := ⟨K3.out.c0, K3.out.c1, hrng.row K3.out.row⟩
    have HRV : Hid (RowV w3 (.slice ar lr cr) lr (nat r)) := ⟨ar, cr, rfl, row_nat (HRr.out.below HB3.out) HRP.out⟩
    have HNE : Hid (∀ k, k < lr → r k = ((nat r k : Nat) : Int)) := fun k hk => nat_eq (hrow k hk).1
    have HLT : Hid (Rw (nat f) lr (nat r) → ∀ t, Rw (nat f) lr (its (nat f) (lr - 1) t (nat r))) := fun h t => by
      by_cases hz : lr = 0
      · subst hz; exact ⟨fun _ h => absurd h (Nat.not_lt_zero _), fun _ _ _ h => absurd h (Nat.not_lt_zero _), fun _ _ h => absurd h (Nat.not_lt_zero _)⟩
      · exact h.its (by omega) t
    clear hck hrng hrow HV K3
    go_wp2_with fail
    go_loopw [9, 8] (fun t u wx => ∃ k : Nat, 1 ≤ k ∧ k ≤ 3001 ∧ t = .int .i64 (k : Int) ∧ Hid (RowV wx u lr (its (nat f) (lr - 1) (k - 1) (nat r))) ∧ Hid (∀ s, 1 ≤ s → s < k → ¬ ∀ i, i < lr → its (nat f) (lr - 1) s (nat r) i = nat r i) ∧ Hid (Held wx w.heap.size lr ao lr co (fun k => ((nat f k : Nat) : Int))) ∧ Hid (Below w.heap.size w wx)) (fun t _ _ => 3001 - (intOf t).toNat)
    case atStart => exact ⟨1, Nat.le_refl _, by omega, rfl, HRV.out, fun s h1 h2 => absurd h1 (by omega), K4.out, HB3.out⟩
    case round =>
      clear HRV K4 HB3
      obtain ⟨k, hk1, hk2, rfl, hVk, hNk, hH, hB⟩ := hrel
      have c0 := hH.out.c0
      have c1 := hH.out.c1
      by_cases hlt : k ≤ 3000
      · go_wp2_with fail
        refine (swapsTo_any lr ao co (nat f) _ (its (nat f) (lr - 1) (k - 1) (nat r)) (lr - 1) _ wr h10 HG.out hH.out.row hVk.out (HLT.out HRW.out _) (by omega) (by omega)).mono ?_
        rintro e w4 ⟨⟨u, rfl, hu⟩, hb4⟩
        obtain ⟨a1, cap1, hue, hr1⟩ := hu
        subst hue
        have HR1 : Hid (Row w4 a1 lr (fun i => ((its (nat f) (lr - 1) k (nat r) i : Nat) : Int))) := by
          have e : up (nat f) (lr - 1) (its (nat f) (lr - 1) (k - 1) (nat r)) = its (nat f) (lr - 1) k (nat r) := by
            obtain ⟨q, rfl⟩ : ∃ q, k = q + 1 := ⟨k - 1, by omega⟩
            rfl
          rw [e] at hr1; exact hr1
        have HH1 : Hid (Held w4 w.heap.size lr ao lr co (fun k => ((nat f k : Nat) : Int))) := hH.out.step hb4
        have HB4 : Hid (Below w.heap.size w w4) := Below.then hB.out hb4
        clear hr1 hb4 hH hB c0 c1 hVk
        go_wp2_with fail
        refine (same_any a1 ar lr cap1 lr cr _ r w4 hlr hlr HR1.out (HRr.out.below HB4.out)).mono ?_
        rintro e w5 ⟨⟨q, rfl, hq⟩, hb5⟩
        have HB5 : Hid (Below w.heap.size w w5) := Below.then HB4.out hb5
        have HH5 : Hid (Held w5 w.heap.size lr ao lr co (fun k => ((nat f k : Nat) : Int))) := HH1.out.step hb5
        have HR5 : Hid (RowV w5 (.slice a1 lr cap1) lr (its (nat f) (lr - 1) (k + 1 - 1) (nat r))) := ⟨_, _, rfl, HR1.out.below hb5⟩
        clear hb5 HR1 HH1 HB4
        cases q
        · have HN : Hid (∀ s, 1 ≤ s → s < k + 1 → ¬ ∀ i, i < lr → its (nat f) (lr - 1) s (nat r) i = nat r i) := fun s h1 h2 h3 => by
            by_cases e : s = k
            · subst e
              have : false = true := hq.2 ⟨rfl, fun j hj => by rw [HNE.out j hj]; exact congrArg Int.ofNat (h3 j hj)⟩
              cases this
            · exact hNk.out s h1 (by omega) h3
          clear hq hNk
          go_wp2_with fail
          go_roundw
          case rel => exact ⟨k + 1, by omega, by omega, by go_num, HR5.out, HN.out, HH5.out, HB5.out⟩
          case measure => simp [intOf]; omega
        · have HE : Hid (v = (k : Int)) := HOI.out.one ⟨k, rfl, hk1, by omega, fun i hi => by
            have h1 : ((its (nat f) (lr - 1) k (nat r) i : Nat) : Int) = r i := (hq.1 rfl).2 i hi
            rw [HNE.out i hi] at h1
            omega, hNk.out⟩
          clear hq hNk
          go_wp2_with fail
          go_ret
          exact ⟨by rw [HE.out]; simp, HB5.out⟩
      · obtain rfl : k = 3001 := by omega
        have hd : (3000 : Int) < v := by
          obtain ⟨T, rfl, h1, _, h2, _⟩ := HOI.out
          rcases Nat.lt_or_ge T 3001 with h | h
          · exact absurd h2 (hNk.out T h1 h)
          · omega
        clear c0 c1 hVk hNk
        go_wp2_with fail
        go_ret
        exact ⟨by simp, hB.out⟩
  · have hne : (c != 0) = true := by simpa using h0
    obtain rfl : v = 0 := by
      rcases HV.out with ⟨_, h⟩ | ⟨h, _⟩
      · exact h
      · exact absurd h h0
    clear h0 HV
    go_wp2_with fail
    refine (promoteBegun_any w3).mono ?_
    rintro e w4 ⟨rfl, hb4⟩
    have HB4 : Hid (Below w.heap.size w w4) := Below.then HB3.out hb4
    clear hb4
    go_wp2_with fail
    go_ret
    exact ⟨by simp, HB4.out⟩
end Go.Proofs.Ytnommlfenaijoaa
