/-
  For every order and list that are handed in, hasselaw.PromoteDemotes returns true, and nothing that was there is written. No condition.
-/
import Derived.Test.YtnommlfenaijoaaPBeg
namespace Go.Proofs.Ytnommlfenaijoaa
set_option maxRecDepth 100000
open Go.RowKit

/-- Where something is wrong nothing else is asked of the list. -/
theorem numbersErr_any (c : Int) (a : Option Addr) (l cap : Nat) (w : World) (hc : c ≠ 0) :
    Calls Try.prog 13 #[.slice none 0 0, .int .i64 c, .int .i64 c, .slice a l cap] w fun e w' => e = .returned (.bool true) ∧ Below w.heap.size w w' := by
  have hne : (c != 0) = true := by simpa using hc
  have hee : (c == c) = true := by simp
  clear hc
  go_enter Try.func13, Try.ntmps13
  go_wp2_with fail
  refine (same_any none none 0 0 0 0 (fun _ => 0) (fun _ => 0) w (by unfold maxLen; omega) (by unfold maxLen; omega) (fun k hk => absurd hk (Nat.not_lt_zero _)) (fun k hk => absurd hk (Nat.not_lt_zero _))).mono ?_
  rintro e w1 ⟨⟨v, rfl, hv⟩, hb⟩
  obtain rfl : v = true := hv.2 ⟨rfl, fun _ _ => rfl⟩
  have HB : Hid (Below w.heap.size w w1) := hb
  clear hv hb
  go_wp2_with fail
  go_ret
  exact ⟨rfl, HB.out⟩

set_option maxHeartbeats 4000000 in
theorem promoteDemotes_any (n : Int) (ao : Option Addr) (len co : Nat) (f : Nat → Int) (ar : Option Addr) (lr cr : Nat) (r : Nat → Int) (w : World) (hl : len ≤ maxLen) (hlr : lr ≤ maxLen) (ho : Row w ao len f) (hr : Row w ar lr r) :
    Calls Try.prog 4 #[.agg #[.int .i64 n, .slice ao len co], .slice ar lr cr] w fun e w' => e = .returned (.bool true) ∧ Below w.heap.size w w' := by
  have HB0 : Hid (Below w.heap.size w (w.alloc (.cells #[.int .i64 n, .slice ao len co] 24))) := bel_one w _
  have K0 : Hid (Held (w.alloc (.cells #[.int .i64 n, .slice ao len co] 24)) w.heap.size n ao len co f) := Held.box ho
  have HRr : Hid (Row w ar lr r) := hr
  clear ho hr
  have k0 := K0.out.c0
  have k1 := K0.out.c1
  go_enter Try.func4, Try.ntmps4
  go_wp2_with fail
  refine (demote_any n ao len co f ar lr cr r _ hl hlr K0.out.row (HRr.out.below HB0.out)).mono ?_
  rintro e w1 ⟨⟨c, v, rfl, hc, hv⟩, hb1⟩
  have HB1 : Hid (Below w.heap.size w w1) := Below.then HB0.out hb1
  have K1 : Hid (Held w1 w.heap.size n ao len co f) := K0.out.step hb1
  have HC : Hid (RkC n len f lr r c) := hc
  have HV : Hid ((c ≠ 0 ∧ v = .slice none 0 0) ∨ (c = 0 ∧ RowV w1 v len (dn (nat f) (len - 1) (nat r)))) := hv
  clear hb1 hc hv HB0 K0 k0 k1
  have k0 := K1.out.c0
  have k1 := K1.out.c1
  go_wp2_with fail
  refine (rowOf_any n ao len co f ar lr cr r w1 hl hlr K1.out.row (HRr.out.below HB1.out)).mono ?_
  rintro e w2 ⟨⟨c', rfl, hc⟩, hb2⟩
  obtain rfl : c = c' := HC.out.one hc
  have HBX : Hid (Below w1.heap.size w1 w2) := hb2
  have HB2 : Hid (Below w.heap.size w w2) := Below.then HB1.out hb2
  have K2 : Hid (Held w2 w.heap.size n ao len co f) := K1.out.step hb2
  clear hc hb2 K1 k0 k1 HB1
  have k0 := K2.out.c0
  by_cases h0 : c = 0
  · subst h0
    obtain ⟨hck, rfl, hrow⟩ := HC.out.good
    obtain ⟨rfl, h10, hrng, _⟩ := hck.good
    have HRW : Hid (Rw (nat f) lr (nat r)) := rw_of h10 (hrng.small2 h10) hrow
    have HG : Hid (∀ k, k < lr → nat f k < 1024) := hrng.small2 h10
    have HGP : Hid (∀ k, k < lr → nat f k < pw lr) := hrng.small
    have HRP : Hid (∀ k, k < lr → 0 ≤ r k) := fun k hk => (hrow k hk).1
    have HV2 : Hid (RowV w2 v lr (dn (nat f) (lr - 1) (nat r))) := by
      rcases HV.out with ⟨h, _⟩ | ⟨_, h⟩
      · exact absurd rfl h
      · exact h.step HBX.out
    have K3 : Hid (Held w2 w.heap.size lr ao lr co (fun k => ((nat f k : Nat) : Int))) := ⟨K2.out.c0, K2.out.c1, hrng.row K2.out.row⟩
    have HRV : Hid (RowV w2 (.slice ar lr cr) lr (nat r)) := ⟨ar, cr, rfl, row_nat (HRr.out.below HB2.out) HRP.out⟩
    clear hck hrng hrow HV HBX K2
    go_wp2_with fail
    clear k0
    go_loopw [9, 8] (fun t u wx => ∃ (z : Int) (j : Nat) (X : Nat → Nat), (j < lr ∨ j = 0) ∧ (z = (j : Int) - 1 ∨ (z < 0 ∧ j = 0)) ∧ -3 ≤ z ∧ z ≤ 10 ∧ t = .int .i64 z ∧ Hid (RowV wx u lr X) ∧ Hid (Rw (nat f) lr X) ∧ Hid (dn (nat f) j X = dn (nat f) (lr - 1) (nat r)) ∧ Hid (Held wx w.heap.size lr ao lr co (fun k => ((nat f k : Nat) : Int))) ∧ Hid (Below w2.heap.size w2 wx)) (fun t _ _ => (intOf t + 3).toNat)
    case atStart => exact ⟨(lr : Int) - 2, lr - 1, nat r, by omega, by omega, by omega, by omega, rfl, HRV.out, HRW.out, rfl, K3.out, Below.refl _ _⟩
    case round =>
      clear HRV K3
      obtain ⟨z, j, X, hj, hz, hz1, hz2, rfl, hVk, hRk, hEk, hH, hB⟩ := hrel
      have c0 := hH.out.c0
      have c1 := hH.out.c1
      by_cases hlt : 0 ≤ z
      · obtain ⟨k, rfl⟩ : ∃ k, j = k + 1 := ⟨j - 1, by omega⟩
        obtain rfl : z = (k : Int) := by omega
        obtain ⟨a1, cap1, hu, hr1⟩ := hVk.out
        subst hu
        have HR1 : Hid (Row wr a1 lr (fun q => ((X q : Nat) : Int))) := hr1
        clear hr1 hVk
        go_wp2_with fail
        refine (swapAt_any lr ao co (nat f) a1 cap1 X k wr h10 HG.out hH.out.row HR1.out hRk.out.1 (by omega)).mono ?_
        rintro e w3 ⟨⟨u, rfl, hu⟩, hb3⟩
        have HU : Hid (RowV w3 u lr (sw (nat f) k X)) := hu
        have HH1 : Hid (Held w3 w.heap.size lr ao lr co (fun k => ((nat f k : Nat) : Int))) := hH.out.step hb3
        have HB3 : Hid (Below w2.heap.size w2 w3) := Below.then hB.out hb3
        have HR2 : Hid (Rw (nat f) lr (sw (nat f) k X)) := hRk.out.sw (by omega)
        have HE2 : Hid (dn (nat f) k (sw (nat f) k X) = dn (nat f) (lr - 1) (nat r)) := hEk.out
        clear hu hb3 hH hB c0 c1 hRk hEk
        go_wp2_with fail
        go_roundw
        case rel => exact ⟨(k : Int) - 1, k, sw (nat f) k X, by omega, .inl rfl, by omega, by omega, by first | rfl | go_num, HU.out, HR2.out, HE2.out, HH1.out, HB3.out⟩
        case measure => simp [intOf]; omega
      · obtain rfl : j = 0 := by omega
        have HU : Hid (RowV wr u8 lr (dn (nat f) (lr - 1) (nat r))) := by
          have := hVk.out
          rw [show X = dn (nat f) (lr - 1) (nat r) from hEk.out] at this
          exact this
        have HV3 : Hid (RowV wr v lr (dn (nat f) (lr - 1) (nat r))) := HV2.out.step hB.out
        have HB3 : Hid (Below w.heap.size w wr) := Below.then HB2.out hB.out
        clear c0 c1 hVk hRk hEk
        go_wp2_with fail
        refine (promoteBegun_any wr).mono ?_
        rintro e w4 ⟨rfl, hb4⟩
        have HB4 : Hid (Below w.heap.size w w4) := Below.then HB3.out hb4
        have HN1 := (show Hid (NSl w4 u8 _) from rowV_nsl (HU.out.step hb4))
        have HN2 := (show Hid (NSl w4 v _) from rowV_nsl (HV3.out.step hb4))
        clear hb4 HU HV3 HB3
        go_wp2_with fail
        refine (numbersAre_any 0 _ v u8 w4 (by unfold maxLen; simp; omega) (.inr ⟨rfl, HN2.out, HN1.out⟩)).mono ?_
        rintro e w5 ⟨rfl, hb5⟩
        have HB5 : Hid (Below w.heap.size w w5) := Below.then HB4.out hb5
        clear hb5
        go_wp2_with fail
        go_ret
        exact ⟨rfl, HB5.out⟩
  · have hne : (c == 0) = false := by simpa using h0
    obtain rfl : v = .slice none 0 0 := by
      rcases HV.out with ⟨_, h⟩ | ⟨h, _⟩
      · exact h
      · exact absurd h h0
    have H0 : Hid (c ≠ 0) := h0
    clear h0
    go_wp2_with fail
    clear k0
    go_loopw [9, 8] (fun t u wx => ∃ z : Int, t = .int .i64 z ∧ u = .slice ar lr cr ∧ wx = w2) (fun _ _ _ => 0)
    case atStart => exact ⟨_, rfl, rfl, rfl⟩
    case round =>
      obtain ⟨z, rfl, rfl, rfl⟩ := hrel
      go_wp2_with fail
      refine (promoteBegun_any _).mono ?_
      rintro e w5 ⟨rfl, hb5⟩
      have HB6 : Hid (Below w.heap.size w w5) := Below.then HB2.out hb5
      clear hb5
      go_wp2_with fail
      refine (numbersErr_any c ar lr cr _ H0.out).mono ?_
      rintro e w6 ⟨rfl, hb6⟩
      have HB7 : Hid (Below w.heap.size w w6) := Below.then HB6.out hb6
      clear hb6
      go_wp2_with fail
      go_ret
      exact ⟨rfl, HB7.out⟩
end Go.Proofs.Ytnommlfenaijoaa
