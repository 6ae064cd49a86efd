/-
  For every order and list that are handed in, hasselaw.PromotePromotes and PromoteEvacuates return true, and nothing that was there is written. No condition.
-/
import Derived.Test.YtnommlfenaijoaaPBeg
namespace Go.Proofs.Ytnommlfenaijoaa
set_option maxRecDepth 100000
open Go.RowKit


set_option maxHeartbeats 4000000 in
theorem promotePromotes_any (n : Int) (ao : Option Addr) (len co : Nat) (f : Nat → Int) (ar : Option Addr) (lr cr : Nat) (r : Nat → Int) (w : World) (hl : len ≤ maxLen) (hlr : lr ≤ maxLen) (ho : Row w ao len f) (hr : Row w ar lr r) :
    Calls Try.prog 3 #[.agg #[.int .i64 n, .slice ao len co], .slice ar lr cr] w fun e w' => e = .returned (.bool true) ∧ Below w.heap.size w w' := by
  have HB0 : Hid (Below w.heap.size w (w.alloc (.cells #[.int .i64 n, .slice ao len co] 24))) := bel_one w _
  have K0 : Hid (Held (w.alloc (.cells #[.int .i64 n, .slice ao len co] 24)) w.heap.size n ao len co f) := Held.box ho
  have HRr : Hid (Row w ar lr r) := hr
  clear ho hr
  have k0 := K0.out.c0
  have k1 := K0.out.c1
  go_enter Try.func3, Try.ntmps3
  go_wp2_with fail
  refine (promote_any n ao len co f ar lr cr r _ hl hlr K0.out.row (HRr.out.below HB0.out)).mono ?_
  rintro e w1 ⟨⟨c, v, rfl, hc, hv⟩, hb1⟩
  have HB1 : Hid (Below w.heap.size w w1) := Below.then HB0.out hb1
  have K1 : Hid (Held w1 w.heap.size n ao len co f) := K0.out.step hb1
  have HC : Hid (RkC n len f lr r c) := hc
  have HV : Hid ((c ≠ 0 ∧ v = .slice none 0 0) ∨ (c = 0 ∧ RowV w1 v len (up (nat f) (len - 1) (nat r)))) := hv
  clear hb1 hc hv HB0 K0 k0 k1
  have k0 := K1.out.c0
  have k1 := K1.out.c1
  go_wp2_with fail
  refine (rowOf_any n ao len co f ar lr cr r w1 hl hlr K1.out.row (HRr.out.below HB1.out)).mono ?_
  rintro e w2 ⟨⟨c', rfl, hc⟩, hb2⟩
  obtain rfl : c = c' := HC.out.one hc
  have HBX : Hid (Below w1.heap.size w1 w2) := hb2
  have HB2 : Hid (Below w.heap.size w w2) := Below.then HB1.out hb2
  have K2 : Hid (Held w2 w.heap.size n ao len co f) := K1.out.step hb2
  clear hc hb2 K1 k0 k1 HB1
  have k0 := K2.out.c0
  have k1 := K2.out.c1
  by_cases h0 : c = 0
  · subst h0
    obtain ⟨hck, rfl, hrow⟩ := HC.out.good
    obtain ⟨rfl, h10, hrng, _⟩ := hck.good
    have HRW : Hid (Rw (nat f) lr (nat r)) := rw_of h10 (hrng.small2 h10) hrow
    have HG : Hid (∀ k, k < lr → nat f k < 1024) := hrng.small2 h10
    have HGP : Hid (∀ k, k < lr → nat f k < pw lr) := hrng.small
    have HRP : Hid (∀ k, k < lr → 0 ≤ r k) := fun k hk => (hrow k hk).1
    have HV2 : Hid (RowV w2 v lr (up (nat f) (lr - 1) (nat r))) := by
      rcases HV.out with ⟨h, _⟩ | ⟨_, h⟩
      · exact absurd rfl h
      · exact h.step HBX.out
    have HRN : Hid (Row w2 ao lr (fun k => ((nat f k : Nat) : Int))) := hrng.row K2.out.row
    have HRV : Hid (RowV w2 (.slice ar lr cr) lr (nat r)) := ⟨ar, cr, rfl, row_nat (HRr.out.below HB2.out) HRP.out⟩
    clear hck hrng hrow HV HBX
    go_wp2_with fail
    refine (swapsTo_any lr ao co (nat f) _ (nat r) (lr - 1) _ w2 h10 HG.out HRN.out HRV.out HRW.out (by omega) (by omega)).mono ?_
    rintro e w3 ⟨⟨u, rfl, hu⟩, hb3⟩
    have HU : Hid (RowV w3 u lr (up (nat f) (lr - 1) (nat r))) := hu
    have HV3 : Hid (RowV w3 v lr (up (nat f) (lr - 1) (nat r))) := HV2.out.step hb3
    have HB3 : Hid (Below w.heap.size w w3) := Below.then HB2.out hb3
    clear hu hb3 HV2 k0 k1
    go_wp2_with fail
    refine (promoteBegun_any w3).mono ?_
    rintro e w4 ⟨rfl, hb4⟩
    have HB4 : Hid (Below w.heap.size w w4) := Below.then HB3.out hb4
    have HN1 := (show Hid (NSl w4 u _) from rowV_nsl (HU.out.step hb4))
    have HN2 := (show Hid (NSl w4 v _) from rowV_nsl (HV3.out.step hb4))
    clear hb4 HU HV3 HB3
    go_wp2_with fail
    refine (numbersAre_any 0 _ v u w4 (by unfold maxLen; simp; omega) (.inr ⟨rfl, HN2.out, HN1.out⟩)).mono ?_
    rintro e w5 ⟨rfl, hb5⟩
    have HB5 : Hid (Below w.heap.size w w5) := Below.then HB4.out hb5
    clear hb5
    go_wp2_with fail
    go_ret
    exact ⟨rfl, HB5.out⟩
  · have hne : (c == 0) = false := by simpa using h0
    obtain rfl : v = .slice none 0 0 := by
      rcases HV.out with ⟨_, h⟩ | ⟨h, _⟩
      · exact h
      · exact absurd h h0
    have H0 : Hid (c ≠ 0) := h0
    clear h0
    go_wp2_with fail
    refine (promoteBegun_any w2).mono ?_
    rintro e w5 ⟨rfl, hb5⟩
    have HB6 : Hid (Below w.heap.size w w5) := Below.then HB2.out hb5
    clear hb5
    go_wp2_with fail
    refine (numbersAre_any c [] (.slice none 0 0) (.slice none 0 0) _ (by unfold maxLen; decide) (.inl ⟨H0.out, rfl, rfl⟩)).mono ?_
    rintro e w6 ⟨rfl, hb6⟩
    have HB7 : Hid (Below w.heap.size w w6) := Below.then HB6.out hb6
    clear hb6
    go_wp2_with fail
    go_ret
    exact ⟨rfl, HB7.out⟩

set_option maxHeartbeats 4000000 in
theorem promoteEvacuates_any (n : Int) (ao : Option Addr) (len co : Nat) (f : Nat → Int) (ar : Option Addr) (lr cr : Nat) (r : Nat → Int) (w : World) (hl : len ≤ maxLen) (hlr : lr ≤ maxLen) (ho : Row w ao len f) (hr : Row w ar lr r) :
    Calls Try.prog 5 #[.agg #[.int .i64 n, .slice ao len co], .slice ar lr cr] w fun e w' => e = .returned (.bool true) ∧ Below w.heap.size w w' := by
  have HB0 : Hid (Below w.heap.size w (w.alloc (.cells #[.int .i64 n, .slice ao len co] 24))) := bel_one w _
  have K0 : Hid (Held (w.alloc (.cells #[.int .i64 n, .slice ao len co] 24)) w.heap.size n ao len co f) := Held.box ho
  have HRr : Hid (Row w ar lr r) := hr
  clear ho hr
  have k0 := K0.out.c0
  have k1 := K0.out.c1
  go_enter Try.func5, Try.ntmps5
  go_wp2_with fail
  refine (evacuate_any n ao len co f ar lr cr r _ hl hlr K0.out.row (HRr.out.below HB0.out)).mono ?_
  rintro e w1 ⟨⟨c, v, rfl, hc, hv⟩, hb1⟩
  have HB1 : Hid (Below w.heap.size w w1) := Below.then HB0.out hb1
  have K1 : Hid (Held w1 w.heap.size n ao len co f) := K0.out.step hb1
  have HC : Hid (RkC n len f lr r c) := hc
  have HV : Hid ((c ≠ 0 ∧ v = .slice none 0 0) ∨ (c = 0 ∧ RowV w1 v len (ev (nat f) (len - 1) (nat r)))) := hv
  clear hb1 hc hv HB0 K0 k0 k1
  have k0 := K1.out.c0
  have k1 := K1.out.c1
  go_wp2_with fail
  refine (rowOf_any n ao len co f ar lr cr r w1 hl hlr K1.out.row (HRr.out.below HB1.out)).mono ?_
  rintro e w2 ⟨⟨c', rfl, hc⟩, hb2⟩
  obtain rfl : c = c' := HC.out.one hc
  have HBX : Hid (Below w1.heap.size w1 w2) := hb2
  have HB2 : Hid (Below w.heap.size w w2) := Below.then HB1.out hb2
  have K2 : Hid (Held w2 w.heap.size n ao len co f) := K1.out.step hb2
  clear hc hb2 K1 k0 k1 HB1
  have k0 := K2.out.c0
  have k1 := K2.out.c1
  by_cases h0 : c = 0
  · subst h0
    obtain ⟨hck, rfl, hrow⟩ := HC.out.good
    obtain ⟨rfl, h10, hrng, _⟩ := hck.good
    have HRW : Hid (Rw (nat f) lr (nat r)) := rw_of h10 (hrng.small2 h10) hrow
    have HG : Hid (∀ k, k < lr → nat f k < 1024) := hrng.small2 h10
    have HGP : Hid (∀ k, k < lr → nat f k < pw lr) := hrng.small
    have HRP : Hid (∀ k, k < lr → 0 ≤ r k) := fun k hk => (hrow k hk).1
    have HV2 : Hid (RowV w2 v lr (ev (nat f) (lr - 1) (nat r))) := by
      rcases HV.out with ⟨h, _⟩ | ⟨_, h⟩
      · exact absurd rfl h
      · exact h.step HBX.out
    have HRN : Hid (Row w2 ao lr (fun k => ((nat f k : Nat) : Int))) := hrng.row K2.out.row
    have HRV : Hid (RowV w2 (.slice ar lr cr) lr (nat r)) := ⟨ar, cr, rfl, row_nat (HRr.out.below HB2.out) HRP.out⟩
    clear hck hrng hrow HV HBX
    go_wp2_with fail
    refine (evacuateRow_any lr ao co (nat f) _ (nat r) w2 h10 HG.out HRN.out HRV.out HRW.out).mono ?_
    rintro e w3 ⟨⟨u, rfl, hu⟩, hb3⟩
    have HU : Hid (RowV w3 u lr (ev (nat f) (lr - 1) (nat r))) := hu
    have HV3 : Hid (RowV w3 v lr (ev (nat f) (lr - 1) (nat r))) := HV2.out.step hb3
    have HB3 : Hid (Below w.heap.size w w3) := Below.then HB2.out hb3
    clear hu hb3 HV2 k0 k1
    go_wp2_with fail
    refine (promoteBegun_any w3).mono ?_
    rintro e w4 ⟨rfl, hb4⟩
    have HB4 : Hid (Below w.heap.size w w4) := Below.then HB3.out hb4
    have HN1 := (show Hid (NSl w4 u _) from rowV_nsl (HU.out.step hb4))
    have HN2 := (show Hid (NSl w4 v _) from rowV_nsl (HV3.out.step hb4))
    clear hb4 HU HV3 HB3
    go_wp2_with fail
    refine (numbersAre_any 0 _ v u w4 (by unfold maxLen; simp; omega) (.inr ⟨rfl, HN2.out, HN1.out⟩)).mono ?_
    rintro e w5 ⟨rfl, hb5⟩
    have HB5 : Hid (Below w.heap.size w w5) := Below.then HB4.out hb5
    clear hb5
    go_wp2_with fail
    go_ret
    exact ⟨rfl, HB5.out⟩
  · have hne : (c == 0) = false := by simpa using h0
    obtain rfl : v = .slice none 0 0 := by
      rcases HV.out with ⟨_, h⟩ | ⟨h, _⟩
      · exact h
      · exact absurd h h0
    have H0 : Hid (c ≠ 0) := h0
    clear h0
    go_wp2_with fail
    refine (promoteBegun_any w2).mono ?_
    rintro e w5 ⟨rfl, hb5⟩
    have HB6 : Hid (Below w.heap.size w w5) := Below.then HB2.out hb5
    clear hb5
    go_wp2_with fail
    refine (numbersAre_any c [] (.slice none 0 0) (.slice none 0 0) _ (by unfold maxLen; decide) (.inl ⟨H0.out, rfl, rfl⟩)).mono ?_
    rintro e w6 ⟨rfl, hb6⟩
    have HB7 : Hid (Below w.heap.size w w6) := Below.then HB6.out hb6
    clear hb6
    go_wp2_with fail
    go_ret
    exact ⟨rfl, HB7.out⟩
end Go.Proofs.Ytnommlfenaijoaa
