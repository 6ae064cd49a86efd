/-
  That hasselaw.ExtendRanks answers true. No condition but that slices read as slices of numbers.
-/
import Derived.Test.YtbgdjhfaegohpaaRefRank
namespace Go.Proofs.Ytbgdjhfaegohpaa
open Go.RowKit

set_option maxHeartbeats 1000000 in
theorem extendRanks_any (n : Int) (a : Option Addr) (len cap : Nat) (f : Nat → Int) (ar : Option Addr) (lr cr : Nat) (r : Nat → Int) (w : World) (hl : len ≤ maxLen) (hlr : lr ≤ maxLen) (hr : Row w a len f) (hrr : Row w ar lr r) :
    Calls Try.prog 5 #[.agg #[.int .i64 n, .slice a len cap], .slice ar lr cr] w fun e w' => e = .returned (.bool true) ∧ Below w.heap.size w w' := by
  have K0 : Held (w.alloc (.cells #[.int .i64 n, .slice a len cap] 24)) w.heap.size n a len cap f := Held.box hr
  have HB0 : Hid (Below w.heap.size w (w.alloc (.cells #[.int .i64 n, .slice a len cap] 24))) := (Below.refl _ _).alloc (Nat.le_refl _) _
  have HRR : Hid (∀ w', Below w.heap.size w w' → Row w' ar lr r) := fun w' h => hrr.below h
  clear hr hrr
  go_enter Try.func5, Try.ntmps5
  go_wp2_with fail
  refine (rank_any n a len cap f ar lr cr r _ hl hlr K0.row (HRR.out _ HB0.out)).mono ?_
  rintro e w1 ⟨⟨c, hc, he⟩, hb⟩
  have K1 := K0.step hb
  have k0 := K1.c0
  have k1 := K1.c1
  have HB1 : Hid (Below w.heap.size w w1) := Below.then HB0.out hb
  clear hb K0 HB0
  rcases he with ⟨h0, rfl⟩ | ⟨rfl, hno, rfl⟩ | ⟨rfl, hyes, rfl⟩
  · have hne2 : (c == 0) = false := by simpa using h0
    go_wp2_with fail
    refine (checkOrder_any n a len cap f _ hl K1.row).mono ?_
    rintro e w2 ⟨⟨c', rfl, hc'⟩, hb2⟩
    obtain rfl := Chk.unique hc' hc
    have HB2 : Hid (Below w.heap.size w w2) := Below.then HB1.out hb2
    clear hb2 HB1 K1 k0 k1 hc hc'
    go_wp2_with fail
    refine (extendBegun_any _).mono ?_
    rintro e w3 ⟨rfl, hb3⟩
    have HB3 : Hid (Below w.heap.size w w3) := Below.then HB2.out hb3
    clear hb3 HB2
    go_wp2_with fail
    refine (numberIs_any c' 0 0 _ (.inl ⟨h0, rfl⟩)).mono ?_
    rintro e w4 ⟨rfl, rfl⟩
    go_wp2_with fail
    go_ret
    exact ⟨rfl, HB3.out⟩
  · obtain ⟨rfl, h10, hrng, hord⟩ := hc.good
    have HRW : Hid (Sm len len (nat f)) := hrng.small
    have HNO : Hid (¬ IsRw (nat f) len lr r) := hno
    clear hno
    go_wp2_with fail
    refine (checkOrder_any len a len cap f _ hl K1.row).mono ?_
    rintro e w2 ⟨⟨c', rfl, hc'⟩, hb2⟩
    obtain rfl := Chk.unique hc' hc
    have HB2 : Hid (Below w.heap.size w w2) := Below.then HB1.out hb2
    have K2 := K1.step hb2
    have m0 := K2.c0
    have m1 := K2.c1
    clear hb2 HB1 k0 k1 hc hc' K1
    go_wp2_with fail
    refine (isRow_any len a cap (nat f) ar lr cr r _ h10 HRW.out hlr (hrng.row K2.row) (HRR.out _ HB2.out)).mono ?_
    rintro e w3 ⟨⟨v, rfl, hv⟩, hb3⟩
    obtain rfl : v = false := by
      cases v
      · rfl
      · exact absurd (hv.1 rfl) HNO.out
    have HB3 : Hid (Below w.heap.size w w3) := Below.then HB2.out hb3
    clear hb3 HB2 K2 m0 m1 hv hrng hord
    go_wp2_with fail
    refine (extendBegun_any _).mono ?_
    rintro e w4 ⟨rfl, hb4⟩
    have HB4 : Hid (Below w.heap.size w w4) := Below.then HB3.out hb4
    clear hb4 HB3
    go_wp2_with fail
    refine (numberIs_any 1 0 0 _ (.inl ⟨by omega, rfl⟩)).mono ?_
    rintro e w5 ⟨rfl, rfl⟩
    go_wp2_with fail
    go_ret
    exact ⟨rfl, HB4.out⟩
  · obtain ⟨rfl, h10, hrng, hord⟩ := hc.good
    have HRW : Hid (Sm len len (nat f)) := hrng.small
    have HY : Hid (IsRw (nat f) len lr r) := hyes
    obtain rfl := hyes.1
    have HRT : Hid (RowTo (nat f) lr r lr) := hyes.2
    clear hyes
    obtain ⟨R, HRQ⟩ : ∃ R, Hid (R = rk (nat f) lr (nat r) lr) := ⟨_, rfl⟩
    rw [← HRQ.out]
    go_wp2_with fail
    refine (checkOrder_any lr a lr cap f _ hl K1.row).mono ?_
    rintro e w2 ⟨⟨c', rfl, hc'⟩, hb2⟩
    obtain rfl := Chk.unique hc' hc
    have HB2 : Hid (Below w.heap.size w w2) := Below.then HB1.out hb2
    have K2 := K1.step hb2
    have m0 := K2.c0
    have m1 := K2.c1
    clear hb2 HB1 k0 k1 hc hc' K1
    go_wp2_with fail
    refine (isRow_any lr a cap (nat f) ar lr cr r _ h10 HRW.out hlr (hrng.row K2.row) (HRR.out _ HB2.out)).mono ?_
    rintro e w3 ⟨⟨v, rfl, hv⟩, hb3⟩
    obtain rfl : v = true := hv.2 HY.out
    have HB3 : Hid (Below w.heap.size w w3) := Below.then HB2.out hb3
    have K3 := K2.step hb3
    clear hb3 HB2 K2 m0 m1 hv hord
    have m0 := K3.c0
    have m1 := K3.c1
    go_wp2_with fail
    refine (rowRank_any lr a cap (nat f) ar cr r _ h10 HRW.out (hrng.row K3.row) (HRR.out _ HB3.out) HRT.out).mono ?_
    rintro e w4 ⟨rfl, hb4⟩
    rw [← HRQ.out]
    have HB4 : Hid (Below w.heap.size w w4) := Below.then HB3.out hb4
    clear hb4 HB3 K3 m0 m1 hrng HRQ
    go_wp2_with fail
    refine (extendBegun_any _).mono ?_
    rintro e w5 ⟨rfl, hb5⟩
    have HB5 : Hid (Below w.heap.size w w5) := Below.then HB4.out hb5
    clear hb5 HB4
    go_wp2_with fail
    refine (numberIs_any 0 (R : Int) (R : Int) _ (.inr ⟨rfl, rfl⟩)).mono ?_
    rintro e w6 ⟨rfl, rfl⟩
    go_wp2_with fail
    go_ret
    exact ⟨rfl, HB5.out⟩
end Go.Proofs.Ytbgdjhfaegohpaa
