/-
  That hasselaw.ExtendBoths answers true. No condition but that a slice reads as a slice of numbers.
-/
import Derived.Test.YtbgdjhfaegohpaaAhead
namespace Go.Proofs.Ytbgdjhfaegohpaa
open Go.RowKit

set_option maxHeartbeats 1000000 in
theorem extendBoths_any (n : Int) (a : Option Addr) (len cap : Nat) (f : Nat → Int) (A B C : Int) (w : World) (hl : len ≤ maxLen) (hr : Row w a len f) :
    Calls Try.prog 7 #[.agg #[.int .i64 n, .slice a len cap], .int .i64 A, .int .i64 B, .int .i64 C] w fun e w' => e = .returned (.bool true) ∧ Below w.heap.size w w' := by
  have K0 : Held (w.alloc (.cells #[.int .i64 n, .slice a len cap] 24)) w.heap.size n a len cap f := Held.box hr
  have HB0 : Hid (Below w.heap.size w (w.alloc (.cells #[.int .i64 n, .slice a len cap] 24))) := (Below.refl _ _).alloc (Nat.le_refl _) _
  clear hr
  go_enter Try.func7, Try.ntmps7
  go_wp2_with fail
  refine (both_any n a len cap f A B C _ hl K0.row).mono ?_
  rintro e w1 ⟨⟨c, hc, he⟩, hb⟩
  have K1 := K0.step hb
  have k0 := K1.c0
  have k1 := K1.c1
  have HB1 : Hid (Below w.heap.size w w1) := Below.then HB0.out hb
  clear hb K0 HB0
  rcases he with ⟨h0, rfl⟩ | ⟨rfl, hbad, rfl⟩ | ⟨rfl, x, y, z, rfl, rfl, rfl, hx, hy, hz, rfl⟩
  · have hne2 : (c == 0) = false := by simpa using h0
    go_wp2_with fail
    refine (checkOrder_any n a len cap f _ hl K1.row).mono ?_
    rintro e w2 ⟨⟨c', rfl, hc'⟩, hb2⟩
    obtain rfl := Chk.unique hc' hc
    have HB2 : Hid (Below w.heap.size w w2) := Below.then HB1.out hb2
    clear hb2 HB1 K1 k0 k1 hc hc'
    go_wp2_with fail
    refine (extendBegun_any _).mono ?_
    rintro e w3 ⟨rfl, hb3⟩
    have HB3 : Hid (Below w.heap.size w w3) := Below.then HB2.out hb3
    clear hb3 HB2
    go_wp2_with fail
    refine (numberIs_any c' 0 _ _ (.inl ⟨h0, rfl⟩)).mono ?_
    rintro e w4 ⟨rfl, rfl⟩
    go_wp2_with fail
    go_ret
    exact ⟨rfl, HB3.out⟩
  · obtain ⟨rfl, h10, hrng, hord⟩ := hc.good
    go_wp2_with fail
    refine (checkOrder_any len a len cap f _ hl K1.row).mono ?_
    rintro e w2 ⟨⟨c', rfl, hc'⟩, hb2⟩
    obtain rfl := Chk.unique hc' hc
    have HB2 : Hid (Below w.heap.size w w2) := Below.then HB1.out hb2
    have K2 := K1.step hb2
    have m0 := K2.c0
    have m1 := K2.c1
    clear hb2 HB1 k0 k1 hc hc' K1
    by_cases h1A : A < 0
    · have d1A : decide (A < 0) = true := by simpa using h1A
      go_wp2_with fail
      refine (extendBegun_any _).mono ?_
      rintro e w3 ⟨rfl, hb3⟩
      have HB3 : Hid (Below w.heap.size w w3) := Below.then HB2.out hb3
      clear hb3 HB2 K2 m0 m1
      go_wp2_with fail
      refine (numberIs_any 3 0 _ _ (.inl ⟨by decide, rfl⟩)).mono ?_
      rintro e w4 ⟨rfl, rfl⟩
      go_wp2_with fail
      go_ret
      exact ⟨rfl, HB3.out⟩
    have d1A : decide (A < 0) = false := by simpa using h1A
    by_cases h2A : (len : Int) ≤ A
    · have d2A : decide ((len : Int) ≤ A) = true := by simpa using h2A
      go_wp2_with fail
      refine (extendBegun_any _).mono ?_
      rintro e w3 ⟨rfl, hb3⟩
      have HB3 : Hid (Below w.heap.size w w3) := Below.then HB2.out hb3
      clear hb3 HB2 K2 m0 m1
      go_wp2_with fail
      refine (numberIs_any 3 0 _ _ (.inl ⟨by decide, rfl⟩)).mono ?_
      rintro e w4 ⟨rfl, rfl⟩
      go_wp2_with fail
      go_ret
      exact ⟨rfl, HB3.out⟩
    have d2A : decide ((len : Int) ≤ A) = false := by simpa using h2A
    by_cases h1B : B < 0
    · have d1B : decide (B < 0) = true := by simpa using h1B
      go_wp2_with fail
      refine (extendBegun_any _).mono ?_
      rintro e w3 ⟨rfl, hb3⟩
      have HB3 : Hid (Below w.heap.size w w3) := Below.then HB2.out hb3
      clear hb3 HB2 K2 m0 m1
      go_wp2_with fail
      refine (numberIs_any 3 0 _ _ (.inl ⟨by decide, rfl⟩)).mono ?_
      rintro e w4 ⟨rfl, rfl⟩
      go_wp2_with fail
      go_ret
      exact ⟨rfl, HB3.out⟩
    have d1B : decide (B < 0) = false := by simpa using h1B
    by_cases h2B : (len : Int) ≤ B
    · have d2B : decide ((len : Int) ≤ B) = true := by simpa using h2B
      go_wp2_with fail
      refine (extendBegun_any _).mono ?_
      rintro e w3 ⟨rfl, hb3⟩
      have HB3 : Hid (Below w.heap.size w w3) := Below.then HB2.out hb3
      clear hb3 HB2 K2 m0 m1
      go_wp2_with fail
      refine (numberIs_any 3 0 _ _ (.inl ⟨by decide, rfl⟩)).mono ?_
      rintro e w4 ⟨rfl, rfl⟩
      go_wp2_with fail
      go_ret
      exact ⟨rfl, HB3.out⟩
    have d2B : decide ((len : Int) ≤ B) = false := by simpa using h2B
    by_cases h1C : C < 0
    · have d1C : decide (C < 0) = true := by simpa using h1C
      go_wp2_with fail
      refine (extendBegun_any _).mono ?_
      rintro e w3 ⟨rfl, hb3⟩
      have HB3 : Hid (Below w.heap.size w w3) := Below.then HB2.out hb3
      clear hb3 HB2 K2 m0 m1
      go_wp2_with fail
      refine (numberIs_any 3 0 _ _ (.inl ⟨by decide, rfl⟩)).mono ?_
      rintro e w4 ⟨rfl, rfl⟩
      go_wp2_with fail
      go_ret
      exact ⟨rfl, HB3.out⟩
    have d1C : decide (C < 0) = false := by simpa using h1C
    by_cases h2C : (len : Int) ≤ C
    · have d2C : decide ((len : Int) ≤ C) = true := by simpa using h2C
      go_wp2_with fail
      refine (extendBegun_any _).mono ?_
      rintro e w3 ⟨rfl, hb3⟩
      have HB3 : Hid (Below w.heap.size w w3) := Below.then HB2.out hb3
      clear hb3 HB2 K2 m0 m1
      go_wp2_with fail
      refine (numberIs_any 3 0 _ _ (.inl ⟨by decide, rfl⟩)).mono ?_
      rintro e w4 ⟨rfl, rfl⟩
      go_wp2_with fail
      go_ret
      exact ⟨rfl, HB3.out⟩
    have d2C : decide ((len : Int) ≤ C) = false := by simpa using h2C
    exfalso
    have hok : (pnt A len && (pnt B len && pnt C len)) = true := by simp [pnt]; omega
    rw [hok] at hbad
    cases hbad
  · obtain ⟨rfl, h10, hrng, hord⟩ := hc.good
    have HS : Hid (Sm len len (nat f)) := hrng.small
    have ix : (x : Int) < (len : Int) := by omega
    have iy : (y : Int) < (len : Int) := by omega
    have iz : (z : Int) < (len : Int) := by omega
    go_wp2_with fail
    refine (checkOrder_any len a len cap f _ hl K1.row).mono ?_
    rintro e w2 ⟨⟨c', rfl, hc'⟩, hb2⟩
    obtain rfl := Chk.unique hc' hc
    have HB2 : Hid (Below w.heap.size w w2) := Below.then HB1.out hb2
    have K2 := K1.step hb2
    have m0 := K2.c0
    have m1 := K2.c1
    clear hb2 HB1 k0 k1 hc hc' K1
    by_cases hxy : x = y ∨ x = z
    · have HZ : Hid (ways (bth (nat f) x y z) len 0 = 0) := ways_bth_self h10 HS.out hx hy hz hxy
      rw [HZ.out]
      by_cases hq1 : x = y
      · have hq : ((x : Int) != (y : Int)) = false := by simp; omega
        clear hxy HZ hq1
        go_wp2_with fail
        refine (extendBegun_any _).mono ?_
        rintro e w3 ⟨rfl, hb3⟩
        have HB3 : Hid (Below w.heap.size w w3) := Below.then HB2.out hb3
        clear hb3 HB2 K2 m0 m1
        go_wp2_with fail
        refine (numberIs_any 0 0 0 _ (.inr ⟨rfl, rfl⟩)).mono ?_
        rintro e w4 ⟨rfl, rfl⟩
        go_wp2_with fail
        go_ret
        exact ⟨rfl, HB3.out⟩
      have hq : ((x : Int) != (y : Int)) = true := by simp; omega
      have hq2 : ((x : Int) != (z : Int)) = false := by simp; omega
      clear hxy HZ hq1
      go_wp2_with fail
      refine (extendBegun_any _).mono ?_
      rintro e w3 ⟨rfl, hb3⟩
      have HB3 : Hid (Below w.heap.size w w3) := Below.then HB2.out hb3
      clear hb3 HB2 K2 m0 m1
      go_wp2_with fail
      refine (numberIs_any 0 0 0 _ (.inr ⟨rfl, rfl⟩)).mono ?_
      rintro e w4 ⟨rfl, rfl⟩
      go_wp2_with fail
      go_ret
      exact ⟨rfl, HB3.out⟩
    · have hq : ((x : Int) != (y : Int)) = true := by simp; omega
      have hq2 : ((x : Int) != (z : Int)) = true := by simp; omega
      have HMB : Hid (∀ s i, s < pw len → i < len → may (bth (nat f) x y z) s i = (may (nat f) s i && !((decide (i = y) || decide (i = z)) && !s.testBit x))) := fun s i hs hi => may_bth h10 HS.out hx s i hs hi
      obtain ⟨U, HU⟩ : ∃ U, Hid (U = bth (nat f) x y z) := ⟨_, rfl⟩
      rw [← HU.out] at HMB ⊢
      clear hxy
      go_wp2_with fail
      refine (rowsAhead_any len a cap (nat f) U x y z _ h10 hx HMB.out HS.out (hrng.row K2.row)).mono ?_
      rintro e w5 ⟨rfl, hb5⟩
      have HB5 : Hid (Below w.heap.size w w5) := Below.then HB2.out hb5
      clear hb5 HB2 K2 m0 m1 HMB HU
      generalize ways U len 0 = M at *
      go_wp2_with fail
      refine (extendBegun_any _).mono ?_
      rintro e w3 ⟨rfl, hb3⟩
      have HB3 : Hid (Below w.heap.size w w3) := Below.then HB5.out hb3
      clear hb3 HB5
      go_wp2_with fail
      refine (numberIs_any 0 (M : Int) (M : Int) _ (.inr ⟨rfl, rfl⟩)).mono ?_
      rintro e w4 ⟨rfl, rfl⟩
      go_wp2_with fail
      go_ret
      exact ⟨rfl, HB3.out⟩
end Go.Proofs.Ytbgdjhfaegohpaa
