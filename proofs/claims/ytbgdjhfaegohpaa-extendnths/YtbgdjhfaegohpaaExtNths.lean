/-
  That hasselaw.ExtendNths answers true. No condition but that a slice reads as a slice of numbers.
-/
import Derived.Test.YtbgdjhfaegohpaaRefNth
namespace Go.Proofs.Ytbgdjhfaegohpaa
open Go.RowKit

/-- What hasselaw.numbersAre answers of two lists that are the same, or of an error and nothing. -/
theorem numsAre_any (c : Int) (a a' : Option Addr) (m ca ca' : Nat) (F : Nat → Int) (w : World) (hl : m ≤ maxLen) (h1 : (c ≠ 0 ∧ m = 0) ∨ (c = 0 ∧ Row w a m F ∧ Row w a' m F)) :
    Calls Try.prog 16 #[.slice a m ca, .int .i64 c, .int .i64 c, .slice a' m ca'] w fun e w' => e = .returned (.bool true) ∧ Below w.heap.size w w' := by
  rcases h1 with ⟨h0, rfl⟩ | ⟨rfl, hr, hr'⟩
  · have hne : (c != 0) = true := by simpa using h0
    go_enter Try.func16, Try.ntmps16
    go_wp2_with fail
    refine (same_any a none 0 ca 0 0 (fun _ => 0) (fun _ => 0) _ (by unfold maxLen; omega) (by unfold maxLen; omega) (fun k hk => absurd hk (Nat.not_lt_zero _)) (fun k hk => absurd hk (Nat.not_lt_zero _))).mono ?_
    rintro e w1 ⟨⟨q, rfl, hq⟩, hB⟩
    obtain rfl : q = true := hq.2 ⟨rfl, fun _ _ => rfl⟩
    have HB : Hid (Below w.heap.size w w1) := hB
    clear hq hB
    go_wp2_with fail
    go_ret
    exact ⟨rfl, HB.out⟩
  · have HA : Hid (Row w a m F) := hr
    have HB' : Hid (Row w a' m F) := hr'
    clear hr hr'
    go_enter Try.func16, Try.ntmps16
    go_wp2_with fail
    refine (same_any a a' m ca m ca' F F _ hl hl HA.out HB'.out).mono ?_
    rintro e w1 ⟨⟨q, rfl, hq⟩, hB⟩
    obtain rfl : q = true := hq.2 ⟨rfl, fun _ _ => rfl⟩
    have HB : Hid (Below w.heap.size w w1) := hB
    clear hq hB
    go_wp2_with fail
    go_ret
    exact ⟨rfl, HB.out⟩

set_option maxHeartbeats 1000000 in
theorem extendNths_any (n : Int) (a : Option Addr) (len cap : Nat) (f : Nat → Int) (K : Int) (w : World) (hl : len ≤ maxLen) (hr : Row w a len f) :
    Calls Try.prog 4 #[.agg #[.int .i64 n, .slice a len cap], .int .i64 K] w fun e w' => e = .returned (.bool true) ∧ Below w.heap.size w w' := by
  have K0 : Held (w.alloc (.cells #[.int .i64 n, .slice a len cap] 24)) w.heap.size n a len cap f := Held.box hr
  have HB0 : Hid (Below w.heap.size w (w.alloc (.cells #[.int .i64 n, .slice a len cap] 24))) := (Below.refl _ _).alloc (Nat.le_refl _) _
  clear hr
  go_enter Try.func4, Try.ntmps4
  go_wp2_with fail
  refine (nth_any n a len cap f K _ hl K0.row).mono ?_
  rintro e w1 ⟨⟨c, hc, he⟩, hb⟩
  have K1 := K0.step hb
  have k0 := K1.c0
  have k1 := K1.c1
  have HB1 : Hid (Below w.heap.size w w1) := Below.then HB0.out hb
  clear hb K0 HB0
  rcases he with ⟨h0, rfl⟩ | ⟨rfl, hno, rfl⟩ | ⟨rfl, k, rfl, hkw, a1, cap1, rfl, hrow⟩
  · have hne2 : (c == 0) = false := by simpa using h0
    go_wp2_with fail
    refine (checkOrder_any n a len cap f _ hl K1.row).mono ?_
    rintro e w2 ⟨⟨c', rfl, hc'⟩, hb2⟩
    obtain rfl := Chk.unique hc' hc
    have HB2 : Hid (Below w.heap.size w w2) := Below.then HB1.out hb2
    clear hb2 HB1 K1 k0 k1 hc hc'
    go_wp2_with fail
    refine (extendBegun_any _).mono ?_
    rintro e w3 ⟨rfl, hb3⟩
    have HB3 : Hid (Below w.heap.size w w3) := Below.then HB2.out hb3
    clear hb3 HB2
    go_wp2_with fail
    refine (numsAre_any c' none none 0 0 0 (fun _ => 0) _ (by unfold maxLen; omega) (.inl ⟨h0, rfl⟩)).mono ?_
    rintro e w4 ⟨rfl, hb4⟩
    have HB4 : Hid (Below w.heap.size w w4) := Below.then HB3.out hb4
    clear hb4 HB3
    go_wp2_with fail
    go_ret
    exact ⟨rfl, HB4.out⟩
  · obtain ⟨rfl, h10, hrng, hord⟩ := hc.good
    have HRW : Hid (Sm len len (nat f)) := hrng.small
    have hpi : (0 : Int) < ((pw len : Nat) : Int) := by have := pw_pos len; omega
    go_wp2_with fail
    refine (checkOrder_any len a len cap f _ hl K1.row).mono ?_
    rintro e w2 ⟨⟨c', rfl, hc'⟩, hb2⟩
    obtain rfl := Chk.unique hc' hc
    have HB2 : Hid (Below w.heap.size w w2) := Below.then HB1.out hb2
    have K2 := K1.step hb2
    have m0 := K2.c0
    have m1 := K2.c1
    clear hb2 HB1 k0 k1 hc hc' K1
    by_cases hK : K < 0
    · clear hno hrng hord K2
      go_wp2_with fail
      refine (extendBegun_any _).mono ?_
      rintro e w3 ⟨rfl, hb3⟩
      have HB3 : Hid (Below w.heap.size w w3) := Below.then HB2.out hb3
      clear hb3 HB2 m0 m1
      go_wp2_with fail
      refine (numsAre_any 3 none none 0 0 0 (fun _ => 0) _ (by unfold maxLen; omega) (.inl ⟨by omega, rfl⟩)).mono ?_
      rintro e w4 ⟨rfl, hb4⟩
      have HB4 : Hid (Below w.heap.size w w4) := Below.then HB3.out hb4
      clear hb4 HB3
      go_wp2_with fail
      go_ret
      exact ⟨rfl, HB4.out⟩
    · have hge : ((ways (nat f) len 0 : Nat) : Int) ≤ K := by
        rcases Decidable.em (K < (ways (nat f) len 0 : Nat)) with h | h
        · exact absurd ⟨by omega, h⟩ hno
        · omega
      have hK0 : 0 ≤ K := by omega
      clear hno
      go_wp2_with fail
      refine (refRows_any len a cap (nat f) _ h10 HRW.out (hrng.row K2.row)).mono ?_
      rintro e w3 ⟨⟨b, rfl, htab⟩, hb3⟩
      have HB3 : Hid (Below w.heap.size w w3) := Below.then HB2.out hb3
      have hv := htab 0 (pw_pos _) (Nat.le_refl _)
      clear hb3 HB2 K2 m0 m1 htab hrng hord
      generalize ways (nat f) len 0 = M at *
      go_wp2_with fail
      refine (extendBegun_any _).mono ?_
      rintro e w4 ⟨rfl, hb4⟩
      have HB4 : Hid (Below w.heap.size w w4) := Below.then HB3.out hb4
      clear hb4 HB3 hv
      go_wp2_with fail
      refine (numsAre_any 3 none none 0 0 0 (fun _ => 0) _ (by unfold maxLen; omega) (.inl ⟨by omega, rfl⟩)).mono ?_
      rintro e w5 ⟨rfl, hb5⟩
      have HB5 : Hid (Below w.heap.size w w5) := Below.then HB4.out hb5
      clear hb5 HB4
      go_wp2_with fail
      go_ret
      exact ⟨rfl, HB5.out⟩
  · obtain ⟨rfl, h10, hrng, hord⟩ := hc.good
    have HRW : Hid (Sm len len (nat f)) := hrng.small
    have HRO : Hid (Rng len f) := hrng
    have hpi : (0 : Int) < ((pw len : Nat) : Int) := by have := pw_pos len; omega
    have HP : Hid (Row w1 a1 len (fun j => (nP (nat f) len k j : Nat))) := hrow
    have HKW : Hid (k < ways (nat f) len 0) := hkw
    clear hrow hrng hord
    go_wp2_with fail
    refine (checkOrder_any len a len cap f _ hl K1.row).mono ?_
    rintro e w2 ⟨⟨c', rfl, hc'⟩, hb2⟩
    obtain rfl := Chk.unique hc' hc
    have HB2 : Hid (Below w.heap.size w w2) := Below.then HB1.out hb2
    have HP2 : Hid (Row w2 a1 len (fun j => (nP (nat f) len k j : Nat))) := HP.out.below hb2
    have K2 := K1.step hb2
    have m0 := K2.c0
    have m1 := K2.c1
    clear hb2 HB1 k0 k1 hc hc' K1 HP
    have hge : (k : Int) < ((ways (nat f) len 0 : Nat) : Int) := by omega
    clear hkw
    go_wp2_with fail
    refine (refRows_any len a cap (nat f) _ h10 HRW.out (HRO.out.row K2.row)).mono ?_
    rintro e w3 ⟨⟨b, rfl, htab⟩, hb3⟩
    have HB3 : Hid (Below w.heap.size w w3) := Below.then HB2.out hb3
    have HP3 : Hid (Row w3 a1 len (fun j => (nP (nat f) len k j : Nat))) := HP2.out.below hb3
    have hv := htab 0 (pw_pos _) (Nat.le_refl _)
    have K3 := K2.step hb3
    clear hb3 HB2 K2 m0 m1 htab HP2
    have m0 := K3.c0
    have m1 := K3.c1
    obtain ⟨M, HM⟩ : ∃ M, Hid (M = ways (nat f) len 0) := ⟨_, rfl⟩
    rw [← HM.out] at hv hge
    go_wp2_with fail
    refine (refNth_any len a cap (nat f) k _ h10 HRW.out (HRO.out.row K3.row) HKW.out).mono ?_
    rintro e w4 ⟨⟨a4, cap4, rfl, hrow4⟩, hb4⟩
    have HB4 : Hid (Below w.heap.size w w4) := Below.then HB3.out hb4
    have HP4 : Hid (Row w4 a1 len (fun j => (nP (nat f) len k j : Nat))) := HP3.out.below hb4
    have HQ4 : Hid (Row w4 a4 len (fun j => (nP (nat f) len k j : Nat))) := hrow4
    clear hb4 HB3 K3 m0 m1 HP3 hrow4 hv hge
    go_wp2_with fail
    refine (extendBegun_any _).mono ?_
    rintro e w5 ⟨rfl, hb5⟩
    have HB5 : Hid (Below w.heap.size w w5) := Below.then HB4.out hb5
    have HP5 : Hid (Row w5 a1 len (fun j => (nP (nat f) len k j : Nat))) := HP4.out.below hb5
    have HQ5 : Hid (Row w5 a4 len (fun j => (nP (nat f) len k j : Nat))) := HQ4.out.below hb5
    clear hb5 HB4 HP4 HQ4
    go_wp2_with fail
    refine (numsAre_any 0 a1 a4 len cap1 cap4 _ _ hl (.inr ⟨rfl, HP5.out, HQ5.out⟩)).mono ?_
    rintro e w6 ⟨rfl, hb6⟩
    have HB6 : Hid (Below w.heap.size w w6) := Below.then HB5.out hb6
    clear hb6 HB5
    go_wp2_with fail
    go_ret
    exact ⟨rfl, HB6.out⟩
end Go.Proofs.Ytbgdjhfaegohpaa
