/-
  That hasselaw.ExtendTurns answers true. No condition but that a slice reads as a slice of numbers, and a number is one of 64 bits.
-/
import Derived.Test.YtbgdjhfaegohpaaRefRank
import Derived.Test.YtbgdjhfaegohpaaTurnsM
import Derived.BigQuiet
namespace Go.Proofs.Ytbgdjhfaegohpaa
open Go.RowKit

theorem choose_any (c : Int) (n : Nat) (w : World) (hn : 0 < n) (hn2 : n ≤ 10000000000) (h1 : -9223372036854775808 ≤ c) (h2 : c ≤ 9223372036854775807) :
    Calls Try.prog 23 #[.int .i64 c, .int .i64 (n : Nat)] w fun e w' => (∃ k : Nat, k < n ∧ e = .returned (.int .i64 (k : Nat))) ∧ w = w' := by
  have hz : ((n : Nat) : Int) ≠ 0 := by omega
  by_cases hc : c < 0
  · have HQ : Hid (∃ k : Nat, k < n ∧ -(c + 1).tmod n = (k : Nat)) := by
      have e : -(c + 1).tmod n = (-(c + 1)) % n := by rw [← Int.neg_tmod, Int.tmod_eq_emod_of_nonneg (by omega)]
      have g1 := Int.emod_nonneg (-(c + 1)) hz
      have g2 := Int.emod_lt_of_pos (-(c + 1)) (show (0 : Int) < n by omega)
      exact ⟨((-(c + 1)) % n).toNat, by omega, by omega⟩
    go_enter Try.func23, Try.ntmps23
    go_wp2_with fail
    go_ret
    obtain ⟨k, h3, h4⟩ := HQ.out
    exact ⟨⟨k, h3, ret_int h4⟩, rfl⟩
  · have HQ : Hid (∃ k : Nat, k < n ∧ c % n = (k : Nat)) := by
      have g1 := Int.emod_nonneg c hz
      have g2 := Int.emod_lt_of_pos c (show (0 : Int) < n by omega)
      exact ⟨(c % n).toNat, by omega, by omega⟩
    go_enter Try.func23, Try.ntmps23
    go_wp2_with fail
    go_ret
    obtain ⟨k, h3, h4⟩ := HQ.out
    exact ⟨⟨k, h3, ret_int h4⟩, rfl⟩

set_option maxHeartbeats 1000000 in
theorem before_any (a b : Option Addr) (m ca cb : Nat) (f g : Nat → Int) (t : Nat) (w : World) (hl : m ≤ 10) (ha : Row w a m f) (hb : Row w b m g) (ht : t < m) (he : ∀ j, j < t → f j = g j) (hlt : f t < g t) :
    Calls Try.prog 24 #[.slice a m ca, .slice b m cb] w fun e w' => e = .returned (.bool true) ∧ Below w.heap.size w w' := by
  have HA : Hid (Row w a m f) := ha
  have HB : Hid (Row w b m g) := hb
  have HE : Hid (∀ j, j < t → f j = g j) := he
  clear ha hb he
  go_enter Try.func24, Try.ntmps24
  go_wp2_with fail
  go_loopw [5] (fun x wx => ∃ k : Nat, k ≤ t ∧ x = .int .i64 k ∧ Hid (Below w.heap.size w wx)) (fun x _ => t - (intOf x).toNat)
  case atStart => exact ⟨0, Nat.zero_le _, rfl, Below.refl _ _⟩
  case round =>
    obtain ⟨k, hk, rfl, hW⟩ := hrel
    have hkm : k < m := by omega
    obtain ⟨b1, o1, rfl, hc1⟩ := (HA.out.below hW.out).at hkm
    obtain ⟨b2, o2, rfl, hc2⟩ := (HB.out.below hW.out).at hkm
    have d1 := hc1 k hkm
    have d2 := hc2 k hkm
    clear hc1 hc2
    have hkm' : (k : Int) < (m : Int) := by omega
    by_cases hkt : k < t
    · have hne : (f k != g k) = false := by simpa using HE.out k hkt
      go_wp2_with fail
      go_quiet (fail)
      go_wp2_with fail
      go_roundw
      case rel => exact ⟨k + 1, by omega, by go_num, below_drewN hW.out _⟩
      case measure => simp [intOf]; omega
    · have hkt2 : k = t := by omega
      subst hkt2
      have hne : (f k != g k) = true := by simp; omega
      go_wp2_with fail
      go_quiet (fail)
      go_wp2_with fail
      go_quiet (fail)
      go_wp2_with fail
      go_ret
      exact ⟨rfl, below_drewN (below_drewN hW.out _) _⟩

set_option maxHeartbeats 1000000 in
theorem extendTurns_any (n : Int) (a : Option Addr) (len cap : Nat) (f : Nat → Int) (K : Int) (w : World) (hl : len ≤ maxLen) (hK1 : -9223372036854775808 ≤ K) (hK2 : K ≤ 9223372036854775807) (hr : Row w a len f) :
    Calls Try.prog 8 #[.agg #[.int .i64 n, .slice a len cap], .int .i64 K] w fun e w' => e = .returned (.bool true) ∧ Below w.heap.size w w' := by
  have K0 : Held (w.alloc (.cells #[.int .i64 n, .slice a len cap] 24)) w.heap.size n a len cap f := Held.box hr
  have HB0 : Hid (Below w.heap.size w (w.alloc (.cells #[.int .i64 n, .slice a len cap] 24))) := (Below.refl _ _).alloc (Nat.le_refl _) _
  clear hr
  go_enter Try.func8, Try.ntmps8
  go_wp2_with fail
  refine (extendBegun_any _).mono ?_
  rintro e w1 ⟨rfl, hb⟩
  have K1 := K0.step hb
  have HB1 : Hid (Below w.heap.size w w1) := Below.then HB0.out hb
  clear hb K0 HB0
  have k0 := K1.c0
  have k1 := K1.c1
  go_wp2_with fail
  refine (count_any n a len cap f _ hl K1.row).mono ?_
  rintro e w2 ⟨⟨c, hc, he⟩, hb⟩
  have K2 := K1.step hb
  have HB2 : Hid (Below w.heap.size w w2) := Below.then HB1.out hb
  clear hb K1 HB1 k0 k1
  rcases he with ⟨h0, rfl⟩ | ⟨rfl, rfl⟩
  · have hne : (c != 0) = true := by simpa using h0
    clear hc K2
    go_wp2_with fail
    go_ret
    exact ⟨rfl, HB2.out⟩
  · obtain ⟨rfl, h10, hrng, hord⟩ := hc.good
    have HRW : Hid (Sm len len (nat f)) := hrng.small
    have HC : Hid (Chk (len : Int) len f 0) := hc
    have HRG : Hid (Rng len f) := hrng
    have hsome := ways_some h10 hrng.small hord
    have hws := ways_small (u := nat f) h10 (pw_pos len)
    obtain ⟨M, HM⟩ : ∃ M, Hid (M = ways (nat f) len 0) := ⟨_, rfl⟩
    rw [← HM.out] at hsome hws ⊢
    have hM1 : (1 : Int) ≤ (M : Int) := by omega
    clear hrng hord hc
    have k0 := K2.c0
    have k1 := K2.c1
    go_wp2_with (go_at_call 23; refine (choose_any K M _ hsome hws hK1 hK2).mono ?_; rintro e w' ⟨⟨k, hkM, rfl⟩, rfl⟩)
    have hkw : k < ways (nat f) len 0 := by rw [← HM.out]; exact hkM
    have HKW : Hid (k < ways (nat f) len 0) := hkw
    refine (nth_any len a len cap f (k : Nat) _ hl K2.row).mono ?_
    rintro e w3 ⟨⟨c, hc, he⟩, hb⟩
    obtain rfl := Chk.unique hc HC.out
    have K3 := K2.step hb
    have HB3 : Hid (Below w.heap.size w w3) := Below.then HB2.out hb
    clear hb K2 HB2 k0 k1 hc
    rcases he with ⟨h0, _⟩ | ⟨_, hno, _⟩ | ⟨_, k', hkk, _, a1, cap1, rfl, hrow⟩
    · exact absurd rfl h0
    · exact absurd ⟨by omega, by omega⟩ hno
    obtain rfl : k = k' := by omega
    have HP : Hid (Row w3 a1 len (fun j => (nP (nat f) len k j : Nat))) := hrow
    clear hrow hkk hkw
    have k0 := K3.c0
    have k1 := K3.c1
    go_wp2_with fail
    refine (rank_any len a len cap f a1 len cap1 (fun j => (nP (nat f) len k j : Nat)) _ hl hl K3.row HP.out).mono ?_
    rintro e w4 ⟨⟨c, hc, he⟩, hb⟩
    obtain rfl := Chk.unique hc HC.out
    have K4 := K3.step hb
    have HB4 : Hid (Below w.heap.size w w4) := Below.then HB3.out hb
    have HP4 : Hid (Row w4 a1 len (fun j => (nP (nat f) len k j : Nat))) := HP.out.below hb
    clear hb K3 HB3 k0 k1 hc HP
    rcases he with ⟨h0, _⟩ | ⟨_, hno, _⟩ | ⟨_, hyes, rfl⟩
    · exact absurd rfl h0
    · exact absurd (nth_isRw HKW.out) hno
    rw [nat_cast, rk_nth HKW.out]
    have HY : Hid (IsRw (nat f) len len (fun j => (nP (nat f) len k j : Nat))) := hyes
    clear hyes
    have k0 := K4.c0
    have k1 := K4.c1
    go_wp2_with fail
    refine (isRow_any len a cap (nat f) a1 len cap1 (fun j => (nP (nat f) len k j : Nat)) _ h10 HRW.out hl (HRG.out.row K4.row) HP4.out).mono ?_
    rintro e w5 ⟨⟨v, rfl, hv⟩, hb⟩
    obtain rfl : v = true := hv.2 HY.out
    have K5 := K4.step hb
    have HB5 : Hid (Below w.heap.size w w5) := Below.then HB4.out hb
    have HP5 : Hid (Row w5 a1 len (fun j => (nP (nat f) len k j : Nat))) := HP4.out.below hb
    clear hb K4 HB4 k0 k1 hv HP4 HY
    have k0 := K5.c0
    have k1 := K5.c1
    go_wp2_with fail
    refine (nth_any len a len cap f ((k : Int) + 1) _ hl K5.row).mono ?_
    rintro e w6 ⟨⟨c, hc, he⟩, hb⟩
    obtain rfl := Chk.unique hc HC.out
    have HB6 : Hid (Below w.heap.size w w6) := Below.then HB5.out hb
    have HP6 : Hid (Row w6 a1 len (fun j => (nP (nat f) len k j : Nat))) := HP5.out.below hb
    clear hb K5 HB5 k0 k1 hc HP5
    rcases he with ⟨h0, _⟩ | ⟨_, hno, rfl⟩ | ⟨_, k', hkk, hkw, a2, cap2, rfl, hrow⟩
    · exact absurd rfl h0
    · have hlast : ((k : Int) == (M : Int) - 1) = true := by
        rw [← HM.out] at hno
        have : (k : Int) = (M : Int) - 1 := by
          rcases Decidable.em ((k : Int) + 1 < (M : Int)) with h | h
          · exact absurd ⟨by omega, h⟩ hno
          · omega
        simpa using this
      clear hno HP6
      go_wp2_with fail
      go_ret
      exact ⟨rfl, HB6.out⟩
    · obtain rfl : k' = k + 1 := by omega
      have HQ : Hid (Row w6 a2 len (fun j => (nP (nat f) len (k + 1) j : Nat))) := hrow
      obtain ⟨t, ht1, ht2, ht3⟩ := nth_rise (show k < k + 1 by omega) hkw
      have HT2 : Hid (∀ j, j < t → nP (nat f) len k j = nP (nat f) len (k + 1) j) := ht2
      have HT3 : Hid (nP (nat f) len k t < nP (nat f) len (k + 1) t) := ht3
      clear hrow hkk hkw ht2 ht3
      go_wp2_with fail
      refine (before_any a1 a2 len cap1 cap2 (fun j => (nP (nat f) len k j : Nat)) (fun j => (nP (nat f) len (k + 1) j : Nat)) t _ h10 HP6.out HQ.out ht1 (fun j hj => congrArg (fun x : Nat => (x : Int)) (HT2.out j hj)) (Int.ofNat_lt.2 HT3.out)).mono ?_
      rintro e w7 ⟨rfl, hb⟩
      have HB7 : Hid (Below w.heap.size w w7) := Below.then HB6.out hb
      clear hb HB6 HP6 HQ
      go_wp2_with fail
      go_ret
      exact ⟨rfl, HB7.out⟩
end Go.Proofs.Ytbgdjhfaegohpaa
