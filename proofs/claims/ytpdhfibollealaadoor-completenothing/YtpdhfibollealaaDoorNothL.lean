/-
  hasselaw.CompleteNothing returns true for every order. Conditions: the library's table lies in its variable; a slice reads as a slice of numbers.
-/
import Derived.Test.YtpdhfibollealaaDoorNothM
import Derived.Test.YtpdhfibollealaaDoorFillP
import Derived.Test.YtpdhfibollealaaDoorCBegun
namespace Go.Proofs.YtpdhfibollealaaDoor
open Go.RowKit

theorem FillIs.two {n : Int} {len : Nat} {f : Nat → Int} {B : Nat} {e : Ending} {w : World} (h : FillIs n len f B e w) : (∃ c : Int, (c ≠ 0 ∧ ¬ (Chk n len f 0 ∧ (cuts (nat f) len).length ≤ 40)) ∧ e = .returned (.tuple #[noLat, .slice none 0 0, .int .i64 c])) ∨
    ((Chk n len f 0 ∧ (cuts (nat f) len).length ≤ 40) ∧ ∃ a b p la ca lb cb lp cp, e = .returned (.tuple #[.agg #[.int .i64 ((cuts (nat f) len).length : Int), .slice a la ca, .slice b lb cb], .slice p lp cp, .int .i64 0])) := by
  rcases h with ⟨c, hc, rfl⟩ | ⟨hc, T1, T2, R1, R2, pb, rfl, _⟩
  · refine .inl ⟨c, ?_, rfl⟩
    rcases hc with ⟨h0, hc⟩ | ⟨rfl, hc, hq⟩
    · exact ⟨h0, fun h => h0 (hc.unique h.1)⟩
    · exact ⟨by decide, fun h => by omega⟩
  · exact .inr ⟨hc, _, _, _, _, _, _, _, _, _, rfl⟩
theorem TabPost.two {n : Int} {len : Nat} {f : Nat → Int} {e : Ending} {w : World} (h : TabPost n len f e w) (hc : Chk n len f 0) : ∃ (ok : Bool) (vk : Int) (a b : Option Addr) (la ca lb cb : Nat), (ok = true ↔ (1 ≤ len ∧ AllMt (nat f) len ∧ AllMt (trn (nat f) len) len)) ∧ e = .returned (.tuple #[.agg #[.int .i64 vk, .slice a la ca, .slice b lb cb], .bool ok, .int .i64 0]) := by
  obtain ⟨c, x, ok, hc2, rfl, hx⟩ := h
  obtain rfl := hc2.unique hc
  rcases hx with ⟨h0, _⟩ | ⟨_, ⟨rfl, rfl, hno⟩ | ⟨rfl, hyes, b, cb, R, b', cb', R', rfl, _⟩⟩
  · exact absurd rfl h0
  · exact ⟨false, 0, none, none, 0, 0, 0, 0, ⟨fun h => (by cases h), fun h => absurd h hno⟩, rfl⟩
  · exact ⟨true, _, _, _, _, _, _, _, ⟨fun _ => hyes, fun _ => rfl⟩, rfl⟩

set_option maxRecDepth 20000 in
set_option maxHeartbeats 4000000 in
theorem completeNothing_any (n : Int) (a : Option Addr) (len cap : Nat) (f : Nat → Int) (w : World) (hl : len ≤ maxLen) (hr : Row w a len f) (hT : Tab w) :
    Calls Tryd.prog 3 #[.agg #[.int .i64 n, .slice a len cap]] w fun e w' => e = .returned (.bool true) ∧ Below w.heap.size w w' := by
  have K0 : Held (w.alloc (.cells #[.int .i64 n, .slice a len cap] 24)) w.heap.size n a len cap f := Held.box hr
  have HB0 : Hid (Below w.heap.size w (w.alloc (.cells #[.int .i64 n, .slice a len cap] 24))) := (Below.refl _ _).alloc (Nat.le_refl _) _
  have HT : Hid (Tab w) := hT
  clear hr hT
  go_enter Tryd.func3, Tryd.ntmps3
  go_wp2_with fail
  refine (completeBegun_any _).mono ?_
  rintro e w0 ⟨rfl, hb0⟩
  have K1 := K0.step hb0
  have HB1 : Hid (Below w.heap.size w w0) := Below.then HB0.out hb0
  have k0 := K1.c0
  have k1 := K1.c1
  clear hb0 K0 HB0
  go_wp2_with fail
  refine (fill_any n a len cap f _ hl K1.row).mono ?_
  rintro e w1 ⟨hF, hb1⟩
  have HB2 : Hid (Below w.heap.size w w1) := Below.then HB1.out hb1
  rcases hF.two with ⟨c, ⟨h0, _⟩, rfl⟩ | ⟨⟨hc, hq40⟩, A1, A2, A3, l1, c1, l2, c2, l3', c3, rfl⟩
  · have hne : (c != 0) = true := by simpa using h0
    have HB3 := (HB2.out.alloc HB2.out.size (.cells #[.int .i64 0, .slice none 0 0, .slice none 0 0] 28))
    unfold noLat
    clear hF hb1 K1 HB1 k0 k1
    go_wp2_with fail
    go_ret
    exact ⟨rfl, HB3⟩
  obtain ⟨rfl, h10, hrng, hord⟩ := hc.good
  have HG : Hid (∀ k, k < len → nat f k < pw len) := fun k hk => by have := hrng k hk; unfold nat; omega
  have HIFF : Hid ((1 ≤ len ∧ AllMt (nat f) len ∧ AllMt (trn (nat f) len) len) ↔ ((cuts (nat f) len).length = len ∧ 0 < len)) := nothing_iff h10 HG.out hord
  have HTURN : Hid ((cuts (trn (nat f) len) len).length = (cuts (nat f) len).length) := cuts_turn HG.out
  have HCHK : Hid (Chk (len : Int) len f 0) := hc
  have HTCHK : Hid (Chk (len : Int) len (fun k => ((trn (nat f) len k : Nat) : Int)) 0) := trn_chk h10 HG.out hord
  obtain ⟨q, HQ⟩ : ∃ q, Hid (q = (cuts (nat f) len).length) := ⟨_, rfl⟩
  rw [← HQ.out] at hq40 HIFF HTURN ⊢
  obtain ⟨w2, HW2⟩ : ∃ w2, Hid (w2 = w1.alloc (.cells #[.int .i64 (q : Int), .slice A1 l1 c1, .slice A2 l2 c2] 28)) := ⟨_, rfl⟩
  have hb2 : Below w1.heap.size w1 w2 := by rw [HW2.out]; exact (Below.refl _ _).alloc (Nat.le_refl _) _
  have X2 : LB w2 w1.heap.size (q : Int) A1 l1 c1 A2 l2 c2 := by rw [HW2.out]; exact LB.new _ _ _ _ _ _ _ _
  have K2 := (K1.step hb1).step hb2
  have HB3 : Hid (Below w.heap.size w w2) := Below.then HB2.out hb2
  have K2e := K2
  rw [HW2.out] at K2e
  have m0 := K2e.c0
  have m1 := K2e.c1
  clear hF hb1 hb2 K1 HB1 HB2 k0 k1 hrng hord hc
  go_wp2_with fail
  rw [← HW2.out]
  clear HW2 K2e m0 m1
  refine (tables2_any len a len cap f _ hl K2.row (HT.out.step HB3.out)).mono ?_
  rintro e w3 ⟨hP, hb3⟩
  obtain ⟨ok, vk, B1, B2, d1, e1, d2, e2, hok, rfl⟩ := hP.two HCHK.out
  obtain ⟨w4, HW4⟩ : ∃ w4, Hid (w4 = w3.alloc (.cells #[.int .i64 vk, .slice B1 d1 e1, .slice B2 d2 e2] 28)) := ⟨_, rfl⟩
  have hb4 : Below w3.heap.size w3 w4 := by rw [HW4.out]; exact (Below.refl _ _).alloc (Nat.le_refl _) _
  have hb34 := Below.then hb3 hb4
  have X4 := X2.step hb34
  have K4 := K2.step hb34
  have HB4 : Hid (Below w.heap.size w w4) := Below.then HB3.out hb34
  have HFIN : Hid ((ok == (((q : Int) == (len : Int)) && decide ((0 : Int) < (len : Int)))) = true) := by
    have h2 := hok.trans HIFF.out
    rw [Hid, beq_iff_eq, Bool.eq_iff_iff, h2]
    simp; omega
  have K4e := K4
  rw [HW4.out] at K4e
  have m0 := K4e.c0
  have m1 := K4e.c1
  clear hP hb3 hb4 hb34 X2 K2 HB3 hok
  go_wp2_with fail
  rw [← HW4.out]
  clear HW4 K4e m0 m1
  refine (dual_any len a len cap f _ hl K4.row).mono ?_
  rintro e w5 ⟨hD, hb5⟩
  obtain ⟨c5, x5, hc5, rfl, hx5⟩ := hD
  obtain rfl := hc5.unique HCHK.out
  obtain ⟨da, dcap, rfl, hr5⟩ : ∃ da dcap, x5 = .agg #[.int .i64 (len : Int), .slice da len dcap] ∧ Row w5 da len (fun k => (trn (nat f) len k : Nat)) := by
    rcases hx5 with ⟨h, _⟩ | ⟨_, h⟩
    · exact absurd rfl h
    · exact h
  obtain ⟨w6, HW6⟩ : ∃ w6, Hid (w6 = w5.alloc (.cells #[.int .i64 (len : Int), .slice da len dcap] 24)) := ⟨_, rfl⟩
  have hb6 : Below w5.heap.size w5 w6 := by rw [HW6.out]; exact (Below.refl _ _).alloc (Nat.le_refl _) _
  have hb56 := Below.then hb5 hb6
  have X6 := X4.step hb56
  have K6 := K4.step hb56
  have HB6 : Hid (Below w.heap.size w w6) := Below.then HB4.out hb56
  have HR6 : Hid (Row w6 da len (fun k => (trn (nat f) len k : Nat))) := hr5.below hb6
  have D6 : Box w6 w5.heap.size (len : Int) da len dcap := by rw [HW6.out]; exact Box.new _ _ _ _ _
  have D6e := D6
  rw [HW6.out] at D6e
  have m0 := D6e.1
  have m1 := D6e.2
  clear hc5 hx5 hr5 hb5 hb6 hb56 X4 K4 HB4 D6
  go_wp2_with fail
  rw [← HW6.out]
  clear HW6 D6e m0 m1
  refine (fill_any len da len dcap _ _ hl HR6.out).mono ?_
  rintro e w7 ⟨hF, hb7⟩
  rcases hF.two with ⟨c, ⟨_, hno⟩, rfl⟩ | ⟨_, E1, E2, E3, m1, r1, m2, r2, m3, r3, rfl⟩
  · exact absurd ⟨HTCHK.out, by rw [nat_cast, HTURN.out]; exact hq40⟩ hno
  rw [nat_cast, HTURN.out]
  obtain ⟨w8, HW8⟩ : ∃ w8, Hid (w8 = w7.alloc (.cells #[.int .i64 (q : Int), .slice E1 m1 r1, .slice E2 m2 r2] 28)) := ⟨_, rfl⟩
  have hb8 : Below w7.heap.size w7 w8 := by rw [HW8.out]; exact (Below.refl _ _).alloc (Nat.le_refl _) _
  have hb78 := Below.then hb7 hb8
  have X8 := X6.step hb78
  have K8 := K6.step hb78
  have Y8 : LB w8 w7.heap.size (q : Int) E1 m1 r1 E2 m2 r2 := by rw [HW8.out]; exact LB.new _ _ _ _ _ _ _ _
  have HB8 : Hid (Below w.heap.size w w8) := Below.then HB6.out hb78
  rw [HW8.out] at X8 K8 Y8 HB8
  have x0 := X8.1
  have y0 := Y8.1
  have k0 := K8.c0
  clear hF hb7 hb8 hb78 X6 K6 HB6 HR6 X8 K8 Y8 HW8
  by_cases hql : q = len
  · obtain rfl := hql.symm
    have hq' : ((len : Int) == (len : Int)) = true := by simp
    by_cases hz : len = 0
    · have hp : ¬ ((0 : Int) < (len : Int)) := by omega
      have hd : decide (0 < len) = false := by simp; omega
      have HF := HFIN.out
      rw [hq', decide_eq_false hp] at HF
      obtain rfl : ok = false := by simpa using HF
      clear HFIN HF hq' hp hz
      go_wp2_with fail
      go_ret
      exact ⟨rfl, HB8.out⟩
    · have hp : (0 : Int) < (len : Int) := by omega
      have hd : decide (0 < len) = true := by simp; omega
      have HF := HFIN.out
      rw [hq', decide_eq_true hp] at HF
      obtain rfl : ok = true := by simpa using HF
      clear HFIN HF hq' hp hz
      go_wp2_with fail
      go_ret
      exact ⟨rfl, HB8.out⟩
  · have hq' : ((q : Int) == (len : Int)) = false := by simp; omega
    have HF := HFIN.out
    rw [hq', Bool.false_and] at HF
    obtain rfl : ok = false := by simpa using HF
    clear HFIN HF
    go_wp2_with fail
    go_ret
    exact ⟨rfl, HB8.out⟩
end Go.Proofs.YtpdhfibollealaaDoor
