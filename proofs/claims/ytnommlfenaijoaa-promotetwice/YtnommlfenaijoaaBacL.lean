/-
  For every order and list that are handed in, hasselaw.PromoteBack and PromoteTwice return true, and nothing that was there is written. No condition.
-/
import Derived.Test.YtnommlfenaijoaaPBeg
namespace Go.Proofs.Ytnommlfenaijoaa
set_option maxRecDepth 100000
open Go.RowKit

/-- A row of numbers, as numbers that may be negative. -/
def ofN (R : Nat → Nat) (k : Nat) : Int := ((R k : Nat) : Int)
theorem nat_ofN (R : Nat → Nat) : nat (ofN R) = R := by funext k; simp [nat, ofN]
theorem rkc_ok {n : Nat} {f : Nat → Int} {R : Nat → Nat} (hck : Chk n n f 0) (hR : Rw (nat f) n R) : RkC n n f n (ofN R) 0 := by
  obtain ⟨_, h10, hrng, _⟩ := hck.good
  exact .inr ⟨hck, .inr ⟨rfl, rfl, rw_to h10 hrng.small (fun j _ => by unfold ofN; omega) (by rw [nat_ofN]; exact hR)⟩⟩
theorem isRow_ok (n : Nat) (ao : Option Addr) (co : Nat) (f : Nat → Int) (ar : Option Addr) (cr : Nat) (R : Nat → Nat) (w : World) (hck : Chk n n f 0) (hR : Rw (nat f) n R) (ho : Row w ao n f) (hr : Row w ar n (fun k => ((R k : Nat) : Int))) :
    Calls Try.prog 20 #[.agg #[.int .i64 (n : Int), .slice ao n co], .slice ar n cr] w fun e w' => e = .returned (.bool true) ∧ Below w.heap.size w w' := by
  obtain ⟨_, h10, hrng, _⟩ := hck.good
  refine (isRow_any n ao co (nat f) ar n cr (ofN R) w h10 hrng.small (by unfold maxLen; omega) (hrng.row ho) hr).mono ?_
  rintro e w' ⟨⟨v, rfl, hv⟩, hb⟩
  exact ⟨by rw [hv.2 (rkc_ok hck hR).good.2], hb⟩
theorem same_ok (a b : Option Addr) (n ca cb : Nat) (f g : Nat → Int) (w : World) (hl : n ≤ 10) (ha : Row w a n f) (hb : Row w b n g) (h : ∀ k, k < n → f k = g k) :
    Calls Try.prog 19 #[.slice a n ca, .slice b n cb] w fun e w' => e = .returned (.bool true) ∧ Below w.heap.size w w' := by
  refine (same_any a b n ca n cb f g w (by unfold maxLen; omega) (by unfold maxLen; omega) ha hb).mono ?_
  rintro e w' ⟨⟨v, rfl, hv⟩, hb'⟩
  exact ⟨by rw [hv.2 ⟨rfl, h⟩], hb'⟩
theorem promote_ok (n : Nat) (ao : Option Addr) (co : Nat) (f : Nat → Int) (ar : Option Addr) (cr : Nat) (R : Nat → Nat) (w : World) (hck : Chk n n f 0) (hR : Rw (nat f) n R) (ho : Row w ao n f) (hr : Row w ar n (fun k => ((R k : Nat) : Int))) :
    Calls Try.prog 9 #[.agg #[.int .i64 (n : Int), .slice ao n co], .slice ar n cr] w fun e w' => (∃ a cap, e = .returned (.tuple #[.slice a n cap, .int .i64 0]) ∧ Row w' a n (fun k => ((up (nat f) (n - 1) R k : Nat) : Int))) ∧ Below w.heap.size w w' := by
  have h10 := hck.good.2.1
  refine (promote_any n ao n co f ar n cr (ofN R) w (by unfold maxLen; omega) (by unfold maxLen; omega) ho hr).mono ?_
  rintro e w' ⟨⟨c, v, rfl, hc, hv⟩, hb⟩
  obtain rfl : c = 0 := hc.one (rkc_ok hck hR)
  rcases hv with ⟨h, _⟩ | ⟨_, a, cap, rfl, hr'⟩
  · exact absurd rfl h
  · rw [nat_ofN] at hr'
    exact ⟨⟨a, cap, rfl, hr'⟩, hb⟩
theorem demote_ok (n : Nat) (ao : Option Addr) (co : Nat) (f : Nat → Int) (ar : Option Addr) (cr : Nat) (R : Nat → Nat) (w : World) (hck : Chk n n f 0) (hR : Rw (nat f) n R) (ho : Row w ao n f) (hr : Row w ar n (fun k => ((R k : Nat) : Int))) :
    Calls Try.prog 14 #[.agg #[.int .i64 (n : Int), .slice ao n co], .slice ar n cr] w fun e w' => (∃ a cap, e = .returned (.tuple #[.slice a n cap, .int .i64 0]) ∧ Row w' a n (fun k => ((dn (nat f) (n - 1) R k : Nat) : Int))) ∧ Below w.heap.size w w' := by
  have h10 := hck.good.2.1
  refine (demote_any n ao n co f ar n cr (ofN R) w (by unfold maxLen; omega) (by unfold maxLen; omega) ho hr).mono ?_
  rintro e w' ⟨⟨c, v, rfl, hc, hv⟩, hb⟩
  obtain rfl : c = 0 := hc.one (rkc_ok hck hR)
  rcases hv with ⟨h, _⟩ | ⟨_, a, cap, rfl, hr'⟩
  · exact absurd rfl h
  · rw [nat_ofN] at hr'
    exact ⟨⟨a, cap, rfl, hr'⟩, hb⟩
theorem evacuate_ok (n : Nat) (ao : Option Addr) (co : Nat) (f : Nat → Int) (ar : Option Addr) (cr : Nat) (R : Nat → Nat) (w : World) (hck : Chk n n f 0) (hR : Rw (nat f) n R) (ho : Row w ao n f) (hr : Row w ar n (fun k => ((R k : Nat) : Int))) :
    Calls Try.prog 16 #[.agg #[.int .i64 (n : Int), .slice ao n co], .slice ar n cr] w fun e w' => (∃ a cap, e = .returned (.tuple #[.slice a n cap, .int .i64 0]) ∧ Row w' a n (fun k => ((ev (nat f) (n - 1) R k : Nat) : Int))) ∧ Below w.heap.size w w' := by
  have h10 := hck.good.2.1
  refine (evacuate_any n ao n co f ar n cr (ofN R) w (by unfold maxLen; omega) (by unfold maxLen; omega) ho hr).mono ?_
  rintro e w' ⟨⟨c, v, rfl, hc, hv⟩, hb⟩
  obtain rfl : c = 0 := hc.one (rkc_ok hck hR)
  rcases hv with ⟨h, _⟩ | ⟨_, a, cap, rfl, hr'⟩
  · exact absurd rfl h
  · rw [nat_ofN] at hr'
    exact ⟨⟨a, cap, rfl, hr'⟩, hb⟩
theorem rw_up {u : Nat → Nat} {n : Nat} {r : Nat → Nat} (h : Rw u n r) : Rw u n (up u (n - 1) r) := by
  by_cases hz : n = 0
  · subst hz; exact h
  · exact h.up (n - 1) (by omega)
theorem rw_dn {u : Nat → Nat} {n : Nat} {r : Nat → Nat} (h : Rw u n r) : Rw u n (dn u (n - 1) r) := by
  by_cases hz : n = 0
  · subst hz; exact h
  · exact h.dn (n - 1) (by omega)
theorem rw_ev {u : Nat → Nat} {n : Nat} {r : Nat → Nat} (h : Rw u n r) : Rw u n (ev u (n - 1) r) := by
  by_cases hz : n = 0
  · subst hz; exact h
  · exact h.ev (n - 1) (by omega)
theorem back_up {u : Nat → Nat} {n : Nat} {r : Nat → Nat} (h : Rw u n r) : ∀ k, k < n → dn u (n - 1) (up u (n - 1) r) k = r k := fun k hk => by rw [dn_up h (n - 1) (by omega)]
theorem back_dn {u : Nat → Nat} {n : Nat} {r : Nat → Nat} (h : Rw u n r) : ∀ k, k < n → up u (n - 1) (dn u (n - 1) r) k = r k := fun k hk => by rw [up_dn (n - 1) h (by omega)]
theorem back_ev {u : Nat → Nat} {n : Nat} {r : Nat → Nat} (h : Rw u n r) : ∀ k, k < n → ev u (n - 1) (ev u (n - 1) r) k = r k := fun k hk => by rw [ev_twice (n - 1) h (by omega)]

set_option maxHeartbeats 4000000 in
theorem promoteBack_any (n : Int) (ao : Option Addr) (len co : Nat) (f : Nat → Int) (ar : Option Addr) (lr cr : Nat) (r : Nat → Int) (w : World) (hl : len ≤ maxLen) (hlr : lr ≤ maxLen) (ho : Row w ao len f) (hr : Row w ar lr r) :
    Calls Try.prog 7 #[.agg #[.int .i64 n, .slice ao len co], .slice ar lr cr] w fun e w' => e = .returned (.bool true) ∧ Below w.heap.size w w' := by
  have HB0 : Hid (Below w.heap.size w (w.alloc (.cells #[.int .i64 n, .slice ao len co] 24))) := bel_one w _
  have K0 : Hid (Held (w.alloc (.cells #[.int .i64 n, .slice ao len co] 24)) w.heap.size n ao len co f) := Held.box ho
  have HRr : Hid (Row w ar lr r) := hr
  clear ho hr
  go_enter Try.func7, Try.ntmps7
  go_wp2_with fail
  refine (promoteBegun_any _).mono ?_
  rintro e w0 ⟨rfl, hb0⟩
  have HB1 : Hid (Below w.heap.size w w0) := Below.then HB0.out hb0
  have K1 : Hid (Held w0 w.heap.size n ao len co f) := K0.out.step hb0
  clear hb0 HB0 K0
  have k0 := K1.out.c0
  have k1 := K1.out.c1
  go_wp2_with fail
  refine (promote_any n ao len co f ar lr cr r w0 hl hlr K1.out.row (HRr.out.below HB1.out)).mono ?_
  rintro e w1 ⟨⟨c, v, rfl, hc, hv⟩, hb1⟩
  have HB2 : Hid (Below w.heap.size w w1) := Below.then HB1.out hb1
  have K2 : Hid (Held w1 w.heap.size n ao len co f) := K1.out.step hb1
  have HC : Hid (RkC n len f lr r c) := hc
  clear hb1 hc HB1 K1 k0 k1
  have k0 := K2.out.c0
  have k1 := K2.out.c1
  by_cases h0 : c = 0
  · subst h0
    obtain ⟨hck, rfl, hrow⟩ := HC.out.good
    obtain ⟨rfl, h10, hrng, _⟩ := hck.good
    have HRW : Hid (Rw (nat f) lr (nat r)) := rw_of h10 (hrng.small2 h10) hrow
    have HCK : Hid (Chk lr lr f 0) := hck
    have HRP : Hid (∀ k, k < lr → 0 ≤ r k) := fun k hk => (hrow k hk).1
    have HNE : Hid (∀ k, k < lr → r k = ((nat r k : Nat) : Int)) := fun k hk => nat_eq (hrow k hk).1
    obtain ⟨a1, cap1, rfl, hr1⟩ : RowV w1 v lr (up (nat f) (lr - 1) (nat r)) := by
      rcases hv with ⟨h, _⟩ | ⟨_, h⟩
      · exact absurd rfl h
      · exact h
    have HR1 : Hid (Row w1 a1 lr (fun k => ((up (nat f) (lr - 1) (nat r) k : Nat) : Int))) := hr1
    have HRU : Hid (Rw (nat f) lr (up (nat f) (lr - 1) (nat r))) := rw_up HRW.out
    clear hck hrng hrow hr1 hv
    go_wp2_with fail
    refine (demote_ok lr ao co f a1 cap1 (up (nat f) (lr - 1) (nat r)) w1 HCK.out HRU.out K2.out.row HR1.out).mono ?_
    rintro e w2 ⟨⟨a2, cap2, rfl, hr2⟩, hb2⟩
    have HB3 : Hid (Below w.heap.size w w2) := Below.then HB2.out hb2
    have K3 : Hid (Held w2 w.heap.size lr ao lr co f) := K2.out.step hb2
    have HR2 : Hid (Row w2 a2 lr (fun k => (((dn (nat f) (lr - 1) (up (nat f) (lr - 1) (nat r))) k : Nat) : Int))) := hr2
    have HR1 : Hid (Row w2 _ lr _) := HR1.out.below hb2
    clear hr2 hb2 k0 k1
    have k0 := K3.out.c0
    have k1 := K3.out.c1
    have HRa2 : Hid (Row w2 ar lr (fun k => ((nat r k : Nat) : Int))) := row_nat (HRr.out.below HB3.out) HRP.out
    go_wp2_with fail
    refine (demote_ok lr ao co f ar cr (nat r) w2 HCK.out HRW.out K3.out.row HRa2.out).mono ?_
    rintro e w3 ⟨⟨a3, cap3, rfl, hr3⟩, hb3⟩
    have HB4 : Hid (Below w.heap.size w w3) := Below.then HB3.out hb3
    have K4 : Hid (Held w3 w.heap.size lr ao lr co f) := K3.out.step hb3
    have HR3 : Hid (Row w3 a3 lr (fun k => (((dn (nat f) (lr - 1) (nat r)) k : Nat) : Int))) := hr3
    have HR1 : Hid (Row w3 _ lr _) := HR1.out.below hb3
    have HR2 : Hid (Row w3 _ lr _) := HR2.out.below hb3
    clear hr3 hb3 k0 k1
    have k0 := K4.out.c0
    have k1 := K4.out.c1
    have HRD : Hid (Rw (nat f) lr (dn (nat f) (lr - 1) (nat r))) := rw_dn HRW.out
    go_wp2_with fail
    refine (promote_ok lr ao co f a3 cap3 (dn (nat f) (lr - 1) (nat r)) w3 HCK.out HRD.out K4.out.row HR3.out).mono ?_
    rintro e w4 ⟨⟨a4, cap4, rfl, hr4⟩, hb4⟩
    have HB5 : Hid (Below w.heap.size w w4) := Below.then HB4.out hb4
    have K5 : Hid (Held w4 w.heap.size lr ao lr co f) := K4.out.step hb4
    have HR4 : Hid (Row w4 a4 lr (fun k => (((up (nat f) (lr - 1) (dn (nat f) (lr - 1) (nat r))) k : Nat) : Int))) := hr4
    have HR1 : Hid (Row w4 _ lr _) := HR1.out.below hb4
    have HR2 : Hid (Row w4 _ lr _) := HR2.out.below hb4
    have HR3 : Hid (Row w4 _ lr _) := HR3.out.below hb4
    clear hr4 hb4 k0 k1
    have k0 := K5.out.c0
    have k1 := K5.out.c1
    go_wp2_with fail
    refine (isRow_ok lr ao co f a1 cap1 (up (nat f) (lr - 1) (nat r)) w4 HCK.out HRU.out K5.out.row HR1.out).mono ?_
    rintro e w5 ⟨rfl, hb5⟩
    have HB6 : Hid (Below w.heap.size w w5) := Below.then HB5.out hb5
    have K6 : Hid (Held w5 w.heap.size lr ao lr co f) := K5.out.step hb5
    have HR2 : Hid (Row w5 _ lr _) := HR2.out.below hb5
    have HR3 : Hid (Row w5 _ lr _) := HR3.out.below hb5
    have HR4 : Hid (Row w5 _ lr _) := HR4.out.below hb5
    clear hb5 k0 k1
    have k0 := K6.out.c0
    have k1 := K6.out.c1
    go_wp2_with fail
    refine (isRow_ok lr ao co f a3 cap3 (dn (nat f) (lr - 1) (nat r)) w5 HCK.out HRD.out K6.out.row HR3.out).mono ?_
    rintro e w6 ⟨rfl, hb6⟩
    have HB7 : Hid (Below w.heap.size w w6) := Below.then HB6.out hb6
    have HR2 : Hid (Row w6 _ lr _) := HR2.out.below hb6
    have HR4 : Hid (Row w6 _ lr _) := HR4.out.below hb6
    clear hb6 k0 k1
    go_wp2_with fail
    refine (same_ok a2 ar lr cap2 cr _ r w6 h10 HR2.out (HRr.out.below HB7.out) (fun k hk => by rw [HNE.out k hk]; exact congrArg Int.ofNat (back_up HRW.out k hk))).mono ?_
    rintro e w7 ⟨rfl, hb7⟩
    have HB8 : Hid (Below w.heap.size w w7) := Below.then HB7.out hb7
    have HR4 : Hid (Row w7 _ lr _) := HR4.out.below hb7
    clear hb7
    go_wp2_with fail
    refine (same_ok a4 ar lr cap4 cr _ r w7 h10 HR4.out (HRr.out.below HB8.out) (fun k hk => by rw [HNE.out k hk]; exact congrArg Int.ofNat (back_dn HRW.out k hk))).mono ?_
    rintro e w8 ⟨rfl, hb8⟩
    have HB9 : Hid (Below w.heap.size w w8) := Below.then HB8.out hb8
    clear hb8
    go_wp2_with fail
    go_ret
    exact ⟨rfl, HB9.out⟩
  · have hne : (c != 0) = true := by simpa using h0
    clear h0
    go_wp2_with fail
    go_ret
    exact ⟨rfl, HB2.out⟩

set_option maxHeartbeats 4000000 in
theorem promoteTwice_any (n : Int) (ao : Option Addr) (len co : Nat) (f : Nat → Int) (ar : Option Addr) (lr cr : Nat) (r : Nat → Int) (w : World) (hl : len ≤ maxLen) (hlr : lr ≤ maxLen) (ho : Row w ao len f) (hr : Row w ar lr r) :
    Calls Try.prog 8 #[.agg #[.int .i64 n, .slice ao len co], .slice ar lr cr] w fun e w' => e = .returned (.bool true) ∧ Below w.heap.size w w' := by
  have HB0 : Hid (Below w.heap.size w (w.alloc (.cells #[.int .i64 n, .slice ao len co] 24))) := bel_one w _
  have K0 : Hid (Held (w.alloc (.cells #[.int .i64 n, .slice ao len co] 24)) w.heap.size n ao len co f) := Held.box ho
  have HRr : Hid (Row w ar lr r) := hr
  clear ho hr
  go_enter Try.func8, Try.ntmps8
  go_wp2_with fail
  refine (promoteBegun_any _).mono ?_
  rintro e w0 ⟨rfl, hb0⟩
  have HB1 : Hid (Below w.heap.size w w0) := Below.then HB0.out hb0
  have K1 : Hid (Held w0 w.heap.size n ao len co f) := K0.out.step hb0
  clear hb0 HB0 K0
  have k0 := K1.out.c0
  have k1 := K1.out.c1
  go_wp2_with fail
  refine (evacuate_any n ao len co f ar lr cr r w0 hl hlr K1.out.row (HRr.out.below HB1.out)).mono ?_
  rintro e w1 ⟨⟨c, v, rfl, hc, hv⟩, hb1⟩
  have HB2 : Hid (Below w.heap.size w w1) := Below.then HB1.out hb1
  have K2 : Hid (Held w1 w.heap.size n ao len co f) := K1.out.step hb1
  have HC : Hid (RkC n len f lr r c) := hc
  clear hb1 hc HB1 K1 k0 k1
  have k0 := K2.out.c0
  have k1 := K2.out.c1
  by_cases h0 : c = 0
  · subst h0
    obtain ⟨hck, rfl, hrow⟩ := HC.out.good
    obtain ⟨rfl, h10, hrng, _⟩ := hck.good
    have HRW : Hid (Rw (nat f) lr (nat r)) := rw_of h10 (hrng.small2 h10) hrow
    have HCK : Hid (Chk lr lr f 0) := hck
    have HRP : Hid (∀ k, k < lr → 0 ≤ r k) := fun k hk => (hrow k hk).1
    have HNE : Hid (∀ k, k < lr → r k = ((nat r k : Nat) : Int)) := fun k hk => nat_eq (hrow k hk).1
    obtain ⟨a1, cap1, rfl, hr1⟩ : RowV w1 v lr (ev (nat f) (lr - 1) (nat r)) := by
      rcases hv with ⟨h, _⟩ | ⟨_, h⟩
      · exact absurd rfl h
      · exact h
    have HR1 : Hid (Row w1 a1 lr (fun k => ((ev (nat f) (lr - 1) (nat r) k : Nat) : Int))) := hr1
    have HRU : Hid (Rw (nat f) lr (ev (nat f) (lr - 1) (nat r))) := rw_ev HRW.out
    clear hck hrng hrow hr1 hv
    go_wp2_with fail
    refine (evacuate_ok lr ao co f a1 cap1 (ev (nat f) (lr - 1) (nat r)) w1 HCK.out HRU.out K2.out.row HR1.out).mono ?_
    rintro e w2 ⟨⟨a2, cap2, rfl, hr2⟩, hb2⟩
    have HB3 : Hid (Below w.heap.size w w2) := Below.then HB2.out hb2
    have K3 : Hid (Held w2 w.heap.size lr ao lr co f) := K2.out.step hb2
    have HR2 : Hid (Row w2 a2 lr (fun k => (((ev (nat f) (lr - 1) (ev (nat f) (lr - 1) (nat r))) k : Nat) : Int))) := hr2
    have HR1 : Hid (Row w2 _ lr _) := HR1.out.below hb2
    clear hr2 hb2 k0 k1
    have k0 := K3.out.c0
    have k1 := K3.out.c1
    go_wp2_with fail
    refine (isRow_ok lr ao co f a1 cap1 (ev (nat f) (lr - 1) (nat r)) w2 HCK.out HRU.out K3.out.row HR1.out).mono ?_
    rintro e w3 ⟨rfl, hb3⟩
    have HB4 : Hid (Below w.heap.size w w3) := Below.then HB3.out hb3
    have HR2 : Hid (Row w3 _ lr _) := HR2.out.below hb3
    clear hb3 k0 k1
    go_wp2_with fail
    refine (same_ok a2 ar lr cap2 cr _ r w3 h10 HR2.out (HRr.out.below HB4.out) (fun k hk => by rw [HNE.out k hk]; exact congrArg Int.ofNat (back_ev HRW.out k hk))).mono ?_
    rintro e w4 ⟨rfl, hb4⟩
    have HB5 : Hid (Below w.heap.size w w4) := Below.then HB4.out hb4
    clear hb4
    go_wp2_with fail
    go_ret
    exact ⟨rfl, HB5.out⟩
  · have hne : (c != 0) = true := by simpa using h0
    clear h0
    go_wp2_with fail
    go_ret
    exact ⟨rfl, HB2.out⟩
end Go.Proofs.Ytnommlfenaijoaa
