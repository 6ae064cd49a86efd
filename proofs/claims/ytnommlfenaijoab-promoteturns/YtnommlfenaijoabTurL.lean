/-
  For every order and list that are handed in, hasselaw.PromoteTurns returns true, and nothing that was there is written. No condition.
-/
import Derived.Test.YtnommlfenaijoabOksL
namespace Go.Proofs.Ytnommlfenaijoab
set_option maxRecDepth 100000
open Go.RowKit

theorem turns_ev (u : Nat → Nat) (n : Nat) (r : Nat → Nat) : ev u (n - 1) (up u (n - 1) r) = dn u (n - 1) (ev u (n - 1) r) := by
  by_cases hz : n - 1 = 0
  · rw [hz]; rfl
  · obtain ⟨m, hm⟩ : ∃ m, n - 1 = m + 1 := ⟨n - 2, by omega⟩
    rw [hm]; exact ev_up u m r

set_option maxHeartbeats 4000000 in
theorem promoteTurns_any (n : Int) (ao : Option Addr) (len co : Nat) (f : Nat → Int) (ar : Option Addr) (lr cr : Nat) (r : Nat → Int) (w : World) (hl : len ≤ maxLen) (hlr : lr ≤ maxLen) (ho : Row w ao len f) (hr : Row w ar lr r) :
    Calls Try.prog 3 #[.agg #[.int .i64 n, .slice ao len co], .slice ar lr cr] w fun e w' => e = .returned (.bool true) ∧ Below w.heap.size w w' := by
  have HB0 : Hid (Below w.heap.size w (w.alloc (.cells #[.int .i64 n, .slice ao len co] 24))) := bel_one w _
  have K0 : Hid (Held (w.alloc (.cells #[.int .i64 n, .slice ao len co] 24)) w.heap.size n ao len co f) := Held.box ho
  have HRr : Hid (Row w ar lr r) := hr
  clear ho hr
  go_enter Try.func3, Try.ntmps3
  go_wp2_with fail
  refine (promoteBegun_any _).mono ?_
  rintro e w0 ⟨rfl, hb0⟩
  have HB1 : Hid (Below w.heap.size w w0) := Below.then HB0.out hb0
  have K1 : Hid (Held w0 w.heap.size n ao len co f) := K0.out.step hb0
  clear hb0 HB0 K0
  have k0 := K1.out.c0
  have k1 := K1.out.c1
  go_wp2_with fail
  refine (promote_any n ao len co f ar lr cr r w0 hl hlr K1.out.row (HRr.out.below HB1.out)).mono ?_
  rintro e w1 ⟨⟨c, v, rfl, hc, hv⟩, hb1⟩
  have HB2 : Hid (Below w.heap.size w w1) := Below.then HB1.out hb1
  have K2 : Hid (Held w1 w.heap.size n ao len co f) := K1.out.step hb1
  have HC : Hid (RkC n len f lr r c) := hc
  clear hb1 hc HB1 K1 k0 k1
  have k0 := K2.out.c0
  have k1 := K2.out.c1
  by_cases h0 : c = 0
  · subst h0
    obtain ⟨hck, rfl, hrow⟩ := HC.out.good
    obtain ⟨rfl, h10, hrng, _⟩ := hck.good
    have HRW : Hid (Rw (nat f) lr (nat r)) := rw_of h10 (hrng.small2 h10) hrow
    have HCK : Hid (Chk lr lr f 0) := hck
    have HRP : Hid (∀ k, k < lr → 0 ≤ r k) := fun k hk => (hrow k hk).1
    have HNE : Hid (∀ k, k < lr → r k = ((nat r k : Nat) : Int)) := fun k hk => nat_eq (hrow k hk).1
    obtain ⟨a1, cap1, rfl, hr1⟩ : RowV w1 v lr (up (nat f) (lr - 1) (nat r)) := by
      rcases hv with ⟨h, _⟩ | ⟨_, h⟩
      · exact absurd rfl h
      · exact h
    have HR1 : Hid (Row w1 a1 lr (fun k => ((up (nat f) (lr - 1) (nat r) k : Nat) : Int))) := hr1
    have HRU : Hid (Rw (nat f) lr (up (nat f) (lr - 1) (nat r))) := rw_up HRW.out
    clear hck hrng hrow hr1 hv
    have HRa1 : Hid (Row w1 ar lr (fun k => ((nat r k : Nat) : Int))) := row_nat (HRr.out.below HB2.out) HRP.out
    go_wp2_with fail
    refine (evacuate_ok lr ao co f ar cr (nat r) w1 HCK.out HRW.out K2.out.row HRa1.out).mono ?_
    rintro e w2 ⟨⟨a2, cap2, rfl, hr2⟩, hb2⟩
    have HB3 : Hid (Below w.heap.size w w2) := Below.then HB2.out hb2
    have K3 : Hid (Held w2 w.heap.size lr ao lr co f) := K2.out.step hb2
    have HR2 : Hid (Row w2 a2 lr (fun k => (((ev (nat f) (lr - 1) (nat r)) k : Nat) : Int))) := hr2
    have HR1 : Hid (Row w2 _ lr _) := HR1.out.below hb2
    clear hr2 hb2 k0 k1
    have k0 := K3.out.c0
    have k1 := K3.out.c1
    go_wp2_with fail
    refine (evacuate_ok lr ao co f a1 cap1 (up (nat f) (lr - 1) (nat r)) w2 HCK.out HRU.out K3.out.row HR1.out).mono ?_
    rintro e w3 ⟨⟨a3, cap3, rfl, hr3⟩, hb3⟩
    have HB4 : Hid (Below w.heap.size w w3) := Below.then HB3.out hb3
    have K4 : Hid (Held w3 w.heap.size lr ao lr co f) := K3.out.step hb3
    have HR3 : Hid (Row w3 a3 lr (fun k => (((ev (nat f) (lr - 1) (up (nat f) (lr - 1) (nat r))) k : Nat) : Int))) := hr3
    have HR2 : Hid (Row w3 _ lr _) := HR2.out.below hb3
    clear hr3 hb3 k0 k1
    have k0 := K4.out.c0
    have k1 := K4.out.c1
    have HRE : Hid (Rw (nat f) lr (ev (nat f) (lr - 1) (nat r))) := rw_ev HRW.out
    go_wp2_with fail
    refine (demote_ok lr ao co f a2 cap2 (ev (nat f) (lr - 1) (nat r)) w3 HCK.out HRE.out K4.out.row HR2.out).mono ?_
    rintro e w4 ⟨⟨a4, cap4, rfl, hr4⟩, hb4⟩
    have HB5 : Hid (Below w.heap.size w w4) := Below.then HB4.out hb4
    have K5 : Hid (Held w4 w.heap.size lr ao lr co f) := K4.out.step hb4
    have HR4 : Hid (Row w4 a4 lr (fun k => (((dn (nat f) (lr - 1) (ev (nat f) (lr - 1) (nat r))) k : Nat) : Int))) := hr4
    have HR3 : Hid (Row w4 _ lr _) := HR3.out.below hb4
    clear hr4 hb4 k0 k1
    have k0 := K5.out.c0
    have k1 := K5.out.c1
    go_wp2_with fail
    refine (same_ok a3 a4 lr cap3 cap4 _ _ w4 h10 HR3.out HR4.out (fun k _ => by rw [turns_ev])).mono ?_
    rintro e w5 ⟨rfl, hb5⟩
    have HB6 : Hid (Below w.heap.size w w5) := Below.then HB5.out hb5
    clear hb5
    go_wp2_with fail
    go_ret
    exact ⟨rfl, HB6.out⟩
  · have hne : (c != 0) = true := by simpa using h0
    clear h0
    go_wp2_with fail
    go_ret
    exact ⟨rfl, HB2.out⟩
end Go.Proofs.Ytnommlfenaijoab
