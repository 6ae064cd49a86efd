/-
  What hasselaw.SpanUnits answers: true. No condition but that a slice reads as a slice of numbers.
-/
import Derived.Test.YtkknfnjhpamfbaaUnits
import Derived.Test.YtkknfnjhpamfbaaUnited
import Derived.Test.YtkknfnjhpamfbaaTwoThree
import Derived.Test.YtkknfnjhpamfbaaSpBegun
namespace Go.Proofs.Ytkknfnjhpamfbaa
open Go.RowKit

theorem feas_uok {g u : Nat → Nat} {n : Nat} (hn : n ≤ 10) (h : Feas g n u) (hb : ∀ z, z < n → u z ≤ 50000) : UOk g n n (fun k => (u k : Nat)) n :=
  ⟨rfl, by omega, by omega, fun k hk => by have := hb k hk; simp only; omega, feas_says h⟩

set_option maxHeartbeats 2000000 in
theorem spanUnits_any (n : Int) (a : Option Addr) (len cap : Nat) (f : Nat → Int) (w : World) (hl : len ≤ maxLen) (hr : Row w a len f) :
    Calls Try.prog 7 #[.agg #[.int .i64 n, .slice a len cap]] w fun e w' => e = .returned (.bool true) ∧ Below w.heap.size w w' := by
  have K0 : Held (w.alloc (.cells #[.int .i64 n, .slice a len cap] 25)) w.heap.size n a len cap f := Held.box hr
  have HB0 : Hid (Below w.heap.size w (w.alloc (.cells #[.int .i64 n, .slice a len cap] 25))) := (Below.refl _ _).alloc (Nat.le_refl _) _
  clear hr
  go_enter Try.func7, Try.ntmps7
  go_wp2_with fail
  refine (units_any n a len cap f _ hl K0.row).mono ?_
  rintro e w1 ⟨⟨c, v, s, ok, hc, rfl, he⟩, hb⟩
  have K1 := K0.step hb
  have k0 := K1.c0
  have k1 := K1.c1
  have HB1 : Hid (Below w.heap.size w w1) := Below.then HB0.out hb
  clear hb K0 HB0
  rcases he with ⟨h0, rfl, rfl, rfl⟩ | ⟨rfl, he⟩
  · have hne2 : (c == 0) = false := by simpa using h0
    have hne : (c != 0) = true := by simpa using h0
    go_wp2_with fail
    refine (checkOrder_any n a len cap f _ hl K1.row).mono ?_
    rintro e w2 ⟨⟨c', rfl, hc'⟩, hb2⟩
    obtain rfl := Chk.unique hc' hc
    have HB2 : Hid (Below w.heap.size w w2) := Below.then HB1.out hb2
    clear hb2 HB1 K1 k0 k1 hc hc'
    go_wp2_with fail
    refine (spanBegun_any _).mono ?_
    rintro e w3 ⟨rfl, hb3⟩
    have HB3 : Hid (Below w.heap.size w w3) := Below.then HB2.out hb3
    clear hb3 HB2
    go_wp2_with fail
    refine (spanBegun_any _).mono ?_
    rintro e w4 ⟨rfl, hb4⟩
    have HB4 : Hid (Below w.heap.size w w4) := Below.then HB3.out hb4
    clear hb4 HB3
    go_wp2_with fail
    go_ret
    exact ⟨by simp, HB4.out⟩
  · obtain ⟨rfl, h10, hrng, hord⟩ := hc.good
    have HSM : Hid (Sm len len (nat f)) := fun k hk => by unfold nat; have := hrng k hk; omega
    have HO : Hid (Ord len (nat f)) := hord
    have HRR : Hid (∀ wx, Row wx a len f → Row wx a len (fun k => (nat f k : Nat))) := fun wx h k hk => by
      have h1 := h k hk
      have e : f k = (nat f k : Nat) := by unfold nat; have := hrng k hk; omega
      rw [e] at h1
      exact h1
    have hpl := pw_le len h10
    have HG : Hid (∀ k, k < len → nat f k < 1024) := fun k hk => Nat.lt_of_lt_of_le (HSM.out k hk) hpl
    have HE := (show Hid _ from he)
    clear he hrng hord
    go_wp2_with fail
    refine (checkOrder_any len a len cap f _ hl K1.row).mono ?_
    rintro e w2 ⟨⟨c', rfl, hc'⟩, hb2⟩
    obtain rfl := Chk.unique hc' hc
    have K2 := K1.step hb2
    have HB2 : Hid (Below w.heap.size w w2) := Below.then HB1.out hb2
    have HB12 : Hid (Below w1.heap.size w1 w2) := hb2
    clear hb2 HB1 K1 k0 k1 hc hc'
    go_wp2_with fail
    refine (spanBegun_any _).mono ?_
    rintro e w3 ⟨rfl, hb3⟩
    have K3 := K2.step hb3
    have d0 := K3.c0
    have d1 := K3.c1
    have HB3 : Hid (Below w.heap.size w w3) := Below.then HB2.out hb3
    have HB13 : Hid (Below w1.heap.size w1 w3) := Below.then HB12.out hb3
    clear hb3 HB2 K2 HB12
    go_wp2_with fail
    refine (twoChains_any a len cap (nat f) _ h10 HSM.out HO.out (HRR.out _ K3.row)).mono ?_
    rintro e w4 ⟨⟨v', l', two, rfl, hf2, _⟩, hb4⟩
    have K4 := K3.step hb4
    have g0 := K4.c0
    have g1 := K4.c1
    have HB4 : Hid (Below w.heap.size w w4) := Below.then HB3.out hb4
    have HB14 : Hid (Below w1.heap.size w1 w4) := Below.then HB13.out hb4
    clear hb4 HB3 K3 d0 d1 HB13
    go_wp2_with fail
    refine (threeAlone_any a len cap (nat f) _ h10 HSM.out HO.out (HRR.out _ K4.row)).mono ?_
    rintro e w5 ⟨⟨v'', l'', three, rfl, hf3, _⟩, hb5⟩
    have K5 := K4.step hb5
    have t0 := K5.c0
    have t1 := K5.c1
    have HB5 : Hid (Below w.heap.size w w5) := Below.then HB4.out hb5
    have HB15 : Hid (Below w1.heap.size w1 w5) := Below.then HB14.out hb5
    have hU := units_two_three h10 HSM.out HO.out hf2 hf3
    clear hb5 HB4 K4 g0 g1 HB14 hf2 hf3
    rcases HE.out with ⟨rfl, rfl, a1, cap1, u, rfl, hru, hF, hbd⟩ | ⟨rfl, rfl, rfl, hno⟩
    · obtain ⟨rfl, rfl⟩ := hU.1 ⟨u, hF⟩
      have HR5 : Hid (Row w5 a1 len (fun k => (u k : Nat))) := hru.below HB15.out
      have HUO : Hid (UOk (nat f) len len (fun k => (u k : Nat)) len) := feas_uok h10 hF hbd
      clear hru hF hbd HE hU
      go_wp2_with fail
      refine (united_any len a cap (nat f) a1 len cap1 (fun k => (u k : Nat)) len _ h10 hl HG.out (HRR.out _ K5.row) HR5.out).mono ?_
      rintro e w6 ⟨⟨q, rfl, hq⟩, hb6⟩
      obtain rfl : q = true := hq.2 HUO.out
      have HB6 : Hid (Below w.heap.size w w6) := Below.then HB5.out hb6
      clear hb6 hq HB5
      go_wp2_with fail
      go_ret
      exact ⟨rfl, HB6.out⟩
    · have hor : ¬ (two = false ∧ three = false) := fun h => hno (hU.2 h)
      clear HE hU hno
      rcases two with _ | _ <;> rcases three with _ | _
      · exact absurd ⟨rfl, rfl⟩ hor
      all_goals
        clear hor
        go_wp2_with fail
        go_ret
        exact ⟨by simp, HB5.out⟩
end Go.Proofs.Ytkknfnjhpamfbaa
