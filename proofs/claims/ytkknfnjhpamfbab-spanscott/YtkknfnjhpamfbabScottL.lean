/-
  What hasselaw.SpanScott answers: true. No condition but that slices read as slices of numbers.
-/
import Derived.Test.YtkknfnjhpamfbabUnits
import Derived.Test.YtkknfnjhpamfbabUnited
import Derived.Test.YtkknfnjhpamfbabTwoThree
import Derived.Test.YtkknfnjhpamfbabSpBegun
namespace Go.Proofs.Ytkknfnjhpamfbab
open Go.RowKit

theorem feas_uok {g u : Nat → Nat} {n : Nat} (hn : n ≤ 10) (h : Feas g n u) (hb : ∀ z, z < n → u z ≤ 50000) : UOk g n n (fun k => (u k : Nat)) n :=
  ⟨rfl, by omega, by omega, fun k hk => by have := hb k hk; simp only; omega, feas_says h⟩
theorem uok_feas {g : Nat → Nat} {n lv : Nat} {V : Nat → Int} {s : Int} (hn : n ≤ 10) (hg : Sm n n g) (ho : Ord n g) (h : UOk g n lv V s) : ∃ P, Feas g n P :=
  (units_iff hn hg ho).2 ⟨says_noTwo h.2.2.2.2, says_noThree h.2.2.2.2⟩

set_option maxHeartbeats 2000000 in
theorem spanScott_any (n : Int) (a : Option Addr) (len cap : Nat) (f : Nat → Int) (av : Option Addr) (lv cv : Nat) (V : Nat → Int) (st : Int) (w : World) (hl : len ≤ maxLen) (hlv : lv ≤ maxLen) (hr : Row w a len f) (hrv : Row w av lv V) :
    Calls Try.prog 3 #[.agg #[.int .i64 n, .slice a len cap], .slice av lv cv, .int .i64 st] w fun e w' => e = .returned (.bool true) ∧ Below w.heap.size w w' := by
  have K0 : Held (w.alloc (.cells #[.int .i64 n, .slice a len cap] 24)) w.heap.size n a len cap f := Held.box hr
  have HB0 : Hid (Below w.heap.size w (w.alloc (.cells #[.int .i64 n, .slice a len cap] 24))) := (Below.refl _ _).alloc (Nat.le_refl _) _
  have HRV : Hid (Row w av lv V) := hrv
  clear hr hrv
  go_enter Try.func3, Try.ntmps3
  go_wp2_with fail
  refine (spanBegun_any _).mono ?_
  rintro e w1 ⟨rfl, hb1⟩
  have K1 := K0.step hb1
  have k10 := K1.c0
  have k11 := K1.c1
  have HB1 : Hid (Below w.heap.size w w1) := Below.then HB0.out hb1
  clear hb1 K0 HB0
  go_wp2_with fail
  refine (units_any n a len cap f _ hl K1.row).mono ?_
  rintro e w2 ⟨⟨c, v, s, ok, hc, rfl, he⟩, hb2⟩
  have K2 := K1.step hb2
  have k20 := K2.c0
  have k21 := K2.c1
  have HB2 : Hid (Below w.heap.size w w2) := Below.then HB1.out hb2
  clear hb2 K1 HB1 k10 k11
  go_wp2_with fail
  refine (two_any n a len cap f _ hl K2.row).mono ?_
  rintro e w3 ⟨⟨c3, v3, l3, two, hc3, rfl, he3⟩, hb3⟩
  obtain rfl := Chk.unique hc3 hc
  have K3 := K2.step hb3
  have k30 := K3.c0
  have k31 := K3.c1
  have HB3 : Hid (Below w.heap.size w w3) := Below.then HB2.out hb3
  have HB23 : Hid (Below w2.heap.size w2 w3) := hb3
  clear hb3 K2 HB2 k20 k21
  go_wp2_with fail
  refine (spThree_any n a len cap f _ hl K3.row).mono ?_
  rintro e w4 ⟨⟨c4, v4, l4, three, hc4, rfl, he4⟩, hb4⟩
  obtain rfl := Chk.unique hc4 hc3
  have K4 := K3.step hb4
  have k40 := K4.c0
  have k41 := K4.c1
  have HB4 : Hid (Below w.heap.size w w4) := Below.then HB3.out hb4
  have HB24 : Hid (Below w2.heap.size w2 w4) := Below.then HB23.out hb4
  clear hb4 K3 HB3 k30 k31 HB23
  rcases he with ⟨h0, rfl, rfl, rfl⟩ | ⟨rfl, he⟩
  · have hne : (c4 != 0) = true := by simpa using h0
    clear he3 he4 hc hc3 hc4
    go_wp2_with fail
    go_ret
    exact ⟨by simp, HB4.out⟩
  · obtain ⟨rfl, h10, hrng, hord⟩ := hc.good
    have hsm : Sm len len (nat f) := fun k hk => by unfold nat; have := hrng k hk; omega
    rcases he3 with ⟨h, _⟩ | ⟨_, hf3, _⟩
    · exact absurd rfl h
    rcases he4 with ⟨h, _⟩ | ⟨_, hf4, _⟩
    · exact absurd rfl h
    have hU := units_two_three h10 hsm hord hf3 hf4
    have hpl := pw_le len h10
    have HG : Hid (∀ k, k < len → nat f k < 1024) := fun k hk => Nat.lt_of_lt_of_le (hsm k hk) hpl
    have HRR : Hid (∀ wx, Row wx a len f → Row wx a len (fun k => (nat f k : Nat))) := fun wx h k hk => by
      have h1 := h k hk
      have e : f k = (nat f k : Nat) := by unfold nat; have := hrng k hk; omega
      rw [e] at h1
      exact h1
    rcases he with ⟨rfl, rfl, a1, cap1, u, rfl, hru, hF, hbd⟩ | ⟨rfl, rfl, rfl, hno⟩
    · obtain ⟨rfl, rfl⟩ := hU.1 ⟨u, hF⟩
      have HR4 : Hid (Row w4 a1 len (fun k => (u k : Nat))) := hru.below HB24.out
      have HUO : Hid (UOk (nat f) len len (fun k => (u k : Nat)) len) := feas_uok h10 hF hbd
      clear hru hF hbd hU hf3 hf4 hsm hrng hord hc hc3 hc4
      go_wp2_with fail
      refine (united_any len a cap (nat f) a1 len cap1 (fun k => (u k : Nat)) len _ h10 hl HG.out (HRR.out _ K4.row) HR4.out).mono ?_
      rintro e w6 ⟨⟨q, rfl, hq⟩, hb6⟩
      obtain rfl : q = true := hq.2 HUO.out
      have HB6 : Hid (Below w.heap.size w w6) := Below.then HB4.out hb6
      clear hb6 hq HB4
      go_wp2_with fail
      go_ret
      exact ⟨by simp, HB6.out⟩
    · have hor : ¬ (two = false ∧ three = false) := fun h => hno (hU.2 h)
      have HNU : Hid (¬ UOk (nat f) len lv V st) := fun h => hno (uok_feas h10 hsm hord h)
      have HRV4 : Hid (Row w4 av lv V) := HRV.out.below HB4.out
      clear hU hno hf3 hf4 hsm hrng hord hc hc3 hc4
      rcases two with _ | _ <;> rcases three with _ | _
      · exact absurd ⟨rfl, rfl⟩ hor
      all_goals
        clear hor
        go_wp2_with fail
        refine (united_any len a cap (nat f) av lv cv V st _ h10 hlv HG.out (HRR.out _ K4.row) HRV4.out).mono ?_
        rintro e w6 ⟨⟨q, rfl, hq⟩, hb6⟩
        obtain rfl : q = false := by
          cases q
          · rfl
          · exact absurd (hq.1 rfl) HNU.out
        have HB6 : Hid (Below w.heap.size w w6) := Below.then HB4.out hb6
        clear hb6 hq HB4
        go_wp2_with fail
        go_ret
        exact ⟨by simp, HB6.out⟩
end Go.Proofs.Ytkknfnjhpamfbab
