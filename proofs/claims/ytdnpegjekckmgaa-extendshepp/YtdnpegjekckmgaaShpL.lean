/-
  That hasselaw.ExtendShepp answers true. No condition but that a slice reads as a slice of numbers.
-/
import Derived.Test.YtdnpegjekckmgaaSheF
import Derived.Test.YtdnpegjekckmgaaAhead
import Derived.BigQuiet
namespace Go.Proofs.Ytdnpegjekckmgaa
open Go.RowKit

/-- What the two calls answer, told in one form. -/
def Two (n : Int) (len : Nat) (f : Nat → Int) (P : Int → Prop) (e : Ending) : Prop :=
  ∃ v c : Int, e = .returned (.tuple #[.int .i64 v, .int .i64 c]) ∧ (c = 0 → Chk n len f 0 ∧ P v)
theorem two_ahead {n : Int} {len : Nat} {f : Nat → Int} {A B : Int} {e : Ending} (h : AheadPost n len f A B e) :
    Two n len f (fun v => ∃ x y : Nat, A = (x : Nat) ∧ B = (y : Nat) ∧ x < len ∧ y < len ∧ v = (ways (bth (nat f) x y y) len 0 : Nat)) e := by
  obtain ⟨c, hc, ⟨h0, rfl⟩ | ⟨_, _, rfl⟩ | ⟨h0, x, y, hx, hy, h1, h2, rfl⟩⟩ := h
  · exact ⟨_, _, rfl, fun h => absurd h h0⟩
  · exact ⟨_, _, rfl, fun h => absurd h (by decide)⟩
  · subst h0; exact ⟨_, _, rfl, fun _ => ⟨hc, x, y, hx, hy, h1, h2, rfl⟩⟩
theorem two_both {n : Int} {len : Nat} {f : Nat → Int} {A B C : Int} {e : Ending} (h : BothPost n len f A B C e) :
    Two n len f (fun v => ∃ x y z : Nat, A = (x : Nat) ∧ B = (y : Nat) ∧ C = (z : Nat) ∧ x < len ∧ y < len ∧ z < len ∧ v = (ways (bth (nat f) x y z) len 0 : Nat)) e := by
  obtain ⟨c, hc, ⟨h0, rfl⟩ | ⟨_, _, rfl⟩ | ⟨h0, x, y, z, hx, hy, hz, h1, h2, h3, rfl⟩⟩ := h
  · exact ⟨_, _, rfl, fun h => absurd h h0⟩
  · exact ⟨_, _, rfl, fun h => absurd h (by decide)⟩
  · subst h0; exact ⟨_, _, rfl, fun _ => ⟨hc, x, y, z, hx, hy, hz, h1, h2, h3, rfl⟩⟩
theorem two_count {n : Int} {len : Nat} {f : Nat → Int} {e : Ending} (h : CountPost n len f e) :
    Two n len f (fun v => v = (ways (nat f) len 0 : Nat)) e := by
  obtain ⟨c, hc, ⟨h0, rfl⟩ | ⟨h0, rfl⟩⟩ := h
  · exact ⟨_, _, rfl, fun h => absurd h h0⟩
  · subst h0; exact ⟨_, _, rfl, fun _ => ⟨hc, rfl⟩⟩
/-- What the numbers say. -/
theorem shepp_end {n : Int} {len : Nat} {f : Nat → Int} {A B C v x y b k : Int} (hAB : A ≠ B) (hv : Chk n len f 0 ∧ v = (ways (nat f) len 0 : Nat))
    (hx : ∃ x' y' : Nat, A = (x' : Nat) ∧ B = (y' : Nat) ∧ x' < len ∧ y' < len ∧ x = (ways (bth (nat f) x' y' y') len 0 : Nat))
    (hy : ∃ x' y' : Nat, A = (x' : Nat) ∧ C = (y' : Nat) ∧ x' < len ∧ y' < len ∧ y = (ways (bth (nat f) x' y' y') len 0 : Nat))
    (hb : ∃ x' y' z : Nat, A = (x' : Nat) ∧ B = (y' : Nat) ∧ C = (z : Nat) ∧ x' < len ∧ y' < len ∧ z < len ∧ b = (ways (bth (nat f) x' y' z) len 0 : Nat))
    (hk : ∃ x' y' : Nat, B = (x' : Nat) ∧ A = (y' : Nat) ∧ x' < len ∧ y' < len ∧ k = (ways (bth (nat f) x' y' y') len 0 : Nat)) :
    (0 ≤ v ∧ v ≤ 3628800 ∧ 0 ≤ x ∧ x ≤ 3628800 ∧ 0 ≤ y ∧ y ≤ 3628800 ∧ 0 ≤ b ∧ b ≤ 3628800 ∧ 0 ≤ k ∧ k ≤ 3628800) ∧ x + k = v ∧ x * y ≤ b * v := by
  obtain ⟨hc, rfl⟩ := hv
  obtain ⟨_, h10, hrng, _⟩ := hc.good
  obtain ⟨xA, xB, rfl, rfl, h1, h2, rfl⟩ := hx
  obtain ⟨y1, xC, e1, rfl, _, h3, rfl⟩ := hy
  obtain rfl : xA = y1 := by omega
  obtain ⟨z1, z2, z3, e2, e3, e4, _, _, _, rfl⟩ := hb
  obtain rfl : xA = z1 := by omega
  obtain rfl : xB = z2 := by omega
  obtain rfl : xC = z3 := by omega
  obtain ⟨k1, k2, e5, e6, _, _, rfl⟩ := hk
  obtain rfl : xB = k1 := by omega
  obtain rfl : xA = k2 := by omega
  have m0 := ways_most (u := nat f) h10
  have m1 := ways_most (u := bth (nat f) xA xB xB) h10
  have m2 := ways_most (u := bth (nat f) xA xC xC) h10
  have m3 := ways_most (u := bth (nat f) xA xB xC) h10
  have m4 := ways_most (u := bth (nat f) xB xA xA) h10
  have hs := shepp h10 hrng.small h1 h2 h3
  have he := ways_either h10 hrng.small h1 h2 (by omega) _ 0 (Nat.le_refl _) (pw_pos len) (Nat.zero_testBit _) (Nat.zero_testBit _)
  refine ⟨by omega, by omega, ?_⟩
  rw [← Int.natCast_mul, ← Int.natCast_mul]
  exact Int.ofNat_le.2 hs

theorem extendShepp_any (n : Int) (a : Option Addr) (len cap : Nat) (f : Nat → Int) (A B C : Int) (w : World) (hl : len ≤ maxLen) (hr : Row w a len f) :
    Calls Try.prog 3 #[.agg #[.int .i64 n, .slice a len cap], .int .i64 A, .int .i64 B, .int .i64 C] w fun e w' => e = .returned (.bool true) ∧ Below w.heap.size w w' := by
  have K0 : Held (w.alloc (.cells #[.int .i64 n, .slice a len cap] 24)) w.heap.size n a len cap f := Held.box hr
  have HB0 : Hid (Below w.heap.size w (w.alloc (.cells #[.int .i64 n, .slice a len cap] 24))) := (Below.refl _ _).alloc (Nat.le_refl _) _
  clear hr
  go_enter Try.func3, Try.ntmps3
  go_wp2_with fail
  refine (extendBegun_any _).mono ?_
  rintro e w1 ⟨rfl, hb⟩
  have K1 := K0.step hb
  have HB1 : Hid (Below w.heap.size w w1) := Below.then HB0.out hb
  clear hb K0 HB0
  by_cases hAB : A = B
  · have d1 : (A == B) = true := by simpa using hAB
    clear hAB K1
    go_wp2_with fail
    go_ret
    exact ⟨rfl, HB1.out⟩
  have d1 : (A == B) = false := by simpa using hAB
  by_cases hBC : B = C
  · have d2 : (B == C) = true := by simpa using hBC
    clear hBC K1 hAB
    go_wp2_with fail
    go_ret
    exact ⟨rfl, HB1.out⟩
  have d2 : (B == C) = false := by simpa using hBC
  by_cases hAC : A = C
  · have d3 : (A == C) = true := by simpa using hAC
    clear hAC K1 hAB hBC
    go_wp2_with fail
    go_ret
    exact ⟨rfl, HB1.out⟩
  have d3 : (A == C) = false := by simpa using hAC
  have HAB : Hid (A ≠ B) := hAB
  clear hAB hBC hAC
  have k0 := K1.c0
  have k1 := K1.c1
  go_wp2_with fail
  refine (count_any n a len cap f _ hl K1.row).mono ?_
  rintro e w2 ⟨he, hb⟩
  obtain ⟨v, c1, rfl, h1⟩ := two_count he
  have H1 : Hid (c1 = 0 → Chk n len f 0 ∧ v = (ways (nat f) len 0 : Nat)) := h1
  have K2 := K1.step hb
  have HB2 : Hid (Below w.heap.size w w2) := Below.then HB1.out hb
  clear hb K1 HB1 k0 k1 he h1
  have k0 := K2.c0
  have k1 := K2.c1
  go_wp2_with fail
  refine (ahead_any n a len cap f A B _ hl K2.row).mono ?_
  rintro e w3 ⟨he, hb⟩
  obtain ⟨x, c2, rfl, h1⟩ := two_ahead he
  have H2 : Hid (c2 = 0 → Chk n len f 0 ∧ ∃ x' y' : Nat, A = (x' : Nat) ∧ B = (y' : Nat) ∧ x' < len ∧ y' < len ∧ x = (ways (bth (nat f) x' y' y') len 0 : Nat)) := h1
  have K3 := K2.step hb
  have HB3 : Hid (Below w.heap.size w w3) := Below.then HB2.out hb
  clear hb K2 HB2 k0 k1 he h1
  have k0 := K3.c0
  have k1 := K3.c1
  go_wp2_with fail
  refine (ahead_any n a len cap f A C _ hl K3.row).mono ?_
  rintro e w4 ⟨he, hb⟩
  obtain ⟨y, c3, rfl, h1⟩ := two_ahead he
  have H3 : Hid (c3 = 0 → Chk n len f 0 ∧ ∃ x' y' : Nat, A = (x' : Nat) ∧ C = (y' : Nat) ∧ x' < len ∧ y' < len ∧ y = (ways (bth (nat f) x' y' y') len 0 : Nat)) := h1
  have K4 := K3.step hb
  have HB4 : Hid (Below w.heap.size w w4) := Below.then HB3.out hb
  clear hb K3 HB3 k0 k1 he h1
  have k0 := K4.c0
  have k1 := K4.c1
  go_wp2_with fail
  refine (both_any n a len cap f A B C _ hl K4.row).mono ?_
  rintro e w5 ⟨he, hb⟩
  obtain ⟨b, c4, rfl, h1⟩ := two_both he
  have H4 : Hid (c4 = 0 → Chk n len f 0 ∧ ∃ x' y' z : Nat, A = (x' : Nat) ∧ B = (y' : Nat) ∧ C = (z : Nat) ∧ x' < len ∧ y' < len ∧ z < len ∧ b = (ways (bth (nat f) x' y' z) len 0 : Nat)) := h1
  have K5 := K4.step hb
  have HB5 : Hid (Below w.heap.size w w5) := Below.then HB4.out hb
  clear hb K4 HB4 k0 k1 he h1
  have k0 := K5.c0
  have k1 := K5.c1
  go_wp2_with fail
  refine (ahead_any n a len cap f B A _ hl K5.row).mono ?_
  rintro e w6 ⟨he, hb⟩
  obtain ⟨k, c5, rfl, h1⟩ := two_ahead he
  have H5 : Hid (c5 = 0 → Chk n len f 0 ∧ ∃ x' y' : Nat, B = (x' : Nat) ∧ A = (y' : Nat) ∧ x' < len ∧ y' < len ∧ k = (ways (bth (nat f) x' y' y') len 0 : Nat)) := h1
  have HB6 : Hid (Below w.heap.size w w6) := Below.then HB5.out hb
  clear hb K5 HB5 k0 k1 he h1
  by_cases z1 : c1 = 0
  · by_cases z2 : c2 = 0
    · by_cases z3 : c3 = 0
      · by_cases z4 : c4 = 0
        · by_cases z5 : c5 = 0
          · subst z1 z2 z3 z4 z5
            obtain ⟨⟨q1, q2, q3, q4, q5, q6, q7, q8, q9, q10⟩, s1, s2⟩ := shepp_end HAB.out (H1.out rfl) (H2.out rfl).2 (H3.out rfl).2 (H4.out rfl).2 (H5.out rfl).2
            clear H1 H2 H3 H4 H5 HAB
            have t1 : x * y ≤ 13168189440000 ∧ 0 ≤ x * y := ⟨Int.le_trans (Int.mul_le_mul q4 q6 q5 (by decide)) (by decide), Int.mul_nonneg q3 q5⟩
            have t2 : b * v ≤ 13168189440000 ∧ 0 ≤ b * v := ⟨Int.le_trans (Int.mul_le_mul q8 q2 q1 (by decide)) (by decide), Int.mul_nonneg q7 q1⟩
            have hs : (x + k == v) = true := by simpa using s1
            obtain ⟨t3, t4⟩ := t1
            obtain ⟨t5, t6⟩ := t2
            clear s1
            go_wp2_with fail
            go_ret
            exact ⟨rfl, HB6.out⟩
          · have e5 : (c5 != 0) = true := by simpa using z5
            subst z1 z2 z3 z4
            clear z5 H1 H2 H3 H4 H5
            go_wp2_with fail
            go_ret
            exact ⟨rfl, HB6.out⟩
        · have e4 : (c4 != 0) = true := by simpa using z4
          subst z1 z2 z3
          clear z4 H1 H2 H3 H4 H5
          go_wp2_with fail
          go_ret
          exact ⟨rfl, HB6.out⟩
      · have e3 : (c3 != 0) = true := by simpa using z3
        subst z1 z2
        clear z3 H1 H2 H3 H4 H5
        go_wp2_with fail
        go_ret
        exact ⟨rfl, HB6.out⟩
    · have e2 : (c2 != 0) = true := by simpa using z2
      subst z1
      clear z2 H1 H2 H3 H4 H5
      go_wp2_with fail
      go_ret
      exact ⟨rfl, HB6.out⟩
  · have e1 : (c1 != 0) = true := by simpa using z1
    clear z1 H1 H2 H3 H4 H5
    go_wp2_with fail
    go_ret
    exact ⟨rfl, HB6.out⟩
end Go.Proofs.Ytdnpegjekckmgaa
