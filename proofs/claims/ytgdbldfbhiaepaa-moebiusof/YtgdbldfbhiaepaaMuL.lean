/-
  For every order and two numbers that are handed in, hasselaw.MoebiusMu returns true, and writes nothing that was there. No condition.
-/
import Derived.Test.YtgdbldfbhiaepaaMuO
import Derived.Test.YtgdbldfbhiaepaaMBeg
namespace Go.Proofs.Ytgdbldfbhiaepaa
open Go.RowKit Go.Maps

theorem chk_ex (n : Int) (len : Nat) (f : Nat → Int) : ∃ c, Chk n len f c := by
  by_cases h1 : 0 ≤ n ∧ n ≤ 10
  · obtain ⟨m, rfl⟩ : ∃ m : Nat, n = m := ⟨n.toNat, by omega⟩
    by_cases h2 : len = m
    · subst h2
      by_cases h3 : Rng len f
      · by_cases h4 : Ord len (nat f)
        · exact ⟨0, .inr ⟨len, rfl, by omega, .inr ⟨rfl, .inr ⟨h3, .inr ⟨rfl, h4⟩⟩⟩⟩⟩
        · exact ⟨4, .inr ⟨len, rfl, by omega, .inr ⟨rfl, .inr ⟨h3, .inl ⟨rfl, h4⟩⟩⟩⟩⟩
      · exact ⟨3, .inr ⟨len, rfl, by omega, .inr ⟨rfl, .inl ⟨rfl, h3⟩⟩⟩⟩
    · exact ⟨1, .inr ⟨m, rfl, by omega, .inl ⟨rfl, h2⟩⟩⟩
  · exact ⟨2, .inl ⟨rfl, h1⟩⟩
theorem pnt_low {p n : Int} (h : p < 0) : pnt p n = false := by unfold pnt; simp; omega
theorem pnt_high {p n : Int} (h : p ≥ n) : pnt p n = false := by unfold pnt; simp; omega
theorem MuPost.bad {n : Int} {len : Nat} {f : Nat → Int} {p q c' : Int} {e : Ending} (h : MuPost n len f p q e) (hc : MuCk n len f p q c') (h0 : c' ≠ 0) : e = .returned (.tuple #[.int .i64 0, .int .i64 c']) := by
  obtain ⟨c, v, hc1, rfl, hv⟩ := h
  obtain rfl := hc1.unique hc
  rcases hv with ⟨_, rfl⟩ | ⟨h, _⟩
  · rfl
  · exact absurd h h0
theorem MuPost.ok {n : Int} {len : Nat} {f : Nat → Int} {x y : Nat} {e : Ending} (h : MuPost n len f x y e) (hc : MuCk n len f x y 0) : e = .returned (.tuple #[.int .i64 (wz (muO (nat f) len x y)), .int .i64 0]) := by
  obtain ⟨c, v, hc1, rfl, hv⟩ := h
  obtain rfl := hc1.unique hc
  rcases hv with ⟨h, _⟩ | ⟨_, x', y', hx, hy, _, _, rfl⟩
  · exact absurd rfl h
  · obtain rfl : x = x' := by omega
    obtain rfl : y = y' := by omega
    rfl

set_option maxHeartbeats 2000000 in
theorem moebiusMu_any (n : Int) (a : Option Addr) (len cap : Nat) (f : Nat → Int) (p q : Int) (w : World) (hl : len ≤ maxLen) (hr : Row w a len f) :
    Calls Try.prog 3 #[.agg #[.int .i64 n, .slice a len cap], .int .i64 p, .int .i64 q] w fun e w' => e = .returned (.bool true) ∧ Below w.heap.size w w' := by
  have K0 : Held (w.alloc (.cells #[.int .i64 n, .slice a len cap] 24)) w.heap.size n a len cap f := Held.box hr
  have HB0 : Hid (Below w.heap.size w (w.alloc (.cells #[.int .i64 n, .slice a len cap] 24))) := (Below.refl _ _).alloc (Nat.le_refl _) _
  have HL : Hid (len ≤ maxLen) := hl
  clear hr hl
  obtain ⟨W0, HW0⟩ : ∃ W0, Hid (W0 = w.alloc (.cells #[.int .i64 n, .slice a len cap] 24)) := ⟨_, rfl⟩
  rw [← HW0.out] at K0 HB0
  go_enter Try.func3, Try.ntmps3
  go_wp2_with fail
  rw [← HW0.out]
  obtain ⟨c, hc⟩ : ∃ c, Chk n len f c := chk_ex n len f
  have HC : Hid (Chk n len f c) := hc
  clear hc
  by_cases h0 : c = 0
  · subst h0
    by_cases hp0 : p < 0
    · have HK : Hid (MuCk n len f p q 3) := .inr ⟨HC.out, .inl ⟨rfl, .inl (pnt_low hp0)⟩⟩
      refine (muX_any n a len cap f p q _ HL.out K0.row).mono ?_
      rintro e w1 ⟨he, hb1⟩
      obtain rfl := he.bad HK.out (by decide)
      have K1 := K0.step hb1
      have k0 := K1.c0
      have k1 := K1.c1
      have HB1 : Hid (Below w.heap.size w w1) := Below.then HB0.out hb1
      clear hb1 he HB0 K0 HW0
      go_wp2_with fail
      refine (checkOrder_any n a len cap f _ HL.out K1.row).mono ?_
      rintro e w3 ⟨⟨c', rfl, hc'⟩, hb3⟩
      obtain rfl := Chk.unique hc' HC.out
      have K3 := K1.step hb3
      have m0 := K3.c0
      have m1 := K3.c1
      have HB3 : Hid (Below w.heap.size w w3) := Below.then HB1.out hb3
      clear hb3 hc' HB1 k0 k1 K1
      clear K3
      go_wp2_with fail
      refine (moebiusBegun_any _).mono ?_
      rintro e w4 ⟨rfl, hb4⟩
      have HB4 : Hid (Below w.heap.size w w4) := Below.then HB3.out hb4
      clear hb4 HB3
      go_wp2_with fail
      refine (numI_any 3 0 0 w4 (.inl ⟨by decide, rfl⟩)).mono ?_
      rintro e w5 ⟨rfl, hb5⟩
      have HB5 : Hid (Below w.heap.size w w5) := Below.then HB4.out hb5
      clear hb5 HB4
      go_wp2_with fail
      go_ret
      exact ⟨rfl, HB5.out⟩
    · skip
      by_cases hp1 : p ≥ n
      · have HK : Hid (MuCk n len f p q 3) := .inr ⟨HC.out, .inl ⟨rfl, .inl (pnt_high hp1)⟩⟩
        refine (muX_any n a len cap f p q _ HL.out K0.row).mono ?_
        rintro e w1 ⟨he, hb1⟩
        obtain rfl := he.bad HK.out (by decide)
        have K1 := K0.step hb1
        have k0 := K1.c0
        have k1 := K1.c1
        have HB1 : Hid (Below w.heap.size w w1) := Below.then HB0.out hb1
        clear hb1 he HB0 K0 HW0
        go_wp2_with fail
        refine (checkOrder_any n a len cap f _ HL.out K1.row).mono ?_
        rintro e w3 ⟨⟨c', rfl, hc'⟩, hb3⟩
        obtain rfl := Chk.unique hc' HC.out
        have K3 := K1.step hb3
        have m0 := K3.c0
        have m1 := K3.c1
        have HB3 : Hid (Below w.heap.size w w3) := Below.then HB1.out hb3
        clear hb3 hc' HB1 k0 k1 K1
        clear K3
        go_wp2_with fail
        refine (moebiusBegun_any _).mono ?_
        rintro e w4 ⟨rfl, hb4⟩
        have HB4 : Hid (Below w.heap.size w w4) := Below.then HB3.out hb4
        clear hb4 HB3
        go_wp2_with fail
        refine (numI_any 3 0 0 w4 (.inl ⟨by decide, rfl⟩)).mono ?_
        rintro e w5 ⟨rfl, hb5⟩
        have HB5 : Hid (Below w.heap.size w w5) := Below.then HB4.out hb5
        clear hb5 HB4
        go_wp2_with fail
        go_ret
        exact ⟨rfl, HB5.out⟩
      · skip
        by_cases hq0 : q < 0
        · have HK : Hid (MuCk n len f p q 3) := .inr ⟨HC.out, .inl ⟨rfl, .inr (pnt_low hq0)⟩⟩
          refine (muX_any n a len cap f p q _ HL.out K0.row).mono ?_
          rintro e w1 ⟨he, hb1⟩
          obtain rfl := he.bad HK.out (by decide)
          have K1 := K0.step hb1
          have k0 := K1.c0
          have k1 := K1.c1
          have HB1 : Hid (Below w.heap.size w w1) := Below.then HB0.out hb1
          clear hb1 he HB0 K0 HW0
          go_wp2_with fail
          refine (checkOrder_any n a len cap f _ HL.out K1.row).mono ?_
          rintro e w3 ⟨⟨c', rfl, hc'⟩, hb3⟩
          obtain rfl := Chk.unique hc' HC.out
          have K3 := K1.step hb3
          have m0 := K3.c0
          have m1 := K3.c1
          have HB3 : Hid (Below w.heap.size w w3) := Below.then HB1.out hb3
          clear hb3 hc' HB1 k0 k1 K1
          clear K3
          go_wp2_with fail
          refine (moebiusBegun_any _).mono ?_
          rintro e w4 ⟨rfl, hb4⟩
          have HB4 : Hid (Below w.heap.size w w4) := Below.then HB3.out hb4
          clear hb4 HB3
          go_wp2_with fail
          refine (numI_any 3 0 0 w4 (.inl ⟨by decide, rfl⟩)).mono ?_
          rintro e w5 ⟨rfl, hb5⟩
          have HB5 : Hid (Below w.heap.size w w5) := Below.then HB4.out hb5
          clear hb5 HB4
          go_wp2_with fail
          go_ret
          exact ⟨rfl, HB5.out⟩
        · skip
          by_cases hq1 : q ≥ n
          · have HK : Hid (MuCk n len f p q 3) := .inr ⟨HC.out, .inl ⟨rfl, .inr (pnt_high hq1)⟩⟩
            refine (muX_any n a len cap f p q _ HL.out K0.row).mono ?_
            rintro e w1 ⟨he, hb1⟩
            obtain rfl := he.bad HK.out (by decide)
            have K1 := K0.step hb1
            have k0 := K1.c0
            have k1 := K1.c1
            have HB1 : Hid (Below w.heap.size w w1) := Below.then HB0.out hb1
            clear hb1 he HB0 K0 HW0
            go_wp2_with fail
            refine (checkOrder_any n a len cap f _ HL.out K1.row).mono ?_
            rintro e w3 ⟨⟨c', rfl, hc'⟩, hb3⟩
            obtain rfl := Chk.unique hc' HC.out
            have K3 := K1.step hb3
            have m0 := K3.c0
            have m1 := K3.c1
            have HB3 : Hid (Below w.heap.size w w3) := Below.then HB1.out hb3
            clear hb3 hc' HB1 k0 k1 K1
            clear K3
            go_wp2_with fail
            refine (moebiusBegun_any _).mono ?_
            rintro e w4 ⟨rfl, hb4⟩
            have HB4 : Hid (Below w.heap.size w w4) := Below.then HB3.out hb4
            clear hb4 HB3
            go_wp2_with fail
            refine (numI_any 3 0 0 w4 (.inl ⟨by decide, rfl⟩)).mono ?_
            rintro e w5 ⟨rfl, hb5⟩
            have HB5 : Hid (Below w.heap.size w w5) := Below.then HB4.out hb5
            clear hb5 HB4
            go_wp2_with fail
            go_ret
            exact ⟨rfl, HB5.out⟩
          · skip
            obtain ⟨rfl, h10, hrng, hord⟩ := HC.out.good
            obtain ⟨x, rfl⟩ : ∃ x : Nat, p = x := ⟨p.toNat, by omega⟩
            obtain ⟨y, rfl⟩ : ∃ y : Nat, q = y := ⟨q.toNat, by omega⟩
            have hx : x < len := by omega
            have hy : y < len := by omega
            have HK : Hid (MuCk (len : Int) len f x y 0) := .inr ⟨HC.out, .inr ⟨rfl, by unfold pnt; simp; omega, by unfold pnt; simp; omega⟩⟩
            refine (muX_any len a len cap f x y _ HL.out K0.row).mono ?_
            rintro e w1 ⟨he, hb1⟩
            obtain rfl := he.ok HK.out
            have K1 := K0.step hb1
            have k0 := K1.c0
            have k1 := K1.c1
            have HB1 : Hid (Below w.heap.size w w1) := Below.then HB0.out hb1
            clear hb1 he HB0 K0 HW0
            go_wp2_with fail
            refine (checkOrder_any len a len cap f _ HL.out K1.row).mono ?_
            rintro e w3 ⟨⟨c', rfl, hc'⟩, hb3⟩
            obtain rfl := Chk.unique hc' HC.out
            have K3 := K1.step hb3
            have m0 := K3.c0
            have m1 := K3.c1
            have HB3 : Hid (Below w.heap.size w w3) := Below.then HB1.out hb3
            clear hb3 hc' HB1 k0 k1 K1
            have HRW : Hid (Row w3 a len (fun k => (nat f k : Nat))) := hrng.row K3.row
            have HG : Hid (∀ k, k < len → nat f k < pw len) := hrng.small
            have HO : Hid (Ord len (nat f)) := hord
            clear hrng hord K3
            go_wp2_with fail
            refine (orderMu_any len a cap (nat f) x y w3 h10 HG.out HO.out HRW.out hx hy).mono ?_
            rintro e w6 ⟨rfl, hb6⟩
            have HB6 : Hid (Below w.heap.size w w6) := Below.then HB3.out hb6
            clear hb6 HB3 HRW m0 m1
            have HB3 := HB6
            clear HB6
            generalize wz (muO (nat f) len x y) = X at *
            go_wp2_with fail
            refine (moebiusBegun_any _).mono ?_
            rintro e w4 ⟨rfl, hb4⟩
            have HB4 : Hid (Below w.heap.size w w4) := Below.then HB3.out hb4
            clear hb4 HB3
            go_wp2_with fail
            refine (numI_any 0 X X w4 (.inr ⟨rfl, rfl⟩)).mono ?_
            rintro e w5 ⟨rfl, hb5⟩
            have HB5 : Hid (Below w.heap.size w w5) := Below.then HB4.out hb5
            clear hb5 HB4
            go_wp2_with fail
            go_ret
            exact ⟨rfl, HB5.out⟩
  · have HK : Hid (MuCk n len f p q c) := .inl ⟨h0, HC.out⟩
    have hne : (c == 0) = false := by simpa using h0
    refine (muX_any n a len cap f p q _ HL.out K0.row).mono ?_
    rintro e w1 ⟨he, hb1⟩
    obtain rfl := he.bad HK.out h0
    have K1 := K0.step hb1
    have k0 := K1.c0
    have k1 := K1.c1
    have HB1 : Hid (Below w.heap.size w w1) := Below.then HB0.out hb1
    clear hb1 he HB0 K0 HW0
    go_wp2_with fail
    refine (checkOrder_any n a len cap f _ HL.out K1.row).mono ?_
    rintro e w3 ⟨⟨c', rfl, hc'⟩, hb3⟩
    obtain rfl := Chk.unique hc' HC.out
    have K3 := K1.step hb3
    have m0 := K3.c0
    have m1 := K3.c1
    have HB3 : Hid (Below w.heap.size w w3) := Below.then HB1.out hb3
    clear hb3 hc' HB1 k0 k1 K1
    clear K3
    go_wp2_with fail
    refine (moebiusBegun_any _).mono ?_
    rintro e w4 ⟨rfl, hb4⟩
    have HB4 : Hid (Below w.heap.size w w4) := Below.then HB3.out hb4
    clear hb4 HB3
    go_wp2_with fail
    refine (numI_any c' 0 0 w4 (.inl ⟨h0, rfl⟩)).mono ?_
    rintro e w5 ⟨rfl, hb5⟩
    have HB5 : Hid (Below w.heap.size w w5) := Below.then HB4.out hb5
    clear hb5 HB4
    go_wp2_with fail
    go_ret
    exact ⟨rfl, HB5.out⟩
end Go.Proofs.Ytgdbldfbhiaepaa
