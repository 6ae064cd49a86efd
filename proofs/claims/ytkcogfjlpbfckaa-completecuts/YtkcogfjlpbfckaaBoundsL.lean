/-
  hasselaw.CompleteBounds and CompleteCuts return true for every order and number. No condition but that a slice reads as a slice of numbers.
-/
import Derived.Test.YtkcogfjlpbfckaaCBegun
namespace Go.Proofs.Ytkcogfjlpbfckaa
open Go.RowKit

theorem cuts_len (g : Nat → Nat) (n : Nat) (h : n ≤ 10) : (cuts g n).length ≤ 1024 := Nat.le_trans (fil_len _ _) (pw_le n h)
theorem numbersAre_any (c : Int) (l : List Nat) (v v' : Value) (w : World) (hl : l.length ≤ maxLen) (h1 : (c ≠ 0 ∧ v = .slice none 0 0 ∧ v' = .slice none 0 0) ∨ (c = 0 ∧ NSl w v l ∧ NSl w v' l)) :
    Calls Try.prog 17 #[v, .int .i64 c, .int .i64 c, v'] w fun e w' => e = .returned (.bool true) ∧ Below w.heap.size w w' := by
  rcases h1 with ⟨h0, rfl, rfl⟩ | ⟨rfl, ⟨a, ca, rfl, hr⟩, ⟨b, cb, rfl, hr'⟩⟩
  · have hne : (c != 0) = true := by simpa using h0
    go_enter Try.func17, Try.ntmps17
    go_wp2_with fail
    refine (same_any none none 0 0 0 0 (fun _ => 0) (fun _ => 0) _ (by unfold maxLen; omega) (by unfold maxLen; omega) (fun k hk => absurd hk (Nat.not_lt_zero _)) (fun k hk => absurd hk (Nat.not_lt_zero _))).mono ?_
    rintro e w1 ⟨⟨q, rfl, hq⟩, hB⟩
    obtain rfl : q = true := hq.2 ⟨rfl, fun _ _ => rfl⟩
    have HB : Hid (Below w.heap.size w w1) := hB
    clear hq hB
    go_wp2_with fail
    go_ret
    exact ⟨rfl, HB.out⟩
  · generalize l.length = m at *
    have HA : Hid (Row w a m (fun k => (nth l k : Nat))) := hr
    have HB' : Hid (Row w b m (fun k => (nth l k : Nat))) := hr'
    clear hr hr'
    go_enter Try.func17, Try.ntmps17
    go_wp2_with fail
    refine (same_any a b m ca m cb (fun k => (nth l k : Nat)) (fun k => (nth l k : Nat)) _ hl hl HA.out HB'.out).mono ?_
    rintro e w1 ⟨⟨q, rfl, hq⟩, hB⟩
    obtain rfl : q = true := hq.2 ⟨rfl, fun _ _ => rfl⟩
    have HB : Hid (Below w.heap.size w w1) := hB
    clear hq hB
    go_wp2_with fail
    go_ret
    exact ⟨rfl, HB.out⟩

set_option maxHeartbeats 1000000 in
theorem completeCuts_any (n : Int) (a : Option Addr) (len cap : Nat) (f : Nat → Int) (w : World) (hl : len ≤ maxLen) (hr : Row w a len f) :
    Calls Try.prog 4 #[.agg #[.int .i64 n, .slice a len cap]] w fun e w' => e = .returned (.bool true) ∧ Below w.heap.size w w' := by
  have K0 : Held (w.alloc (.cells #[.int .i64 n, .slice a len cap] 24)) w.heap.size n a len cap f := Held.box hr
  have HB0 : Hid (Below w.heap.size w (w.alloc (.cells #[.int .i64 n, .slice a len cap] 24))) := (Below.refl _ _).alloc (Nat.le_refl _) _
  clear hr
  go_enter Try.func4, Try.ntmps4
  go_wp2_with fail
  refine (cutsX_any n a len cap f _ hl K0.row).mono ?_
  rintro e w1 ⟨⟨c, v, hc, rfl, he⟩, hb⟩
  have K1 := K0.step hb
  have k0 := K1.c0
  have k1 := K1.c1
  have HB1 : Hid (Below w.heap.size w w1) := Below.then HB0.out hb
  clear hb K0 HB0
  rcases he with ⟨h0, rfl⟩ | ⟨rfl, hp⟩
  · have hne2 : (c == 0) = false := by simpa using h0
    go_wp2_with fail
    refine (checkOrder_any n a len cap f _ hl K1.row).mono ?_
    rintro e w2 ⟨⟨c', rfl, hc'⟩, hb2⟩
    obtain rfl := Chk.unique hc' hc
    have HB2 : Hid (Below w.heap.size w w2) := Below.then HB1.out hb2
    clear hb2 HB1 K1 k0 k1 hc hc'
    go_wp2_with fail
    refine (completeBegun_any _).mono ?_
    rintro e w3 ⟨rfl, hb3⟩
    have HB3 : Hid (Below w.heap.size w w3) := Below.then HB2.out hb3
    clear hb3 HB2
    go_wp2_with fail
    refine (numbersAre_any c' [] _ _ _ (by unfold maxLen; simp) (.inl ⟨h0, rfl, rfl⟩)).mono ?_
    rintro e w4 ⟨rfl, hb4⟩
    have HB4 : Hid (Below w.heap.size w w4) := Below.then HB3.out hb4
    clear hb4 HB3
    go_wp2_with fail
    go_ret
    exact ⟨rfl, HB4.out⟩
  · obtain ⟨rfl, h10, hrng, _⟩ := hc.good
    have HP : Hid (NSl w1 v (cuts (nat f) len)) := hp
    clear hp
    go_wp2_with fail
    refine (checkOrder_any len a len cap f _ hl K1.row).mono ?_
    rintro e w2 ⟨⟨c', rfl, hc'⟩, hb2⟩
    obtain rfl := Chk.unique hc' hc
    have HB2 : Hid (Below w.heap.size w w2) := Below.then HB1.out hb2
    have HP2 : Hid (NSl w2 v (cuts (nat f) len)) := HP.out.below hb2
    have K2 := K1.step hb2
    have m0 := K2.c0
    have m1 := K2.c1
    clear hb2 HB1 k0 k1 hc hc' K1 HP
    go_wp2_with fail
    refine (cutsOf_any a len cap (nat f) _ h10 (hrng.small2 h10) (hrng.row K2.row)).mono ?_
    rintro e w3 ⟨⟨v3, rfl, hv3⟩, hb3⟩
    have HB3 : Hid (Below w.heap.size w w3) := Below.then HB2.out hb3
    have HP3 : Hid (NSl w3 v (cuts (nat f) len)) := HP2.out.below hb3
    have HQ3 : Hid (NSl w3 v3 (cuts (nat f) len)) := hv3
    clear hb3 HB2 K2 HP2 hv3 m0 m1
    go_wp2_with fail
    refine (completeBegun_any _).mono ?_
    rintro e w4 ⟨rfl, hb4⟩
    have HB4 : Hid (Below w.heap.size w w4) := Below.then HB3.out hb4
    have HP4 : Hid (NSl w4 v (cuts (nat f) len)) := HP3.out.below hb4
    have HQ4 : Hid (NSl w4 v3 (cuts (nat f) len)) := HQ3.out.below hb4
    have HL : Hid ((cuts (nat f) len).length ≤ maxLen) := Nat.le_trans (cuts_len _ len h10) (by unfold maxLen; omega)
    clear hb4 HB3 HP3 HQ3
    go_wp2_with fail
    refine (numbersAre_any 0 (cuts (nat f) len) _ _ _ HL.out (.inr ⟨rfl, HP4.out, HQ4.out⟩)).mono ?_
    rintro e w5 ⟨rfl, hb5⟩
    have HB5 : Hid (Below w.heap.size w w5) := Below.then HB4.out hb5
    clear hb5 HB4 HP4 HQ4 HL
    go_wp2_with fail
    go_ret
    exact ⟨rfl, HB5.out⟩
end Go.Proofs.Ytkcogfjlpbfckaa
