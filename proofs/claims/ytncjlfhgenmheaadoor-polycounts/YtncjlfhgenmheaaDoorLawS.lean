/-
  hasselaw.PolyStrict and hasselaw.PolyCounts return true for every order and number. Conditions: a slice reads as a slice of numbers; the table of the least bits; a number as int holds it.
-/
import Derived.Test.YtncjlfhgenmheaaDoorExpM
namespace Go.Proofs.YtncjlfhgenmheaaDoor
open Go.RowKit Go.Maps

set_option maxHeartbeats 2000000 in
theorem polyStrict_any (N : Int) (a : Option Addr) (len cap : Nat) (f : Nat → Int) (n : Int) (w : World) (hl : len ≤ maxLen) (hr : Row w a len f) (hT : Tab w) :
    Calls Tryd.prog 5 #[.agg #[.int .i64 N, .slice a len cap], .int .i64 n] w fun e w' => e = .returned (.bool true) ∧ Below w.heap.size w w' := by
  have K0 : Held (w.alloc (.cells #[.int .i64 N, .slice a len cap] 24)) w.heap.size N a len cap f := Held.box hr
  have HB0 : Hid (Below w.heap.size w (w.alloc (.cells #[.int .i64 N, .slice a len cap] 24))) := (Below.refl _ _).alloc (Nat.le_refl _) _
  have HT : Hid (Tab w) := hT
  clear hr hT
  go_enter Tryd.func5, Tryd.ntmps5
  go_wp2_with fail
  refine (strict_any N a len cap f n _ hl K0.row (HT.out.step HB0.out)).mono ?_
  rintro e w1 ⟨⟨c, v, hc, rfl, he⟩, hb⟩
  have K1 := K0.step hb
  have k0 := K1.c0
  have k1 := K1.c1
  have HB1 : Hid (Below w.heap.size w w1) := Below.then HB0.out hb
  have HC : Hid (StCk N len f n 0 c) := hc
  clear hb K0 HB0 hc
  rcases he with ⟨h0, rfl⟩ | ⟨rfl, rfl⟩
  · have hne2 : (c == 0) = false := by simpa using h0
    go_wp2_with fail
    refine (steps_any N a len cap f n 0 _ hl K1.row).mono ?_
    rintro e w2 ⟨⟨c', rfl, hc'⟩, hb2⟩
    obtain rfl := StCk.unique hc' HC.out
    have HB2 : Hid (Below w.heap.size w w2) := Below.then HB1.out hb2
    clear hb2 HB1 K1 k0 k1 hc'
    go_wp2_with fail
    refine (polyBegun_any _ (HT.out.step HB2.out)).mono ?_
    rintro e w3 ⟨rfl, hb3⟩
    have HB3 : Hid (Below w.heap.size w w3) := Below.then HB2.out hb3
    clear hb3 HB2
    go_wp2_with fail
    refine (numberIs_any c' 0 0 _ (.inl ⟨h0, rfl⟩)).mono ?_
    rintro e w4 ⟨rfl, rfl⟩
    go_wp2_with fail
    go_ret
    exact ⟨rfl, HB3.out⟩
  · obtain ⟨hck, hn1, hn2⟩ := HC.out.good
    obtain ⟨rfl, h10, hrng, _⟩ := hck.good
    obtain ⟨m, rfl⟩ : ∃ m : Nat, n = m := ⟨n.toNat, by omega⟩
    have HE : Hid (wz (strV (nat f) len (m : Int)) = wz (mmI (idls (nat f) len) (mB true (nat f) len) m ((idls (nat f) len).length - 1))) := by
      show _ = _
      rw [str_mm h10 hrng.small (by omega)]
    go_wp2_with fail
    refine (steps_any len a len cap f m 0 _ hl K1.row).mono ?_
    rintro e w2 ⟨⟨c', rfl, hc'⟩, hb2⟩
    obtain rfl := StCk.unique hc' HC.out
    have HB2 : Hid (Below w.heap.size w w2) := Below.then HB1.out hb2
    have K2 := K1.step hb2
    have m0 := K2.c0
    have m1 := K2.c1
    clear hb2 HB1 k0 k1 hc' K1
    go_wp2_with fail
    refine (monMaps_any len a cap (nat f) m true _ h10 (by omega) hrng.small (hrng.row K2.row)).mono ?_
    rintro e w3 ⟨rfl, hb3⟩
    have HB3 : Hid (Below w.heap.size w w3) := Below.then HB2.out hb3
    clear hb3 HB2 K2 m0 m1 hck hrng
    generalize wz (mmI (idls (nat f) len) (mB true (nat f) len) m ((idls (nat f) len).length - 1)) = X at *
    generalize wz (strV (nat f) len (m : Int)) = Y at *
    go_wp2_with fail
    refine (polyBegun_any _ (HT.out.step HB3.out)).mono ?_
    rintro e w5 ⟨rfl, hb5⟩
    have HB5 : Hid (Below w.heap.size w w5) := Below.then HB3.out hb5
    clear hb5 HB3
    go_wp2_with fail
    refine (numberIs_any 0 Y X _ (.inr ⟨rfl, HE.out⟩)).mono ?_
    rintro e w6 ⟨rfl, rfl⟩
    go_wp2_with fail
    go_ret
    exact ⟨rfl, HB5.out⟩

set_option maxHeartbeats 2000000 in
theorem polyCounts_any (N : Int) (a : Option Addr) (len cap : Nat) (f : Nat → Int) (n : Int) (w : World) (hl : len ≤ maxLen) (hn1 : -9223372036854775808 ≤ n) (hn2 : n ≤ 9223372036854775807) (hr : Row w a len f) (hT : Tab w) :
    Calls Tryd.prog 7 #[.agg #[.int .i64 N, .slice a len cap], .int .i64 n] w fun e w' => e = .returned (.bool true) ∧ Below w.heap.size w w' := by
  have K0 : Held (w.alloc (.cells #[.int .i64 N, .slice a len cap] 24)) w.heap.size N a len cap f := Held.box hr
  have HB0 : Hid (Below w.heap.size w (w.alloc (.cells #[.int .i64 N, .slice a len cap] 24))) := (Below.refl _ _).alloc (Nat.le_refl _) _
  have HT : Hid (Tab w) := hT
  clear hr hT
  go_enter Tryd.func7, Tryd.ntmps7
  go_wp2_with fail
  refine (polyBegun_any _ (HT.out.step HB0.out)).mono ?_
  rintro e w1 ⟨rfl, hb⟩
  have K1 := K0.step hb
  have k0 := K1.c0
  have k1 := K1.c1
  have HB1 : Hid (Below w.heap.size w w1) := Below.then HB0.out hb
  clear hb K0 HB0
  go_wp2_with fail
  refine (choose_any n 9 _ (by omega) (by omega) hn1 hn2).mono ?_
  rintro e w2 ⟨⟨m, hm, rfl⟩, rfl⟩
  go_wp2_with fail
  refine (value_any N a len cap f m _ hl K1.row).mono ?_
  rintro e w2 ⟨⟨c, v, hc, rfl, he⟩, hb2⟩
  have K2 := K1.step hb2
  have d0 := K2.c0
  have d1 := K2.c1
  have HB2 : Hid (Below w.heap.size w w2) := Below.then HB1.out hb2
  have HC : Hid (StCk N len f m (-20) c) := hc
  clear hb2 hc K1 k0 k1 HB1
  rcases he with ⟨h0, rfl⟩ | ⟨rfl, rfl⟩
  · have hne2 : (c != 0) = true := by simpa using h0
    go_wp2_with fail
    go_ret
    exact ⟨rfl, HB2.out⟩
  · obtain ⟨hck, _, _⟩ := HC.out.good
    obtain ⟨rfl, h10, hrng, _⟩ := hck.good
    have HE : Hid (wz (valV (nat f) len (m : Int)) = wz (mmI (idls (nat f) len) (mB false (nat f) len) m ((idls (nat f) len).length - 1))) := by
      show _ = _
      rw [val_mm h10 hrng.small (by omega)]
    rw [HE.out]
    go_wp2_with fail
    refine (monMaps_any len a cap (nat f) m false _ h10 (by omega) hrng.small (hrng.row K2.row)).mono ?_
    rintro e w3 ⟨rfl, hb3⟩
    have HB3 : Hid (Below w.heap.size w w3) := Below.then HB2.out hb3
    clear hb3 HB2 K2 d0 d1 hck hrng HE
    generalize wz (mmI (idls (nat f) len) (mB false (nat f) len) m ((idls (nat f) len).length - 1)) = X at *
    have hXX : (X == X) = true := beq_self_eq_true _
    go_wp2_with fail
    go_ret
    exact ⟨rfl, HB3.out⟩
end Go.Proofs.YtncjlfhgenmheaaDoor
