/-
  For every order that is handed in, hasselaw.OrderCovers returns true, and writes nothing that was there. No condition.
-/
import Derived.Test.YtnjmelbnamgjcaaCoversP
namespace Go.Proofs.Ytnjmelbnamgjcaa
open Go.RowKit

theorem orderCovers_any (n : Int) (a : Option Addr) (len cap : Nat) (f : Nat → Int) (w : World) (hl : len ≤ maxLen) (hr : Row w a len f) :
    Calls Try.prog 5 #[.agg #[.int .i64 n, .slice a len cap]] w fun e w' => e = .returned (.bool true) ∧ Below w.heap.size w w' := by
  have K0 : Held (w.alloc (.cells #[.int .i64 n, .slice a len cap] 24)) w.heap.size n a len cap f := Held.box hr
  have HB0 : Hid (Below w.heap.size w (w.alloc (.cells #[.int .i64 n, .slice a len cap] 24))) := (Below.refl _ _).alloc (Nat.le_refl _) _
  clear hr
  go_enter Try.func5, Try.ntmps5
  go_wp2_with fail
  refine (covers_any n a len cap f _ hl K0.row).mono ?_
  rintro e w1 ⟨⟨c, v, hc, rfl, he⟩, hb⟩
  have K1 := K0.step hb
  have k0 := K1.c0
  have k1 := K1.c1
  have HB1 : Hid (Below w.heap.size w w1) := Below.then HB0.out hb
  clear hb K0 HB0
  rcases he with ⟨h0, rfl⟩ | ⟨rfl, hp⟩
  · have hne : (c != 0) = true := by simpa using h0
    have hne2 : (c == 0) = false := by simpa using h0
    go_wp2_with fail
    refine (checkOrder_any n a len cap f _ hl K1.row).mono ?_
    rintro e w2 ⟨⟨c', rfl, hc'⟩, hb2⟩
    obtain rfl := Chk.unique hc' hc
    have HB2 : Hid (Below w.heap.size w w2) := Below.then HB1.out hb2
    clear hb2 HB1 K1 k0 k1 hc hc'
    go_wp2_with fail
    refine (orderBegun_any _).mono ?_
    rintro e w3 ⟨rfl, hb3⟩
    have HB3 : Hid (Below w.heap.size w w3) := Below.then HB2.out hb3
    clear hb3 HB2
    go_wp2_with fail
    refine (orderBegun_any _).mono ?_
    rintro e w4 ⟨rfl, hb4⟩
    have HB4 : Hid (Below w.heap.size w w4) := Below.then HB3.out hb4
    clear hb4 HB3
    go_wp2_with fail
    go_ret
    exact ⟨rfl, HB4.out⟩
  · obtain ⟨rfl, h10, hrng, _⟩ := hc.good
    have HP : Hid (PSl w1 v (covs (nat f) len)) := hp
    have HV : Hid (∃ a' n' c', v = .slice a' n' c') := by obtain ⟨a', c', h, _⟩ := hp; exact ⟨a', _, c', h⟩
    clear hp
    obtain ⟨a', n', c', rfl⟩ := HV.out
    clear HV
    go_wp2_with fail
    refine (checkOrder_any len a len cap f _ hl K1.row).mono ?_
    rintro e w2 ⟨⟨c', rfl, hc'⟩, hb2⟩
    obtain rfl := Chk.unique hc' hc
    have HB2 : Hid (Below w.heap.size w w2) := Below.then HB1.out hb2
    have HP2 : Hid (PSl w2 _ (covs (nat f) len)) := HP.out.below hb2
    have K2 := K1.step hb2
    clear hb2 HB1 k0 k1 hc hc' K1 HP
    go_wp2_with fail
    refine (orderBegun_any _).mono ?_
    rintro e w3 ⟨rfl, hb3⟩
    have HB3 : Hid (Below w.heap.size w w3) := Below.then HB2.out hb3
    have HP3 : Hid (PSl w3 _ (covs (nat f) len)) := HP2.out.below hb3
    have K3 := K2.step hb3
    have k0 := K3.c0
    have k1 := K3.c1
    clear hb3 HB2 K2 HP2
    go_wp2_with fail
    refine (refCovers_any a len cap (nat f) _ h10 hrng.small (hrng.row K3.row)).mono ?_
    rintro e w4 ⟨⟨v4, rfl, hp4⟩, hb4⟩
    have HB4 : Hid (Below w.heap.size w w4) := Below.then HB3.out hb4
    have HP4 : Hid (PSl w4 _ (covs (nat f) len)) := HP3.out.below hb4
    have HQ4 : Hid (PSl w4 v4 (covs (nat f) len)) := hp4
    have HL : Hid ((covs (nat f) len).length ≤ 1000) := Nat.le_trans (allPairs_len _ len h10 len) (by omega)
    clear hb4 HB3 K3 k0 k1 HP3 hp4
    go_wp2_with fail
    refine (samePairs_any _ _ (covs (nat f) len) _ HL.out HP4.out HQ4.out).mono ?_
    rintro e w5 ⟨rfl, hb5⟩
    have HB5 : Hid (Below w.heap.size w w5) := Below.then HB4.out hb5
    clear hb5 HB4 HP4 HQ4 HL
    go_wp2_with fail
    go_ret
    exact ⟨rfl, HB5.out⟩
end Go.Proofs.Ytnjmelbnamgjcaa
