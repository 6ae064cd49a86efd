/-
  That hasselaw.scalesBegun answers true; the laws ScalesCosts and ScalesBest. Condition: a slice reads as a slice of numbers.
-/
import Derived.Test.YtipgojoiakbaiaaWoD
namespace Go.Proofs.Ytipgojoiakbaiaa
open Go.RowKit
set_option maxRecDepth 100000

theorem knw_row {w : World} {a : Option Addr} {n : Nat} {g : Nat → Nat} (h : Row w a n (fun k => (g k : Nat))) : Row w a n (fun k => (knw g n k : Nat)) := fun k hk => by
  obtain ⟨b, off, e, hc⟩ := h k hk
  have e2 : knw g n k = g k := by unfold knw; rw [if_pos hk]
  exact ⟨b, off, e, by rw [hc]; show _ = some (Value.int .i64 (knw g n k : Nat)); rw [e2]⟩
def lz (_ : Nat) : Int := 0
theorem lz_row (w : World) : Row (w.alloc (.cells #[.int .i64 0, .int .i64 0] 3)) (some ⟨w.heap.size, 0, none⟩) 2 lz := fun k hk => by
  refine ⟨w.heap.size, 0, rfl, ?_⟩
  match k, hk with
  | 0, _ => simp [lz]
  | 1, _ => simp [lz]
theorem lz_chk : WCk 2 2 lz 0 := by
  refine .inr ⟨.inr ⟨2, rfl, by omega, .inr ⟨rfl, .inr ⟨?_, .inr ⟨rfl, ?_⟩⟩⟩⟩, .inr ⟨by omega, rfl⟩⟩
  · unfold Rng; decide +kernel
  · unfold Ord OrdAt; decide +kernel
theorem lz_nx : (nx 2 (knw (nat lz) 2)).a = 0 ∧ (nx 2 (knw (nat lz) 2)).b = 1 ∧ cst 2 (knw (nat lz) 2) = 1 := by decide +kernel
set_option maxHeartbeats 2000000 in
theorem scalesBegun_any (w : World) : Calls Try.prog 12 #[] w fun e w' => e = .returned (.bool true) ∧ Below w.heap.size w w' := by
  have HR0 : Hid (Row (w.alloc (.cells #[.int .i64 0, .int .i64 0] 3)) (some ⟨w.heap.size, 0, none⟩) 2 lz) := lz_row w
  have HB0 : Hid (Below w.heap.size w (w.alloc (.cells #[.int .i64 0, .int .i64 0] 3))) := (Below.refl _ _).alloc (Nat.le_refl _) _
  go_enter Try.func12, Try.ntmps12
  go_wp2_with fail
  refine (cost_any 2 _ 2 2 lz _ (by unfold maxLen; omega) HR0.out).mono ?_
  rintro e w1 ⟨⟨c, v, rfl, hc, hv⟩, hb⟩
  obtain rfl : c = 0 := hc.unique lz_chk
  obtain rfl : v = 1 := by
    rcases hv with ⟨h, _⟩ | ⟨_, h⟩
    · exact absurd rfl h
    · rw [h, lz_nx.2.2]; rfl
  have HB1 : Hid (Below w.heap.size w w1) := Below.then HB0.out hb
  have HR1 : Hid (Row (w1.alloc (.cells #[.int .i64 0, .int .i64 0] 3)) (some ⟨w1.heap.size, 0, none⟩) 2 lz) := lz_row w1
  have HB2 : Hid (Below w.heap.size w (w1.alloc (.cells #[.int .i64 0, .int .i64 0] 3))) := HB1.out.alloc HB1.out.size _
  clear hc hv hb HR0 HB0
  go_wp2_with fail
  refine (best_any 2 _ 2 2 lz _ (by unfold maxLen; omega) HR1.out).mono ?_
  rintro e w2 ⟨⟨c, x, y, v, rfl, hc, hv⟩, hb⟩
  obtain rfl : c = 0 := hc.unique lz_chk
  obtain ⟨rfl, rfl, rfl⟩ : x = 0 ∧ y = 1 ∧ v = true := by
    rcases hv with ⟨h, _⟩ | ⟨_, h1, h2, h3⟩
    · exact absurd rfl h
    · refine ⟨by rw [h1, lz_nx.1]; rfl, by rw [h2, lz_nx.2.1]; rfl, by rw [h3, lz_nx.2.2]; rfl⟩
  have HB3 : Hid (Below w.heap.size w w2) := Below.then HB2.out hb
  clear hc hv hb
  go_wp2_with fail
  go_ret
  exact ⟨rfl, HB3.out⟩

set_option maxHeartbeats 2000000 in
theorem scalesCosts_any (n : Int) (a : Option Addr) (len cap : Nat) (f : Nat → Int) (w : World) (hl : len ≤ maxLen) (hr : Row w a len f) :
    Calls Try.prog 3 #[.agg #[.int .i64 n, .slice a len cap]] w fun e w' => e = .returned (.bool true) ∧ Below w.heap.size w w' := by
  have K0 : Held (w.alloc (.cells #[.int .i64 n, .slice a len cap] 24)) w.heap.size n a len cap f := Held.box hr
  have HB0 : Hid (Below w.heap.size w (w.alloc (.cells #[.int .i64 n, .slice a len cap] 24))) := (Below.refl _ _).alloc (Nat.le_refl _) _
  clear hr
  go_enter Try.func3, Try.ntmps3
  go_wp2_with fail
  refine (cost_any n a len cap f _ hl K0.row).mono ?_
  rintro e w1 ⟨⟨c, v, rfl, hc, hv⟩, hb⟩
  have K1 := K0.step hb
  have k0 := K1.c0
  have k1 := K1.c1
  have HB1 : Hid (Below w.heap.size w w1) := Below.then HB0.out hb
  have HC : Hid (WCk n len f c) := hc
  have HV : Hid ((c ≠ 0 ∧ v = 0) ∨ (c = 0 ∧ v = (cst len (knw (nat f) len) : Nat))) := hv
  clear hc hv hb K0 HB0
  go_wp2_with fail
  refine (weighed_any n a len cap f _ hl K1.row).mono ?_
  rintro e w2 ⟨⟨c', rfl, hc'⟩, hb2⟩
  obtain rfl := WCk.unique hc' HC.out
  have HB2 : Hid (Below w.heap.size w w2) := Below.then HB1.out hb2
  have K2 := K1.step hb2
  have m0 := K2.c0
  have m1 := K2.c1
  clear hb2 HB1 k0 k1 K1 hc'
  by_cases h0 : c' = 0
  · subst h0
    obtain ⟨rfl, h5, hrng, _⟩ := HC.out.good
    have hrow : Row w2 a len (fun k => (knw (nat f) len k : Nat)) := knw_row (hrng.row K2.row)
    have HRW : Hid (Row w2 a len (fun k => (knw (nat f) len k : Nat))) := hrow
    have HVV : Hid (v = (cst len (knw (nat f) len) : Nat)) := by
      rcases HV.out with ⟨h, _⟩ | ⟨_, h⟩
      · exact absurd rfl h
      · exact h
    have HWK := HC.out.wok
    clear hrng hrow K2
    go_wp2_with fail
    refine (costOf_any len a cap (knw (nat f) len) _ HWK HRW.out).mono ?_
    rintro e w3 ⟨rfl, hb3⟩
    have HB3 : Hid (Below w.heap.size w w3) := Below.then HB2.out hb3
    clear hb3 HB2 m0 m1
    go_wp2_with fail
    refine (scalesBegun_any _).mono ?_
    rintro e w4 ⟨rfl, hb4⟩
    have HB4 : Hid (Below w.heap.size w w4) := Below.then HB3.out hb4
    clear hb4 HB3
    go_wp2_with fail
    refine (numberIs_any 0 v _ _ (.inr ⟨rfl, HVV.out⟩)).mono ?_
    rintro e w5 ⟨rfl, rfl⟩
    go_wp2_with fail
    go_ret
    exact ⟨rfl, HB4.out⟩
  · have hne : (c' == 0) = false := by simpa using h0
    have HVV : Hid (v = 0) := by
      rcases HV.out with ⟨_, h⟩ | ⟨h, _⟩
      · exact h
      · exact absurd h h0
    clear K2 m0 m1
    go_wp2_with fail
    refine (scalesBegun_any _).mono ?_
    rintro e w4 ⟨rfl, hb4⟩
    have HB4 : Hid (Below w.heap.size w w4) := Below.then HB2.out hb4
    clear hb4 HB2
    go_wp2_with fail
    refine (numberIs_any c' v _ _ (.inl ⟨h0, HVV.out⟩)).mono ?_
    rintro e w5 ⟨rfl, rfl⟩
    go_wp2_with fail
    go_ret
    exact ⟨rfl, HB4.out⟩

set_option maxHeartbeats 2000000 in
theorem scalesBest_any (n : Int) (a : Option Addr) (len cap : Nat) (f : Nat → Int) (w : World) (hl : len ≤ maxLen) (hr : Row w a len f) :
    Calls Try.prog 4 #[.agg #[.int .i64 n, .slice a len cap]] w fun e w' => e = .returned (.bool true) ∧ Below w.heap.size w w' := by
  have K0 : Held (w.alloc (.cells #[.int .i64 n, .slice a len cap] 24)) w.heap.size n a len cap f := Held.box hr
  have HB0 : Hid (Below w.heap.size w (w.alloc (.cells #[.int .i64 n, .slice a len cap] 24))) := (Below.refl _ _).alloc (Nat.le_refl _) _
  clear hr
  go_enter Try.func4, Try.ntmps4
  go_wp2_with fail
  refine (best_any n a len cap f _ hl K0.row).mono ?_
  rintro e w1 ⟨⟨c, x, y, v, rfl, hc, hv⟩, hb⟩
  have K1 := K0.step hb
  have k0 := K1.c0
  have k1 := K1.c1
  have HB1 : Hid (Below w.heap.size w w1) := Below.then HB0.out hb
  have HC : Hid (WCk n len f c) := hc
  clear hc hb K0 HB0
  by_cases h0 : c = 0
  · subst h0
    obtain ⟨hx, hy, hv2⟩ : x = ((nx len (knw (nat f) len)).a : Nat) ∧ y = ((nx len (knw (nat f) len)).b : Nat) ∧ v = decide (0 < cst len (knw (nat f) len)) := by
      rcases hv with ⟨h, _⟩ | ⟨_, h⟩
      · exact absurd rfl h
      · exact h
    have HBP : Hid (∀ wx cap, Row wx a len (fun k => (knw (nat f) len k : Nat)) → Calls Try.prog 15 #[.agg #[.int .i64 (len : Nat), .slice a len cap]] wx fun e w' => e = .returned (.tuple #[.int .i64 x, .int .i64 y, .bool v]) ∧ Below wx.heap.size wx w') := fun wx cap h => by
      rw [hx, hy, hv2]; exact bestPair_any len a cap _ wx HC.out.wok h
    clear hv hx hy hv2
    go_wp2_with fail
    refine (weighed_any n a len cap f _ hl K1.row).mono ?_
    rintro e w2 ⟨⟨c', rfl, hc'⟩, hb2⟩
    obtain rfl := WCk.unique hc' HC.out
    obtain ⟨rfl, h5, hrng, _⟩ := HC.out.good
    have HB2 : Hid (Below w.heap.size w w2) := Below.then HB1.out hb2
    have K2 := K1.step hb2
    have m0 := K2.c0
    have m1 := K2.c1
    have HRW : Hid (Row w2 a len (fun k => (knw (nat f) len k : Nat))) := knw_row (hrng.row K2.row)
    clear hb2 HB1 k0 k1 K1 hc' hrng K2
    go_wp2_with fail
    refine (HBP.out _ cap HRW.out).mono ?_
    rintro e w3 ⟨rfl, hb3⟩
    have HB3 : Hid (Below w.heap.size w w3) := Below.then HB2.out hb3
    clear hb3 HB2 m0 m1
    go_wp2_with fail
    refine (scalesBegun_any _).mono ?_
    rintro e w4 ⟨rfl, hb4⟩
    have HB4 : Hid (Below w.heap.size w w4) := Below.then HB3.out hb4
    clear hb4 HB3
    cases v
    · go_wp2_with fail
      go_ret
      exact ⟨rfl, HB4.out⟩
    · go_wp2_with fail
      go_ret
      exact ⟨rfl, HB4.out⟩
  · have hne : (c == 0) = false := by simpa using h0
    obtain ⟨rfl, rfl, rfl⟩ : x = 0 ∧ y = 0 ∧ v = false := by
      rcases hv with ⟨_, h⟩ | ⟨h, _⟩
      · exact h
      · exact absurd h h0
    clear hv
    go_wp2_with fail
    refine (weighed_any n a len cap f _ hl K1.row).mono ?_
    rintro e w2 ⟨⟨c', rfl, hc'⟩, hb2⟩
    obtain rfl := WCk.unique hc' HC.out
    have HB2 : Hid (Below w.heap.size w w2) := Below.then HB1.out hb2
    clear hb2 HB1 k0 k1 K1 hc'
    go_wp2_with fail
    refine (scalesBegun_any _).mono ?_
    rintro e w4 ⟨rfl, hb4⟩
    have HB4 : Hid (Below w.heap.size w w4) := Below.then HB2.out hb4
    clear hb4 HB2
    go_wp2_with fail
    go_ret
    exact ⟨rfl, HB4.out⟩
end Go.Proofs.Ytipgojoiakbaiaa
