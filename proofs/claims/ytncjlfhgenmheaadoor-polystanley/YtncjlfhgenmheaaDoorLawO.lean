/-
  hasselaw.PolyOnto and hasselaw.PolyValues return true for every order (and number). Conditions: a slice reads as a slice of numbers; the table of the least bits.
-/
import Derived.Test.YtncjlfhgenmheaaDoorOntR
namespace Go.Proofs.YtncjlfhgenmheaaDoor
open Go.RowKit Go.Maps

theorem numbersAreI_any (c : Int) (n : Nat) (F : Nat → Int) (v v' : Value) (w : World) (hl : n ≤ maxLen) (h1 : (c ≠ 0 ∧ v = .slice none 0 0 ∧ v' = .slice none 0 0) ∨ (c = 0 ∧ ISl w v n F ∧ ISl w v' n F)) :
    Calls Tryd.prog 13 #[v, .int .i64 c, .int .i64 c, v'] w fun e w' => e = .returned (.bool true) ∧ Below w.heap.size w w' := by
  rcases h1 with ⟨h0, rfl, rfl⟩ | ⟨rfl, ⟨a, ca, rfl, hr⟩, ⟨b, cb, rfl, hr'⟩⟩
  · have hne : (c != 0) = true := by simpa using h0
    go_enter Tryd.func13, Tryd.ntmps13
    go_wp2_with fail
    refine (same_any none none 0 0 0 0 (fun _ => 0) (fun _ => 0) _ (by unfold maxLen; omega) (by unfold maxLen; omega) (fun k hk => absurd hk (Nat.not_lt_zero _)) (fun k hk => absurd hk (Nat.not_lt_zero _))).mono ?_
    rintro e w1 ⟨⟨q, rfl, hq⟩, hB⟩
    obtain rfl : q = true := hq.2 ⟨rfl, fun _ _ => rfl⟩
    have HB : Hid (Below w.heap.size w w1) := hB
    clear hq hB
    go_wp2_with fail
    go_ret
    exact ⟨rfl, HB.out⟩
  · have HA : Hid (Row w a n F) := hr
    have HB' : Hid (Row w b n F) := hr'
    clear hr hr'
    go_enter Tryd.func13, Tryd.ntmps13
    go_wp2_with fail
    refine (same_any a b n ca n cb F F _ hl hl HA.out HB'.out).mono ?_
    rintro e w1 ⟨⟨q, rfl, hq⟩, hB⟩
    obtain rfl : q = true := hq.2 ⟨rfl, fun _ _ => rfl⟩
    have HB : Hid (Below w.heap.size w w1) := hB
    clear hq hB
    go_wp2_with fail
    go_ret
    exact ⟨rfl, HB.out⟩
theorem numberIs_any (c v v' : Int) (w : World) (h : (c ≠ 0 ∧ v = 0) ∨ (c = 0 ∧ v = v')) :
    Calls Tryd.prog 17 #[.int .i64 v, .int .i64 c, .int .i64 c, .int .i64 v'] w fun e w' => e = .returned (.bool true) ∧ w = w' := by
  have hcc : (c == c) = true := beq_self_eq_true _
  rcases h with ⟨h0, rfl⟩ | ⟨rfl, rfl⟩
  · have hne : (c != 0) = true := by simpa using h0
    go_enter Tryd.func17, Tryd.ntmps17
    go_wp2_with fail
    go_ret
    exact ⟨rfl, rfl⟩
  · have hvv : (v == v) = true := beq_self_eq_true _
    go_enter Tryd.func17, Tryd.ntmps17
    go_wp2_with fail
    go_ret
    exact ⟨rfl, rfl⟩
set_option maxHeartbeats 1000000 in
theorem steps_any (N : Int) (a : Option Addr) (len cap : Nat) (f : Nat → Int) (n least : Int) (w : World) (hl : len ≤ maxLen) (hr : Row w a len f) :
    Calls Tryd.prog 15 #[.agg #[.int .i64 N, .slice a len cap], .int .i64 n, .int .i64 least] w fun e w' => (∃ c, e = .returned (.int .i64 c) ∧ StCk N len f n least c) ∧ Below w.heap.size w w' := by
  have K0 : Held (w.alloc (.cells #[.int .i64 N, .slice a len cap] 24)) w.heap.size N a len cap f := Held.box hr
  have HB0 : Hid (Below w.heap.size w (w.alloc (.cells #[.int .i64 N, .slice a len cap] 24))) := (Below.refl _ _).alloc (Nat.le_refl _) _
  clear hr
  go_enter Tryd.func15, Tryd.ntmps15
  go_wp2_with fail
  refine (checkOrder_any N a len cap f _ hl K0.row).mono ?_
  rintro e w1 ⟨⟨c, rfl, hc⟩, hb⟩
  have HB1 : Hid (Below w.heap.size w w1) := Below.then HB0.out hb
  have HC : Hid (Chk N len f c) := hc
  clear hb K0 HB0 hc
  by_cases h0 : c = 0
  · subst h0
    by_cases h1 : n < least
    · have HK : Hid (StCk N len f n least 3) := .inr ⟨HC.out, .inl ⟨rfl, .inl h1⟩⟩
      go_wp2_with fail
      go_ret
      exact ⟨⟨3, rfl, HK.out⟩, HB1.out⟩
    · by_cases h2 : 20 < n
      · have HK : Hid (StCk N len f n least 3) := .inr ⟨HC.out, .inl ⟨rfl, .inr h2⟩⟩
        have h1' : decide (n < least) = false := by simpa using h1
        have h2' : decide (20 < n) = true := by simpa using h2
        go_wp2_with fail
        go_ret
        exact ⟨⟨3, rfl, HK.out⟩, HB1.out⟩
      · have HK : Hid (StCk N len f n least 0) := .inr ⟨HC.out, .inr ⟨rfl, by omega, by omega⟩⟩
        have h1' : decide (n < least) = false := by simpa using h1
        have h2' : decide (20 < n) = false := by simpa using h2
        go_wp2_with fail
        go_ret
        exact ⟨⟨0, rfl, HK.out⟩, HB1.out⟩
  · have hne : (c == 0) = false := by simpa using h0
    have HK : Hid (StCk N len f n least c) := .inl ⟨h0, HC.out⟩
    go_wp2_with fail
    go_ret
    exact ⟨⟨c, rfl, HK.out⟩, HB1.out⟩

set_option maxHeartbeats 2000000 in
theorem polyOnto_any (n : Int) (a : Option Addr) (len cap : Nat) (f : Nat → Int) (w : World) (hl : len ≤ maxLen) (hr : Row w a len f) (hT : Tab w) :
    Calls Tryd.prog 3 #[.agg #[.int .i64 n, .slice a len cap]] w fun e w' => e = .returned (.bool true) ∧ Below w.heap.size w w' := by
  have K0 : Held (w.alloc (.cells #[.int .i64 n, .slice a len cap] 24)) w.heap.size n a len cap f := Held.box hr
  have HB0 : Hid (Below w.heap.size w (w.alloc (.cells #[.int .i64 n, .slice a len cap] 24))) := (Below.refl _ _).alloc (Nat.le_refl _) _
  have HT : Hid (Tab w) := hT
  clear hr hT
  go_enter Tryd.func3, Tryd.ntmps3
  go_wp2_with fail
  refine (onto_any n a len cap f _ hl K0.row).mono ?_
  rintro e w1 ⟨⟨c, v, hc, rfl, he⟩, hb⟩
  have K1 := K0.step hb
  have k0 := K1.c0
  have k1 := K1.c1
  have HB1 : Hid (Below w.heap.size w w1) := Below.then HB0.out hb
  clear hb K0 HB0
  rcases he with ⟨h0, rfl⟩ | ⟨rfl, b, rfl, hp⟩
  · have hne2 : (c == 0) = false := by simpa using h0
    go_wp2_with fail
    refine (checkOrder_any n a len cap f _ hl K1.row).mono ?_
    rintro e w2 ⟨⟨c', rfl, hc'⟩, hb2⟩
    obtain rfl := Chk.unique hc' hc
    have HB2 : Hid (Below w.heap.size w w2) := Below.then HB1.out hb2
    clear hb2 HB1 K1 k0 k1 hc hc'
    go_wp2_with fail
    refine (polyBegun_any _ (HT.out.step HB2.out)).mono ?_
    rintro e w3 ⟨rfl, hb3⟩
    have HB3 : Hid (Below w.heap.size w w3) := Below.then HB2.out hb3
    clear hb3 HB2
    go_wp2_with fail
    refine (numbersAreI_any c' 0 (fun _ => 0) _ _ _ (by unfold maxLen; omega) (.inl ⟨h0, rfl, rfl⟩)).mono ?_
    rintro e w4 ⟨rfl, hb4⟩
    have HB4 : Hid (Below w.heap.size w w4) := Below.then HB3.out hb4
    clear hb4 HB3
    go_wp2_with fail
    go_ret
    exact ⟨rfl, HB4.out⟩
  · obtain ⟨rfl, h10, hrng, _⟩ := hc.good
    have HP : Hid (ISl w1 (.slice (some ⟨b, 0, none⟩) (len + 1 : Nat) (len + 1 : Nat)) (len + 1) (fun k => wz (onF (nat f) len k))) := ⟨_, _, rfl, hp⟩
    clear hp
    go_wp2_with fail
    refine (checkOrder_any len a len cap f _ hl K1.row).mono ?_
    rintro e w2 ⟨⟨c', rfl, hc'⟩, hb2⟩
    obtain rfl := Chk.unique hc' hc
    have HB2 : Hid (Below w.heap.size w w2) := Below.then HB1.out hb2
    have HP2 := HP.out.below hb2
    have HP2' : Hid (ISl w2 (.slice (some ⟨b, 0, none⟩) (len + 1 : Nat) (len + 1 : Nat)) (len + 1) (fun k => wz (onF (nat f) len k))) := HP2
    have K2 := K1.step hb2
    have m0 := K2.c0
    have m1 := K2.c1
    clear hb2 HB1 k0 k1 hc hc' K1 HP HP2
    go_wp2_with fail
    refine (ontoOf_any len a cap (nat f) _ h10 hrng.small (hrng.row K2.row)).mono ?_
    rintro e w3 ⟨⟨v3, rfl, hv3⟩, hb3⟩
    have HB3 : Hid (Below w.heap.size w w3) := Below.then HB2.out hb3
    have HP3 : Hid (ISl w3 (.slice (some ⟨b, 0, none⟩) (len + 1 : Nat) (len + 1 : Nat)) (len + 1) (fun k => wz (onF (nat f) len k))) := HP2'.out.below hb3
    have HQ3 : Hid (ISl w3 v3 (len + 1) (fun k => wz (onF (nat f) len k))) := hv3
    clear hb3 HB2 K2 HP2' hv3 m0 m1
    go_wp2_with fail
    refine (polyBegun_any _ (HT.out.step HB3.out)).mono ?_
    rintro e w4 ⟨rfl, hb4⟩
    have HB4 : Hid (Below w.heap.size w w4) := Below.then HB3.out hb4
    have HP4 : Hid (ISl w4 (.slice (some ⟨b, 0, none⟩) (len + 1 : Nat) (len + 1 : Nat)) (len + 1) (fun k => wz (onF (nat f) len k))) := HP3.out.below hb4
    have HQ4 : Hid (ISl w4 v3 (len + 1) (fun k => wz (onF (nat f) len k))) := HQ3.out.below hb4
    clear hb4 HB3 HP3 HQ3
    go_wp2_with fail
    refine (numbersAreI_any 0 (len + 1) (fun k => wz (onF (nat f) len k)) _ _ _ (by unfold maxLen; omega) (.inr ⟨rfl, HP4.out, HQ4.out⟩)).mono ?_
    rintro e w5 ⟨rfl, hb5⟩
    have HB5 : Hid (Below w.heap.size w w5) := Below.then HB4.out hb5
    clear hb5 HB4 HP4 HQ4
    go_wp2_with fail
    go_ret
    exact ⟨rfl, HB5.out⟩

theorem refBin_quiet (n : Int) (h1 : -25 ≤ n) (h2 : n < 25) (k : Nat) (hk : k < 12) (w : World) :
    Calls Tryd.prog 16 #[.int .i64 n, .int .i64 (k : Nat)] w fun e w' => e = .returned (.int .i64 (bn n k)) ∧ w' = w :=
  (refBin_any n h1 h2 k hk w).mono fun _ _ ⟨h, h'⟩ => ⟨h, h'.symm⟩
theorem ad_stepI (F : Nat → Int) (n : Int) (k : Nat) : IntKind.i64.wrap (wz (adB F n k) + IntKind.i64.wrap (wz (F k) * bn n k)) = wz (adB F n (k + 1)) := by
  rw [IntWalk.i64_left, IntWalk.i64_left]; exact ad_step F n k
set_option maxHeartbeats 2000000 in
theorem polyValues_any (N : Int) (a : Option Addr) (len cap : Nat) (f : Nat → Int) (n : Int) (w : World) (hl : len ≤ maxLen) (hr : Row w a len f) (hT : Tab w) :
    Calls Tryd.prog 4 #[.agg #[.int .i64 N, .slice a len cap], .int .i64 n] w fun e w' => e = .returned (.bool true) ∧ Below w.heap.size w w' := by
  have K0 : Held (w.alloc (.cells #[.int .i64 N, .slice a len cap] 24)) w.heap.size N a len cap f := Held.box hr
  have HB0 : Hid (Below w.heap.size w (w.alloc (.cells #[.int .i64 N, .slice a len cap] 24))) := (Below.refl _ _).alloc (Nat.le_refl _) _
  have HT : Hid (Tab w) := hT
  clear hr hT
  go_enter Tryd.func4, Tryd.ntmps4
  go_wp2_with fail
  refine (value_any N a len cap f n _ hl K0.row).mono ?_
  rintro e w1 ⟨⟨c, v, hc, rfl, he⟩, hb⟩
  have K1 := K0.step hb
  have k0 := K1.c0
  have k1 := K1.c1
  have HB1 : Hid (Below w.heap.size w w1) := Below.then HB0.out hb
  have HC : Hid (StCk N len f n (-20) c) := hc
  clear hb K0 HB0 hc
  rcases he with ⟨h0, rfl⟩ | ⟨rfl, rfl⟩
  · have hne2 : (c == 0) = false := by simpa using h0
    go_wp2_with fail
    refine (steps_any N a len cap f n (-20) _ hl K1.row).mono ?_
    rintro e w2 ⟨⟨c', rfl, hc'⟩, hb2⟩
    obtain rfl := StCk.unique hc' HC.out
    have HB2 : Hid (Below w.heap.size w w2) := Below.then HB1.out hb2
    clear hb2 HB1 K1 k0 k1 hc'
    go_wp2_with fail
    refine (polyBegun_any _ (HT.out.step HB2.out)).mono ?_
    rintro e w3 ⟨rfl, hb3⟩
    have HB3 : Hid (Below w.heap.size w w3) := Below.then HB2.out hb3
    clear hb3 HB2
    go_wp2_with fail
    refine (numberIs_any c' 0 0 _ (.inl ⟨h0, rfl⟩)).mono ?_
    rintro e w4 ⟨rfl, rfl⟩
    go_wp2_with fail
    go_ret
    exact ⟨rfl, HB3.out⟩
  · obtain ⟨hck, hn1, hn2⟩ := HC.out.good
    obtain ⟨rfl, h10, hrng, _⟩ := hck.good
    go_wp2_with fail
    refine (steps_any len a len cap f n (-20) _ hl K1.row).mono ?_
    rintro e w2 ⟨⟨c', rfl, hc'⟩, hb2⟩
    obtain rfl := StCk.unique hc' HC.out
    have HB2 : Hid (Below w.heap.size w w2) := Below.then HB1.out hb2
    have K2 := K1.step hb2
    have m0 := K2.c0
    have m1 := K2.c1
    clear hb2 HB1 k0 k1 hc' K1
    go_wp2_with fail
    refine (ontoOf_any len a cap (nat f) _ h10 hrng.small (hrng.row K2.row)).mono ?_
    rintro e w3 ⟨⟨v3, rfl, hv3⟩, hb3⟩
    have HB3 : Hid (Below w.heap.size w w3) := Below.then HB2.out hb3
    obtain ⟨a3, c3, rfl, hr3⟩ := hv3
    have HR : Hid (Row w3 a3 (len + 1) (fun k => wz (onF (nat f) len k))) := hr3
    have HV : Hid (valV (nat f) len n = adB (onF (nat f) len) n (len + 1)) := rfl
    clear hb3 HB2 K2 hr3 m0 m1 hck hrng
    generalize valV (nat f) len n = VV at *
    generalize onF (nat f) len = F at *
    go_wp2_with fail
    go_loopw [8, 10] (fun x i wx => ∃ j : Nat, j ≤ len + 1 ∧ i = .int .i64 (j : Nat) ∧ x = .int .i64 (wz (adB F n j)) ∧ Hid (Below w3.heap.size w3 wx)) (fun _ i _ => len + 1 - (intOf i).toNat)
    case atStart => exact ⟨0, Nat.zero_le _, rfl, by simp [adB, sumI, wz], Below.refl _ _⟩
    case round =>
      obtain ⟨j, hj, rfl, rfl, HW⟩ := hrel
      by_cases hjk : j < len + 1
      · obtain ⟨b', off', rfl, hcc⟩ := (HR.out.below HW.out).at hjk
        have hck := hcc j hjk
        have hlr : (j : Int) < ((len + 1 : Nat) : Int) := by omega
        have HY : Hid (wrap64 (wz (adB F n j) + wrap64 (wz (F j) * bn n j)) = wz (adB F n (j + 1))) := ad_step F n j
        clear hcc
        generalize wz (F j) = Y at *
        generalize wz (adB F n j) = X at *
        generalize hZ : wz (adB F n (j + 1)) = Z at *
        have HZ : Hid (wz (adB F n (j + 1)) = Z) := hZ
        clear hZ
        go_wp2_with fail
        go_big_quiet (first | (go_at_call 16; exact Calls.quiet_of_same (refBin_quiet _ (by omega) (by omega) _ (by omega) _)))
        have HW7 : Hid (Below w3.heap.size w3 (wr.drewN nq)) := below_drewN HW.out _
        clear HW hck
        generalize wr.drewN nq = W3 at *
        go_wp2_with fail
        go_roundw
        case rel => exact ⟨j + 1, by omega, by go_num, by rw [HZ.out, ← HY.out], HW7.out⟩
        case measure => simp [intOf]; omega
      · have hge : ((len + 1 : Nat) : Int) ≤ (j : Int) := by omega
        have HB4 : Hid (Below w.heap.size w wr) := Below.then HB3.out HW.out
        have HE : Hid (wz VV = wz (adB F n j)) := by
          show _ = _
          rw [HV.out, show j = len + 1 by omega]
        clear HW
        go_wp2_with fail
        refine (polyBegun_any _ (HT.out.step HB4.out)).mono ?_
        rintro e w5 ⟨rfl, hb5⟩
        have HB5 : Hid (Below w.heap.size w w5) := Below.then HB4.out hb5
        clear hb5 HB4
        go_wp2_with fail
        refine (numberIs_any 0 (wz VV) (wz (adB F n j)) _ (.inr ⟨rfl, HE.out⟩)).mono ?_
        rintro e w6 ⟨rfl, rfl⟩
        go_wp2_with fail
        go_ret
        exact ⟨rfl, HB5.out⟩
end Go.Proofs.YtncjlfhgenmheaaDoor
