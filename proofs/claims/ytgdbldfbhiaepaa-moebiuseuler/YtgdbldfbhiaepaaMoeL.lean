/-
  For every order and numbers that are handed in, hasselaw.MoebiusSums, MoebiusUndo and MoebiusEuler return true, and write nothing that was there. No condition.
-/
import Derived.Test.YtgdbldfbhiaepaaRefSm
import Derived.Test.YtgdbldfbhiaepaaMBeg
namespace Go.Proofs.Ytgdbldfbhiaepaa
open Go.RowKit Go.Maps

theorem SmCk.good {n : Int} {len : Nat} {f : Nat → Int} {la : Nat} {F : Nat → Int} (h : SmCk n len f la F 0) : Chk n len f 0 ∧ la = len ∧ ∀ k, k < la → inR (F k) := by
  rcases h with ⟨h, _⟩ | ⟨h, ⟨h1, _⟩ | ⟨h1, ⟨h2, _⟩ | ⟨_, h3⟩⟩⟩
  · exact absurd rfl h
  · cases h1
  · cases h2
  · exact ⟨h, h1, h3⟩
theorem inR_row {w : World} {a : Option Addr} {n : Nat} {F : Nat → Int} (h : Row w a n F) (hi : ∀ k, k < n → inR (F k)) : Row w a n (fun k => wz (F k)) :=
  h.congr fun k hk => (wz_small (by have := (hi k hk).1; omega) (by have := (hi k hk).2; omega)).symm

set_option maxHeartbeats 2000000 in
theorem moebiusSums_any (n : Int) (a : Option Addr) (len cap : Nat) (f : Nat → Int) (a' : Option Addr) (la cap' : Nat) (F : Nat → Int) (w : World) (hl : len ≤ maxLen) (hla : la ≤ maxLen) (hr : Row w a len f) (hr' : Row w a' la F) :
    Calls Try.prog 5 #[.agg #[.int .i64 n, .slice a len cap], .slice a' la cap'] w fun e w' => e = .returned (.bool true) ∧ Below w.heap.size w w' := by
  have K0 : Held (w.alloc (.cells #[.int .i64 n, .slice a len cap] 24)) w.heap.size n a len cap f := Held.box hr
  have HB0 : Hid (Below w.heap.size w (w.alloc (.cells #[.int .i64 n, .slice a len cap] 24))) := (Below.refl _ _).alloc (Nat.le_refl _) _
  have HR : Hid (Row w a' la F) := hr'
  have HL : Hid (len ≤ maxLen) := hl
  have HLA : Hid (la ≤ maxLen) := hla
  clear hr hr' hl hla
  go_enter Try.func5, Try.ntmps5
  go_wp2_with fail
  refine (sums_any n a len cap f a' la cap' F _ HL.out HLA.out K0.row (HR.out.below HB0.out)).mono ?_
  rintro e w1 ⟨⟨c, v, hc, rfl, he⟩, hb⟩
  have K1 := K0.step hb
  have k0 := K1.c0
  have k1 := K1.c1
  have HB1 : Hid (Below w.heap.size w w1) := Below.then HB0.out hb
  have HC : Hid (SmCk n len f la F c) := hc
  have HE : Hid ((c ≠ 0 ∧ v = .slice none 0 0) ∨ (c = 0 ∧ ISl w1 v len (smI (nat f) F len))) := he
  clear hb K0 HB0 hc he
  go_wp2_with fail
  refine (checkSums_any n a len cap f a' la cap' F _ HL.out HLA.out K1.row (HR.out.below HB1.out)).mono ?_
  rintro e w2 ⟨⟨c', rfl, hc'⟩, hb2⟩
  obtain rfl := SmCk.unique hc' HC.out
  have K2 := K1.step hb2
  have m0 := K2.c0
  have m1 := K2.c1
  have HB2 : Hid (Below w.heap.size w w2) := Below.then HB1.out hb2
  have HE2 : Hid ((c' ≠ 0 ∧ v = .slice none 0 0) ∨ (c' = 0 ∧ ISl w2 v len (smI (nat f) F len))) := HE.out.imp id fun h => ⟨h.1, h.2.below hb2⟩
  clear hb2 hc' HB1 HE k0 k1 K1
  by_cases h0 : c' = 0
  · subst h0
    obtain ⟨hck, rfl, hin⟩ := HC.out.good
    obtain ⟨rfl, h10, hrng, hord⟩ := hck.good
    have HP : Hid (ISl w2 v la (smI (nat f) F la)) := by
      rcases HE2.out with ⟨h, _⟩ | ⟨_, h⟩
      · exact absurd rfl h
      · exact h
    have HRF : Hid (Row w2 a' la (fun k => wz (F k))) := inR_row (HR.out.below HB2.out) hin
    have HRW : Hid (Row w2 a la (fun k => (nat f k : Nat))) := hrng.row K2.row
    have HG : Hid (∀ k, k < la → nat f k < pw la) := hrng.small
    clear hck hin hrng hord HE2 K2
    go_wp2_with fail
    refine (sumsOf_any la a cap (nat f) a' cap' F w2 h10 HG.out HRW.out HRF.out).mono ?_
    rintro e w3 ⟨⟨v3, rfl, hv3⟩, hb3⟩
    have HB3 : Hid (Below w.heap.size w w3) := Below.then HB2.out hb3
    have HP3 : Hid (ISl w3 v la (smI (nat f) F la)) := HP.out.below hb3
    have HQ3 : Hid (ISl w3 v3 la (smI (nat f) F la)) := hv3
    clear hb3 hv3 HB2 HP HRF HRW m0 m1
    go_wp2_with fail
    refine (moebiusBegun_any _).mono ?_
    rintro e w4 ⟨rfl, hb4⟩
    have HB4 : Hid (Below w.heap.size w w4) := Below.then HB3.out hb4
    have HP4 : Hid (ISl w4 v la (smI (nat f) F la)) := HP3.out.below hb4
    have HQ4 : Hid (ISl w4 v3 la (smI (nat f) F la)) := HQ3.out.below hb4
    clear hb4 HB3 HP3 HQ3
    go_wp2_with fail
    refine (numsI_any 0 la _ v v3 w4 HLA.out (.inr ⟨rfl, HP4.out, HQ4.out⟩)).mono ?_
    rintro e w5 ⟨rfl, hb5⟩
    have HB5 : Hid (Below w.heap.size w w5) := Below.then HB4.out hb5
    clear hb5 HB4 HP4 HQ4
    go_wp2_with fail
    go_ret
    exact ⟨rfl, HB5.out⟩
  · have hv : v = .slice none 0 0 := by
      rcases HE2.out with ⟨_, h⟩ | ⟨h, _⟩
      · exact h
      · exact absurd h h0
    subst hv
    have hne : (c' == 0) = false := by simpa using h0
    clear HE2
    go_wp2_with fail
    refine (moebiusBegun_any _).mono ?_
    rintro e w4 ⟨rfl, hb4⟩
    have HB4 : Hid (Below w.heap.size w w4) := Below.then HB2.out hb4
    clear hb4 HB2
    go_wp2_with fail
    refine (numsI_any c' 0 (fun _ => 0) _ _ w4 (Nat.zero_le _) (.inl ⟨h0, rfl, rfl⟩)).mono ?_
    rintro e w5 ⟨rfl, hb5⟩
    have HB5 : Hid (Below w.heap.size w w5) := Below.then HB4.out hb5
    clear hb5 HB4
    go_wp2_with fail
    go_ret
    exact ⟨rfl, HB5.out⟩
set_option maxHeartbeats 2000000 in
theorem moebiusUndo_any (n : Int) (a : Option Addr) (len cap : Nat) (f : Nat → Int) (a' : Option Addr) (la cap' : Nat) (F : Nat → Int) (w : World) (hl : len ≤ maxLen) (hla : la ≤ maxLen) (hr : Row w a len f) (hr' : Row w a' la F) :
    Calls Try.prog 6 #[.agg #[.int .i64 n, .slice a len cap], .slice a' la cap'] w fun e w' => e = .returned (.bool true) ∧ Below w.heap.size w w' := by
  have K0 : Held (w.alloc (.cells #[.int .i64 n, .slice a len cap] 24)) w.heap.size n a len cap f := Held.box hr
  have HB0 : Hid (Below w.heap.size w (w.alloc (.cells #[.int .i64 n, .slice a len cap] 24))) := (Below.refl _ _).alloc (Nat.le_refl _) _
  have HR : Hid (Row w a' la F) := hr'
  have HL : Hid (len ≤ maxLen) := hl
  have HLA : Hid (la ≤ maxLen) := hla
  clear hr hr' hl hla
  go_enter Try.func6, Try.ntmps6
  go_wp2_with fail
  refine (undoX_any n a len cap f a' la cap' F _ HL.out HLA.out K0.row (HR.out.below HB0.out)).mono ?_
  rintro e w1 ⟨⟨c, v, hc, rfl, he⟩, hb⟩
  have K1 := K0.step hb
  have k0 := K1.c0
  have k1 := K1.c1
  have HB1 : Hid (Below w.heap.size w w1) := Below.then HB0.out hb
  have HC : Hid (SmCk n len f la F c) := hc
  have HE : Hid ((c ≠ 0 ∧ v = .slice none 0 0) ∨ (c = 0 ∧ ISl w1 v len (unI (nat f) F len))) := he
  clear hb K0 HB0 hc he
  go_wp2_with fail
  refine (checkSums_any n a len cap f a' la cap' F _ HL.out HLA.out K1.row (HR.out.below HB1.out)).mono ?_
  rintro e w2 ⟨⟨c', rfl, hc'⟩, hb2⟩
  obtain rfl := SmCk.unique hc' HC.out
  have K2 := K1.step hb2
  have m0 := K2.c0
  have m1 := K2.c1
  have HB2 : Hid (Below w.heap.size w w2) := Below.then HB1.out hb2
  have HE2 : Hid ((c' ≠ 0 ∧ v = .slice none 0 0) ∨ (c' = 0 ∧ ISl w2 v len (unI (nat f) F len))) := HE.out.imp id fun h => ⟨h.1, h.2.below hb2⟩
  clear hb2 hc' HB1 HE k0 k1 K1
  by_cases h0 : c' = 0
  · subst h0
    obtain ⟨hck, rfl, hin⟩ := HC.out.good
    obtain ⟨rfl, h10, hrng, hord⟩ := hck.good
    have HP : Hid (ISl w2 v la (unI (nat f) F la)) := by
      rcases HE2.out with ⟨h, _⟩ | ⟨_, h⟩
      · exact absurd rfl h
      · exact h
    have HRF : Hid (Row w2 a' la (fun k => wz (F k))) := inR_row (HR.out.below HB2.out) hin
    have HRW : Hid (Row w2 a la (fun k => (nat f k : Nat))) := hrng.row K2.row
    have HG : Hid (∀ k, k < la → nat f k < pw la) := hrng.small
    have HO : Hid (Ord la (nat f)) := hord
    clear hck hin hrng hord HE2 K2
    go_wp2_with fail
    refine (undoOf_any la a cap (nat f) a' cap' F w2 h10 HG.out HO.out HRW.out HRF.out).mono ?_
    rintro e w3 ⟨⟨v3, rfl, hv3⟩, hb3⟩
    have HB3 : Hid (Below w.heap.size w w3) := Below.then HB2.out hb3
    have HP3 : Hid (ISl w3 v la (unI (nat f) F la)) := HP.out.below hb3
    have HQ3 : Hid (ISl w3 v3 la (unI (nat f) F la)) := hv3
    clear hb3 hv3 HB2 HP HRF HRW m0 m1
    go_wp2_with fail
    refine (moebiusBegun_any _).mono ?_
    rintro e w4 ⟨rfl, hb4⟩
    have HB4 : Hid (Below w.heap.size w w4) := Below.then HB3.out hb4
    have HP4 : Hid (ISl w4 v la (unI (nat f) F la)) := HP3.out.below hb4
    have HQ4 : Hid (ISl w4 v3 la (unI (nat f) F la)) := HQ3.out.below hb4
    clear hb4 HB3 HP3 HQ3
    go_wp2_with fail
    refine (numsI_any 0 la _ v v3 w4 HLA.out (.inr ⟨rfl, HP4.out, HQ4.out⟩)).mono ?_
    rintro e w5 ⟨rfl, hb5⟩
    have HB5 : Hid (Below w.heap.size w w5) := Below.then HB4.out hb5
    clear hb5 HB4 HP4 HQ4
    go_wp2_with fail
    go_ret
    exact ⟨rfl, HB5.out⟩
  · have hv : v = .slice none 0 0 := by
      rcases HE2.out with ⟨_, h⟩ | ⟨h, _⟩
      · exact h
      · exact absurd h h0
    subst hv
    have hne : (c' == 0) = false := by simpa using h0
    clear HE2
    go_wp2_with fail
    refine (moebiusBegun_any _).mono ?_
    rintro e w4 ⟨rfl, hb4⟩
    have HB4 : Hid (Below w.heap.size w w4) := Below.then HB2.out hb4
    clear hb4 HB2
    go_wp2_with fail
    refine (numsI_any c' 0 (fun _ => 0) _ _ w4 (Nat.zero_le _) (.inl ⟨h0, rfl, rfl⟩)).mono ?_
    rintro e w5 ⟨rfl, hb5⟩
    have HB5 : Hid (Below w.heap.size w w5) := Below.then HB4.out hb5
    clear hb5 HB4
    go_wp2_with fail
    go_ret
    exact ⟨rfl, HB5.out⟩
set_option maxHeartbeats 2000000 in
theorem moebiusEuler_any (n : Int) (a : Option Addr) (len cap : Nat) (f : Nat → Int) (w : World) (hl : len ≤ maxLen) (hr : Row w a len f) :
    Calls Try.prog 7 #[.agg #[.int .i64 n, .slice a len cap]] w fun e w' => e = .returned (.bool true) ∧ Below w.heap.size w w' := by
  have K0 : Held (w.alloc (.cells #[.int .i64 n, .slice a len cap] 24)) w.heap.size n a len cap f := Held.box hr
  have HB0 : Hid (Below w.heap.size w (w.alloc (.cells #[.int .i64 n, .slice a len cap] 24))) := (Below.refl _ _).alloc (Nat.le_refl _) _
  have HL : Hid (len ≤ maxLen) := hl
  clear hr hl
  go_enter Try.func7, Try.ntmps7
  go_wp2_with fail
  refine (euler_any n a len cap f _ HL.out K0.row).mono ?_
  rintro e w1 ⟨⟨c, v, hc, rfl, he⟩, hb⟩
  have K1 := K0.step hb
  have k0 := K1.c0
  have k1 := K1.c1
  have HB1 : Hid (Below w.heap.size w w1) := Below.then HB0.out hb
  have HC : Hid (Chk n len f c) := hc
  clear hb K0 HB0 hc
  rcases he with ⟨h0, rfl⟩ | ⟨rfl, rfl⟩
  · go_wp2_with fail
    refine (checkOrder_any n a len cap f _ HL.out K1.row).mono ?_
    rintro e w2 ⟨⟨c', rfl, hc'⟩, hb2⟩
    obtain rfl := Chk.unique hc' HC.out
    have HB2 : Hid (Below w.heap.size w w2) := Below.then HB1.out hb2
    have hne : (c' == 0) = false := by simpa using h0
    clear hb2 hc' HB1 k0 k1 K1
    go_wp2_with fail
    refine (moebiusBegun_any _).mono ?_
    rintro e w4 ⟨rfl, hb4⟩
    have HB4 : Hid (Below w.heap.size w w4) := Below.then HB2.out hb4
    clear hb4 HB2
    go_wp2_with fail
    refine (numI_any c' 0 0 w4 (.inl ⟨h0, rfl⟩)).mono ?_
    rintro e w5 ⟨rfl, hb5⟩
    have HB5 : Hid (Below w.heap.size w w5) := Below.then HB4.out hb5
    clear hb5 HB4
    go_wp2_with fail
    go_ret
    exact ⟨rfl, HB5.out⟩
  · obtain ⟨rfl, h10, hrng, hord⟩ := HC.out.good
    go_wp2_with fail
    refine (checkOrder_any len a len cap f _ HL.out K1.row).mono ?_
    rintro e w2 ⟨⟨c', rfl, hc'⟩, hb2⟩
    obtain rfl := Chk.unique hc' HC.out
    have K2 := K1.step hb2
    have m0 := K2.c0
    have m1 := K2.c1
    have HB2 : Hid (Below w.heap.size w w2) := Below.then HB1.out hb2
    have HRW : Hid (Row w2 a len (fun k => (nat f k : Nat))) := hrng.row K2.row
    have HG : Hid (∀ k, k < len → nat f k < 1024) := hrng.small2 h10
    clear hb2 hc' HB1 k0 k1 K1 hrng hord K2
    go_wp2_with fail
    refine (eulerOf_any len a cap (nat f) w2 h10 HG.out HRW.out).mono ?_
    rintro e w3 ⟨rfl, hb3⟩
    have HB3 : Hid (Below w.heap.size w w3) := Below.then HB2.out hb3
    clear hb3 HB2 HRW m0 m1
    generalize wz (eul (nat f) len) = X at *
    go_wp2_with fail
    refine (moebiusBegun_any _).mono ?_
    rintro e w4 ⟨rfl, hb4⟩
    have HB4 : Hid (Below w.heap.size w w4) := Below.then HB3.out hb4
    clear hb4 HB3
    go_wp2_with fail
    refine (numI_any 0 X X w4 (.inr ⟨rfl, rfl⟩)).mono ?_
    rintro e w5 ⟨rfl, hb5⟩
    have HB5 : Hid (Below w.heap.size w w5) := Below.then HB4.out hb5
    clear hb5 HB4
    go_wp2_with fail
    go_ret
    exact ⟨rfl, HB5.out⟩
end Go.Proofs.Ytgdbldfbhiaepaa
