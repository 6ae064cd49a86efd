/-
  For every graph and number that are handed in, hasselaw.MatchHall returns true, and writes nothing that was there. No condition.
-/
import Derived.Test.YtahnkmdhhdgfhabMHallM
import Derived.Test.YtahnkmdhhdgfhabMDef
import Derived.Test.YtahnkmdhhdgfhabMCount
import Derived.Test.YtahnkmdhhdgfhabMBegun
namespace Go.Proofs.Ytahnkmdhhdgfhab
open Go.RowKit

theorem isSet2_any (s : Int) (n : Nat) (w : World) (hn : n ≤ 10) :
    Calls Try.prog 9 #[.int .i64 s, .int .i64 n] w fun e w' => e = .returned (.bool (sts s n)) ∧ w = w' := by
  by_cases h0 : 0 ≤ s
  · by_cases h1 : s < ((pw n : Nat) : Int)
    · go_enter Try.func9, Try.ntmps9
      go_wp2_with (go_at_call 18; refine (bit_any n _ (by omega)).mono ?_; rintro e w' ⟨rfl, rfl⟩)
      go_ret
      exact ⟨ret_bool (by simp [sts, h0, h1]), rfl⟩
    · go_enter Try.func9, Try.ntmps9
      go_wp2_with (go_at_call 18; refine (bit_any n _ (by omega)).mono ?_; rintro e w' ⟨rfl, rfl⟩)
      go_ret
      exact ⟨ret_bool (by simp [sts, h0]), rfl⟩
  · have h0' : decide (0 ≤ s) = false := by simp; omega
    go_enter Try.func9, Try.ntmps9
    go_wp2
    go_ret
    exact ⟨ret_bool (by simp [sts]; omega), rfl⟩
theorem mated_as (l r : Nat) (a : Option Addr) (cap : Nat) (t : Nat → Nat) (al : Option Addr) (len capl : Nat) (f : Nat → Int) (P : Int) (v : Bool) (w : World) (hm : v = true ↔ Mtd t l r len f P) (hl : l ≤ 10) (hr10 : r ≤ 10) (ht : Sm r l t) (hr : Row w a l (fun k => (t k : Nat))) (hll : len ≤ maxLen) (hf : Row w al len f) :
    Calls Try.prog 8 #[.agg #[.int .i64 (l : Int), .int .i64 (r : Int), .slice a l cap], .slice al len capl, .int .i64 P] w fun e w' => e = .returned (.bool v) ∧ Below w.heap.size w w' :=
  (mated_any l r a cap t al len capl f P w hl hr10 ht hr hll hf).mono fun e w' ⟨⟨b, he, hb⟩, hB⟩ => ⟨by rw [he, show b = v from Bool.eq_iff_iff.2 (hb.trans hm.symm)], hB⟩

set_option maxHeartbeats 2000000 in
theorem matchHall_any (L R : Int) (a : Option Addr) (len cap : Nat) (f : Nat → Int) (X : Int) (w : World) (hl : len ≤ maxLen) (hr : Row w a len f) :
    Calls Try.prog 3 #[.agg #[.int .i64 L, .int .i64 R, .slice a len cap], .int .i64 X] w fun e w' => e = .returned (.bool true) ∧ Below w.heap.size w w' := by
  have HB0 : Hid (Below w.heap.size w (w.alloc (.cells #[.int .i64 L, .int .i64 R, .slice a len cap] 24))) := (Below.refl _ _).alloc (Nat.le_refl _) _
  have K0 : GHeld (w.alloc (.cells #[.int .i64 L, .int .i64 R, .slice a len cap] 24)) w.heap.size L R a len cap f := GHeld.box hr
  clear hr
  go_enter Try.func3, Try.ntmps3
  go_wp2_with fail
  refine (matchBegun_any _).mono ?_
  rintro e w1 ⟨rfl, hb1⟩
  have K1 := K0.step hb1
  have HB1 : Hid (Below w.heap.size w w1) := Below.then HB0.out hb1
  have k0 := K1.c0
  have k1 := K1.c1
  have k2 := K1.c2
  clear hb1 K0 HB0
  go_wp2_with fail
  refine (best2_any L R a len cap f _ hl K1.row).mono ?_
  rintro e w2 ⟨⟨c, v, hc, rfl, he⟩, hb2⟩
  have K2 := K1.step hb2
  have HB2 : Hid (Below w.heap.size w w2) := Below.then HB1.out hb2
  have m0 := K2.c0
  have m1 := K2.c1
  have m2 := K2.c2
  clear hb2 K1 HB1 k0 k1 k2
  rcases he with ⟨h0, rfl⟩ | ⟨rfl, b, G, rfl, hrow, hm⟩
  · have hne : (c != 0) = true := by simpa using h0
    go_wp2_with fail
    refine (lack_any L R a len cap f _ hl K2.row).mono ?_
    rintro e w3 ⟨⟨c', hc', he'⟩, hb3⟩
    obtain rfl := GChk.unique hc' hc
    have K3 := K2.step hb3
    have HB3 : Hid (Below w.heap.size w w3) := Below.then HB2.out hb3
    rcases he' with ⟨_, rfl⟩ | ⟨h1, _⟩
    · clear hb3 K2 HB2 m0 m1 m2
      have m0 := K3.c0
      have m1 := K3.c1
      have m2 := K3.c2
      go_wp2_with fail
      refine (count_any L R a len cap f _ hl K3.row).mono ?_
      rintro e w4 ⟨⟨c'', hc'', he''⟩, hb4⟩
      obtain rfl := GChk.unique hc'' hc
      have HB4 : Hid (Below w.heap.size w w4) := Below.then HB3.out hb4
      rcases he'' with ⟨_, rfl⟩ | ⟨h1, _⟩
      · clear hb4 K3 HB3 m0 m1 m2 hc hc' hc''
        go_wp2_with fail
        go_ret
        exact ⟨rfl, HB4.out⟩
      · exact absurd h1 h0
    · exact absurd h1 h0
  · obtain ⟨r, rfl, rfl, h10, hr10, hrng⟩ := hc.good
    rw [Int.toNat_natCast] at hm
    have HR2 : Hid (Row w2 (some ⟨b, 0, none⟩) len G) := hrow
    have HM : Hid (Mates (nat f) len r G) := hm
    clear hrow hm
    go_wp2_with fail
    refine (lack_any len r a len cap f _ hl K2.row).mono ?_
    rintro e w3 ⟨⟨c', hc', he'⟩, hb3⟩
    obtain rfl := GChk.unique hc' hc
    have HB3 : Hid (Below w.heap.size w w3) := Below.then HB2.out hb3
    have HR3 : Hid (Row w3 (some ⟨b, 0, none⟩) len G) := HR2.out.below hb3
    have K3 := K2.step hb3
    clear hb3 K2 HB2 HR2 m0 m1 m2 hc'
    rcases he' with ⟨h1, _⟩ | ⟨_, rfl⟩
    · exact absurd rfl h1
    have m0 := K3.c0
    have m1 := K3.c1
    have m2 := K3.c2
    go_wp2_with fail
    refine (count_any len r a len cap f _ hl K3.row).mono ?_
    rintro e w4 ⟨⟨c', hc', he'⟩, hb4⟩
    obtain rfl := GChk.unique hc' hc
    have HB4 : Hid (Below w.heap.size w w4) := Below.then HB3.out hb4
    have HR4 : Hid (Row w4 (some ⟨b, 0, none⟩) len G) := HR3.out.below hb4
    have K4 := K3.step hb4
    clear hb4 K3 HB3 HR3 m0 m1 m2 hc hc'
    rcases he' with ⟨h1, _⟩ | ⟨_, rfl⟩
    · exact absurd rfl h1
    rw [Int.toNat_natCast]
    have HG : Hid (GHeld w4 w.heap.size len r a len cap (fun k => (nat f k : Nat))) := ⟨K4.c0, K4.c1, K4.c2, hrng.row K4.row⟩
    have HSM : Hid (Sm r len (nat f)) := hrng.small
    have l0 : ∀ w', Below w4.heap.size w4 w' → w'.cell? ⟨w.heap.size, 0, none⟩ = some (.int .i64 (len : Int)) := fun w' h => (HG.out.step h).c0
    have l1 : ∀ w', Below w4.heap.size w4 w' → w'.cell? ⟨w.heap.size, 1, none⟩ = some (.int .i64 (r : Int)) := fun w' h => (HG.out.step h).c1
    have l2 : ∀ w', Below w4.heap.size w4 w' → w'.cell? ⟨w.heap.size, 2, none⟩ = some (.slice a len cap) := fun w' h => (HG.out.step h).c2
    have LR : Hid (∀ w', Below w4.heap.size w4 w' → Row w' a len (fun k => (nat f k : Nat))) := fun w' h => (HG.out.step h).row
    have LG : Hid (∀ w', Below w4.heap.size w4 w' → Row w' (some ⟨b, 0, none⟩) len G) := fun w' h => HR4.out.below h
    have HOUT : Hid (∀ w', Below w4.heap.size w4 w' → Below w.heap.size w w') := fun w' h => Below.then HB4.out h
    have M4 : Below w4.heap.size w4 w4 := Below.refl _ _
    have KK : Below w4.heap.size w4 w4.drew := (Below.refl _ _).drew
    have m0 := l0 _ M4
    have m1 := l1 _ M4
    have m2 := l2 _ M4
    have HALL := hall h10 hr10 HSM.out HM.out
    have HWT : Hid (∀ s, s < pw len → ∀ w, Row w a len (fun k => (nat f k : Nat)) → Calls Try.prog 11 #[.agg #[.int .i64 (len : Int), .int .i64 (r : Int), .slice a len cap], .int .i64 (s : Nat)] w fun e w' => e = .returned (.int .i64 (orTo (nat f) s len : Nat)) ∧ Below w.heap.size w w') := fun s hs w h => with_any len r a cap (nat f) s w h10 hr10 HSM.out (Nat.lt_of_lt_of_le hs (pw_le len h10)) h
    have HOL : Hid (∀ s, orTo (nat f) s len < 1024) := fun s => Nat.lt_of_lt_of_le (orTo_lt HSM.out len (Nat.le_refl _)) (pw_le r hr10)
    clear K4 HG HB4 HR4 HM hrng
    rcases HALL with ⟨s, hfs, hs, hpc, hmat, hnm⟩ | ⟨hfs, hmat, hmt, hall⟩
    · rw [hfs, hmat]
      simp only [lkv, Option.getD_some, Option.isSome_some]
      have hsd : sts (s : Int) len = true := by simp [sts]; omega
      have HW1 : Hid (∀ w, Row w a len (fun k => (nat f k : Nat)) → Calls Try.prog 11 #[.agg #[.int .i64 (len : Int), .int .i64 (r : Int), .slice a len cap], .int .i64 (s : Nat)] w fun e w' => e = .returned (.int .i64 (orTo (nat f) s len : Nat)) ∧ Below w.heap.size w w') := HWT.out s hs
      have ho := HOL.out s
      have hs2 : s < 1024 := Nat.lt_of_lt_of_le hs (pw_le len h10)
      have HS1 : Hid (∀ w, Calls Try.prog 10 #[.int .i64 (orTo (nat f) s len : Nat)] w fun e w' => e = .returned (.int .i64 (pc (orTo (nat f) s len) : Nat)) ∧ w = w') := fun w => refSize_any _ w ho
      have HS2 : Hid (∀ w, Calls Try.prog 10 #[.int .i64 (s : Nat)] w fun e w' => e = .returned (.int .i64 (pc s : Nat)) ∧ w = w') := fun w => refSize_any _ w hs2
      have hd : decide ((pc s : Int) ≤ (pc (orTo (nat f) s len) : Int)) = false := by simp; omega
      generalize pc (orTo (nat f) s len) = po at *
      generalize orTo (nat f) s len = oo at *
      generalize pc s = ps at *
      go_wp2_with fail
      refine (mated_as len r a cap (nat f) _ len len G (len : Int) false _ (by simp [hnm]) h10 hr10 HSM.out (LR.out _ M4) hl (LG.out _ M4)).mono ?_
      rintro e w5 ⟨rfl, hb5⟩
      have M5 : Below w4.heap.size w4 w5 := hb5
      clear m0 m1 m2 hb5
      have m0 := l0 _ M5
      have m1 := l1 _ M5
      have m2 := l2 _ M5
      go_wp2_with fail
      refine (isSet2_any _ _ _ h10).mono ?_
      rintro e w' ⟨rfl, rfl⟩
      rw [hsd]
      go_wp2_with fail
      refine (HW1.out _ (LR.out _ M5)).mono ?_
      rintro e w6 ⟨rfl, hb6⟩
      have M6 : Below w4.heap.size w4 w6 := Below.then M5 hb6
      clear m0 m1 m2 hb6
      go_wp2_with fail
      refine (HS1.out _).mono ?_
      rintro e w' ⟨rfl, rfl⟩
      go_wp2_with fail
      refine (HS2.out _).mono ?_
      rintro e w' ⟨rfl, rfl⟩
      go_wp2_with fail
      go_ret
      exact ⟨rfl, HOUT.out _ M6⟩
    · rw [hfs]
      simp only [lkv, Option.getD_none, Option.isSome_none]
      have hq : (((mat (nat f) r len 0 0 : Nat) : Int) == 0) = false := by simp; omega
      generalize mat (nat f) r len 0 0 = MM at *
      go_wp2_with fail
      refine (mated_as len r a cap (nat f) _ len len G (len : Int) true _ (by simp [hmt]) h10 hr10 HSM.out (LR.out _ M4) hl (LG.out _ M4)).mono ?_
      rintro e w5 ⟨rfl, hb5⟩
      have M5 : Below w4.heap.size w4 w5 := hb5
      clear m0 m1 m2 hb5
      have m0 := l0 _ M5
      have m1 := l1 _ M5
      have m2 := l2 _ M5
      rcases hsd : sts X len with _ | _
      · go_wp2_with fail
        refine (isSet2_any _ _ _ h10).mono ?_
        rintro e w' ⟨rfl, rfl⟩
        rw [hsd]
        go_wp2_with fail
        go_ret
        exact ⟨rfl, HOUT.out _ M5⟩
      · have hX : 0 ≤ X ∧ X < (pw len : Nat) := by simpa [sts] using hsd
        obtain ⟨s, rfl⟩ := Int.eq_ofNat_of_zero_le hX.1
        have hs : s < pw len := by omega
        have HW1 : Hid (∀ w, Row w a len (fun k => (nat f k : Nat)) → Calls Try.prog 11 #[.agg #[.int .i64 (len : Int), .int .i64 (r : Int), .slice a len cap], .int .i64 (s : Nat)] w fun e w' => e = .returned (.int .i64 (orTo (nat f) s len : Nat)) ∧ Below w.heap.size w w') := HWT.out s hs
        have ho := HOL.out s
        have hs2 : s < 1024 := Nat.lt_of_lt_of_le hs (pw_le len h10)
        have HS1 : Hid (∀ w, Calls Try.prog 10 #[.int .i64 (orTo (nat f) s len : Nat)] w fun e w' => e = .returned (.int .i64 (pc (orTo (nat f) s len) : Nat)) ∧ w = w') := fun w => refSize_any _ w ho
        have HS2 : Hid (∀ w, Calls Try.prog 10 #[.int .i64 (s : Nat)] w fun e w' => e = .returned (.int .i64 (pc s : Nat)) ∧ w = w') := fun w => refSize_any _ w hs2
        have hle := hall s hs
        have hd : decide ((pc s : Int) ≤ (pc (orTo (nat f) s len) : Int)) = true := by simp; omega
        clear hall hmt hfs
        generalize pc (orTo (nat f) s len) = po at *
        generalize orTo (nat f) s len = oo at *
        generalize pc s = ps at *
        go_wp2_with fail
        refine (isSet2_any _ _ _ h10).mono ?_
        rintro e w' ⟨rfl, rfl⟩
        rw [hsd]
        go_wp2_with fail
        refine (HW1.out _ (LR.out _ M5)).mono ?_
        rintro e w6 ⟨rfl, hb6⟩
        have M6 : Below w4.heap.size w4 w6 := Below.then M5 hb6
        clear m0 m1 m2 hb6
        go_wp2_with fail
        refine (HS1.out _).mono ?_
        rintro e w' ⟨rfl, rfl⟩
        go_wp2_with fail
        refine (HS2.out _).mono ?_
        rintro e w' ⟨rfl, rfl⟩
        go_wp2_with fail
        go_ret
        exact ⟨rfl, HOUT.out _ M6⟩
end Go.Proofs.Ytahnkmdhhdgfhab
