/-
  For every graph, list and two numbers that are handed in, hasselaw.MatchKoenig returns true, and writes nothing that was there. No condition.
-/
import Derived.Test.YtahnkmdhhdgfhaaMatchCovers
import Derived.Test.YtahnkmdhhdgfhaaMatchBest
namespace Go.Proofs.Ytahnkmdhhdgfhaa
open Go.RowKit

theorem dfc_le (t : Nat → Nat) {l : Nat} (hl : l ≤ 10) : dfc t l ≤ l := (maxTo_le_iff _ _ _).2 fun s hs => by
  have h1 := pc_cnt hl hs
  have h2 := cnt2_le (fun j => s.testBit j) l
  unfold lk1; omega
/-- No matching has more pairs. -/
theorem most {t : Nat → Nat} {l r : Nat} {f G : Nat → Int} (hl : l ≤ 10) (hr : r ≤ 10) (ht : Sm r l t) (hm : Mates t l r G) (h : MOK t l r f) : cntM f l ≤ l - dfc t l := by
  obtain ⟨s, hs, h2⟩ := lower hl hr ht hm
  have h1 := upper hl hr ht h hs
  have h3 := hm.count hl hr ht
  have h4 := cnt2_le (goB f) l
  have h5 := cnt2_le (goB G) l
  unfold cntM at *
  omega
/-- How many are not below 0. -/
def manyOf (f : Nat → Int) (n : Nat) : Nat := cnt2 (fun k => decide (0 ≤ f k)) n
theorem manyOf_le (f : Nat → Int) (n : Nat) : manyOf f n ≤ n := cnt2_le _ n
theorem manyOf_yes {f : Nat → Int} {k : Nat} (h : 0 ≤ f k) : manyOf f (k + 1) = manyOf f k + 1 := cnt2_yes (by simpa using h)
theorem manyOf_no {f : Nat → Int} {k : Nat} (h : ¬ 0 ≤ f k) : manyOf f (k + 1) = manyOf f k := cnt2_no (by simpa using h)
theorem covered_as (l r : Nat) (a : Option Addr) (cap : Nat) (t : Nat → Nat) (A B : Int) (v : Bool) (w : World) (hc : v = true ↔ CovOK t l r A B) (hl : l ≤ 10) (hr10 : r ≤ 10) (ht : Sm r l t) (hr : Row w a l (fun k => (t k : Nat))) :
    Calls Try.prog 16 #[.agg #[.int .i64 (l : Int), .int .i64 (r : Int), .slice a l cap], .int .i64 A, .int .i64 B] w fun e w' => e = .returned (.bool v) ∧ Below w.heap.size w w' :=
  (covered_any l r a cap t A B w hl hr10 ht hr).mono fun e w' ⟨⟨b, he, hb⟩, hB⟩ => ⟨by rw [he, show b = v from Bool.eq_iff_iff.2 (hb.trans hc.symm)], hB⟩
theorem mated_as (l r : Nat) (a : Option Addr) (cap : Nat) (t : Nat → Nat) (al : Option Addr) (len capl : Nat) (f : Nat → Int) (P : Int) (v : Bool) (w : World) (hm : v = true ↔ Mtd t l r len f P) (hl : l ≤ 10) (hr10 : r ≤ 10) (ht : Sm r l t) (hr : Row w a l (fun k => (t k : Nat))) (hll : len ≤ maxLen) (hf : Row w al len f) :
    Calls Try.prog 13 #[.agg #[.int .i64 (l : Int), .int .i64 (r : Int), .slice a l cap], .slice al len capl, .int .i64 P] w fun e w' => e = .returned (.bool v) ∧ Below w.heap.size w w' :=
  (mated_any l r a cap t al len capl f P w hl hr10 ht hr hll hf).mono fun e w' ⟨⟨b, he, hb⟩, hB⟩ => ⟨by rw [he, show b = v from Bool.eq_iff_iff.2 (hb.trans hm.symm)], hB⟩

set_option maxHeartbeats 2000000 in
theorem matchKoenig_any (L R : Int) (a : Option Addr) (len cap : Nat) (f : Nat → Int) (ap : Option Addr) (lenp capp : Nat) (fp : Nat → Int) (A B : Int) (w : World) (hl : len ≤ maxLen) (hlp : lenp ≤ maxLen) (hr : Row w a len f) (hrp : Row w ap lenp fp) :
    Calls Try.prog 8 #[.agg #[.int .i64 L, .int .i64 R, .slice a len cap], .slice ap lenp capp, .int .i64 A, .int .i64 B] w fun e w' => e = .returned (.bool true) ∧ Below w.heap.size w w' := by
  have HB0 : Hid (Below w.heap.size w (w.alloc (.cells #[.int .i64 L, .int .i64 R, .slice a len cap] 24))) := (Below.refl _ _).alloc (Nat.le_refl _) _
  have K0 : GHeld (w.alloc (.cells #[.int .i64 L, .int .i64 R, .slice a len cap] 24)) w.heap.size L R a len cap f := GHeld.box hr
  have P0 : Hid (Row (w.alloc (.cells #[.int .i64 L, .int .i64 R, .slice a len cap] 24)) ap lenp fp) := hrp.below HB0.out
  clear hr hrp
  go_enter Try.func8, Try.ntmps8
  go_wp2_with fail
  refine (matchBegun_any _).mono ?_
  rintro e w1 ⟨rfl, hb1⟩
  have K1 := K0.step hb1
  have P1 : Hid (Row w1 ap lenp fp) := P0.out.below hb1
  have HB1 : Hid (Below w.heap.size w w1) := Below.then HB0.out hb1
  have k0 := K1.c0
  have k1 := K1.c1
  have k2 := K1.c2
  clear hb1 K0 HB0 P0
  go_wp2_with fail
  refine (best2_any L R a len cap f _ hl K1.row).mono ?_
  rintro e w2 ⟨⟨c, v, hc, rfl, he⟩, hb2⟩
  have K2 := K1.step hb2
  have P2 : Hid (Row w2 ap lenp fp) := P1.out.below hb2
  have HB2 : Hid (Below w.heap.size w w2) := Below.then HB1.out hb2
  have m0 := K2.c0
  have m1 := K2.c1
  have m2 := K2.c2
  clear hb2 K1 HB1 P1 k0 k1 k2
  rcases he with ⟨h0, rfl⟩ | ⟨rfl, b, G, rfl, hrow, hm⟩
  · have hne : (c != 0) = true := by simpa using h0
    go_wp2_with fail
    refine (cover_any L R a len cap f _ hl K2.row).mono ?_
    rintro e w3 ⟨⟨c', hc', he'⟩, hb3⟩
    obtain rfl := GChk.unique hc' hc
    have HB3 : Hid (Below w.heap.size w w3) := Below.then HB2.out hb3
    rcases he' with ⟨_, rfl⟩ | ⟨h1, _⟩
    · clear hb3 K2 HB2 P2 m0 m1 m2 hc hc'
      go_wp2_with fail
      go_ret
      exact ⟨rfl, HB3.out⟩
    · exact absurd h1 h0
  · obtain ⟨r, rfl, rfl, h10, hr10, hrng⟩ := hc.good
    rw [Int.toNat_natCast] at hm
    have HR2 : Hid (Row w2 (some ⟨b, 0, none⟩) len G) := hrow
    have HM : Hid (Mates (nat f) len r G) := hm
    clear hrow hm
    go_wp2_with fail
    refine (cover_any len r a len cap f _ hl K2.row).mono ?_
    rintro e w3 ⟨⟨c', hc', he'⟩, hb3⟩
    obtain rfl := GChk.unique hc' hc
    have HB3 : Hid (Below w.heap.size w w3) := Below.then HB2.out hb3
    have HR3 : Hid (Row w3 (some ⟨b, 0, none⟩) len G) := HR2.out.below hb3
    have P3 : Hid (Row w3 ap lenp fp) := P2.out.below hb3
    have K3 := K2.step hb3
    clear hb3 K2 HB2 HR2 P2 m0 m1 m2 hc hc'
    rcases he' with ⟨h1, _⟩ | ⟨_, x, y, rfl, hcov⟩
    · exact absurd rfl h1
    rw [Int.toNat_natCast] at hcov
    have HG : Hid (GHeld w3 w.heap.size len r a len cap (fun k => (nat f k : Nat))) := ⟨K3.c0, K3.c1, K3.c2, hrng.row K3.row⟩
    have HSM : Hid (Sm r len (nat f)) := hrng.small
    have HCO : Hid (CovOK (nat f) len r (x : Int) (y : Int)) := coverP_ok hcov
    have hnum := hcov.num
    have hx2 : x < 1024 := Nat.lt_of_lt_of_le hcov.la (pw_le len h10)
    have hy2 : y < 1024 := Nat.lt_of_lt_of_le hcov.lb (pw_le r hr10)
    have hcnt := HM.out.count h10 hr10 HSM.out
    have hpx := pc_le x
    have hpy := pc_le y
    have HMT : Hid (Mtd (nat f) len r len G ((pc x : Int) + (pc y : Int))) := ⟨rfl, HM.out.ok, by omega⟩
    have HMOST : Hid (∀ fq, MOK (nat f) len r fq → cntM fq len ≤ pc x + pc y) := fun fq h => by have := most h10 hr10 HSM.out HM.out h; omega
    have HWEAK : Hid (∀ x' y' : Nat, x' < pw len → y' < pw r → (∀ i, i < len → x'.testBit i = true ∨ Sub (nat f i) y') → pc x + pc y ≤ pc x' + pc y') := fun x' y' h1 h2 h3 => by
      have := weak h10 hr10 HM.out.ok h1 h2 h3
      omega
    have HSX : Hid (∀ w, Calls Try.prog 17 #[.int .i64 (x : Nat)] w fun e w' => e = .returned (.int .i64 (pc x : Nat)) ∧ w = w') := fun w => refSize_any x w hx2
    have HSY : Hid (∀ w, Calls Try.prog 17 #[.int .i64 (y : Nat)] w fun e w' => e = .returned (.int .i64 (pc y : Nat)) ∧ w = w') := fun w => refSize_any y w hy2
    have l0 : ∀ w', Below w3.heap.size w3 w' → w'.cell? ⟨w.heap.size, 0, none⟩ = some (.int .i64 (len : Int)) := fun w' h => (HG.out.step h).c0
    have l1 : ∀ w', Below w3.heap.size w3 w' → w'.cell? ⟨w.heap.size, 1, none⟩ = some (.int .i64 (r : Int)) := fun w' h => (HG.out.step h).c1
    have l2 : ∀ w', Below w3.heap.size w3 w' → w'.cell? ⟨w.heap.size, 2, none⟩ = some (.slice a len cap) := fun w' h => (HG.out.step h).c2
    have LR : Hid (∀ w', Below w3.heap.size w3 w' → Row w' a len (fun k => (nat f k : Nat))) := fun w' h => (HG.out.step h).row
    have LG : Hid (∀ w', Below w3.heap.size w3 w' → Row w' (some ⟨b, 0, none⟩) len G) := fun w' h => HR3.out.below h
    have LP : Hid (∀ w', Below w3.heap.size w3 w' → Row w' ap lenp fp) := fun w' h => P3.out.below h
    have KK : Below w3.heap.size w3 w3.drew := (Below.refl _ _).drew
    have HOUT : Hid (∀ w', Below w3.heap.size w3 w' → Below w.heap.size w w') := fun w' h => Below.then HB3.out h
    clear K3 hrng HG HB3 hnum hcov HR3 P3 hcnt
    generalize pc x = px at *
    generalize pc y = py at *
    have hwr2 : IntKind.i64.wrap ((px : Int) + (py : Int)) = (px : Int) + (py : Int) := wrap_i64_int _ (by omega) (by omega)
    have M3 : Below w3.heap.size w3 w3 := Below.refl _ _
    have m0 := l0 _ M3
    have m1 := l1 _ M3
    have m2 := l2 _ M3
    go_wp2_with fail
    refine (HSX.out _).mono ?_
    rintro e w' ⟨rfl, rfl⟩
    go_wp2_with fail
    refine (HSY.out _).mono ?_
    rintro e w' ⟨rfl, rfl⟩
    go_wp2_with fail
    refine (mated_yes len r a cap (nat f) _ len len G ((px : Int) + (py : Int)) _ HMT.out h10 hr10 HSM.out (LR.out _ M3) hl (LG.out _ M3)).mono ?_
    rintro e w4 ⟨rfl, hb4⟩
    have M4 : Below w3.heap.size w3 w4 := hb4
    clear m0 m1 m2 hb4
    have m0 := l0 _ M4
    have m1 := l1 _ M4
    have m2 := l2 _ M4
    go_wp2_with fail
    refine (covered_yes len r a cap (nat f) _ _ _ HCO.out h10 hr10 HSM.out (LR.out _ M4)).mono ?_
    rintro e w5 ⟨rfl, hb5⟩
    have M5 : Below w3.heap.size w3 w5 := Below.then M4 hb5
    clear m0 m1 m2 hb5
    have m0 := l0 _ M5
    have m1 := l1 _ M5
    have m2 := l2 _ M5
    by_cases hcv : CovOK (nat f) len r A B
    · go_wp2_with fail
      refine (covered_as len r a cap (nat f) A B true _ (by simp [hcv]) h10 hr10 HSM.out (LR.out _ M5)).mono ?_
      rintro e w6 ⟨rfl, hb6⟩
      have M6 : Below w3.heap.size w3 w6 := Below.then M5 hb6
      clear m0 m1 m2 hb6
      obtain ⟨x', y', rfl, rfl, hx', hy', hall⟩ := hcv
      have hwk := HWEAK.out x' y' hx' hy' hall
      have hx2' : x' < 1024 := Nat.lt_of_lt_of_le hx' (pw_le len h10)
      have hy2' : y' < 1024 := Nat.lt_of_lt_of_le hy' (pw_le r hr10)
      have hpx' := pc_le x'
      have hpy' := pc_le y'
      have HSX' : Hid (∀ w, Calls Try.prog 17 #[.int .i64 (x' : Nat)] w fun e w' => e = .returned (.int .i64 (pc x' : Nat)) ∧ w = w') := fun w => refSize_any x' w hx2'
      have HSY' : Hid (∀ w, Calls Try.prog 17 #[.int .i64 (y' : Nat)] w fun e w' => e = .returned (.int .i64 (pc y' : Nat)) ∧ w = w') := fun w => refSize_any y' w hy2'
      generalize pc x' = px' at *
      generalize pc y' = py' at *
      have hwr3 : IntKind.i64.wrap ((px' : Int) + (py' : Int)) = (px' : Int) + (py' : Int) := wrap_i64_int _ (by omega) (by omega)
      have hlt : decide ((px' : Int) + (py' : Int) < (px : Int) + (py : Int)) = false := by simp; omega
      clear hall hx' hy' hwk
      have m0 := l0 _ M6
      have m1 := l1 _ M6
      have m2 := l2 _ M6
      go_wp2_with fail
      refine (HSX'.out _).mono ?_
      rintro e w' ⟨rfl, rfl⟩
      go_wp2_with fail
      refine (HSY'.out _).mono ?_
      rintro e w' ⟨rfl, rfl⟩
      have PW : Hid (Row w6 ap lenp fp) := LP.out _ M6
      go_wp2_with fail
      go_loop [15, 16] (fun m i => ∃ k : Nat, k ≤ lenp ∧ i = .int .i64 k ∧ m = .int .i64 (manyOf fp k : Nat)) (fun _ i => lenp - (intOf i).toNat)
      case atStart => exact ⟨0, Nat.zero_le _, rfl, rfl⟩
      case round =>
        obtain ⟨k, hk, rfl, rfl⟩ := hrel
        have hml := manyOf_le fp k
        have hlp9 : lenp ≤ maxLen := hlp
        unfold maxLen at hlp9
        by_cases hkl : k < lenp
        · have hlk : (k : Int) < (lenp : Int) := by omega
          obtain ⟨b2, off2, rfl, hc2⟩ := PW.out.at hkl
          have hck := hc2 k hkl
          clear hc2
          by_cases hs : 0 ≤ fp k
          · have hd : decide (0 ≤ fp k) = true := by simpa using hs
            have HC1 : Hid (manyOf fp (k + 1) = manyOf fp k + 1) := manyOf_yes hs
            generalize manyOf fp k = CM at *
            go_wp2_with fail
            go_round
            case rel => exact ⟨k + 1, by omega, by go_num, by rw [HC1.out]; go_num⟩
            case measure => simp [intOf]; omega
          · have hd : decide (0 ≤ fp k) = false := by simpa using hs
            have HC1 : Hid (manyOf fp (k + 1) = manyOf fp k) := manyOf_no hs
            generalize manyOf fp k = CM at *
            go_wp2_with fail
            go_round
            case rel => exact ⟨k + 1, by omega, by go_num, by rw [HC1.out]⟩
            case measure => simp [intOf]; omega
        · have hlk : ¬ (k : Int) < (lenp : Int) := by omega
          obtain rfl : k = lenp := by omega
          by_cases hmt : Mtd (nat f) len r k fp (manyOf fp k : Nat)
          · have hle : manyOf fp k ≤ px + py := by
              obtain ⟨h1, h2, h3⟩ := hmt
              have := HMOST.out fp h2
              omega
            have hd : decide ((manyOf fp k : Int) ≤ (px : Int) + (py : Int)) = true := by simp; omega
            have HMA : Hid (∀ w, Row w a len (fun k => (nat f k : Nat)) → Row w ap k fp → Calls Try.prog 13 #[.agg #[.int .i64 (len : Int), .int .i64 (r : Int), .slice a len cap], .slice ap k capp, .int .i64 (manyOf fp k : Nat)] w fun e w' => e = .returned (.bool true) ∧ Below w.heap.size w w') := fun w h1 h2 => mated_as len r a cap (nat f) ap k capp fp _ true w (by simp [hmt]) h10 hr10 HSM.out h1 hlp h2
            generalize manyOf fp k = CM at *
            clear hmt
            go_wp2_with fail
            refine (HMA.out _ (LR.out _ M6) PW.out).mono ?_
            rintro e w7 ⟨rfl, hb7⟩
            have M7 : Below w3.heap.size w3 w7 := Below.then M6 hb7
            clear hb7
            go_wp2_with fail
            go_ret
            exact ⟨rfl, HOUT.out _ M7⟩
          · have HMA : Hid (∀ w, Row w a len (fun k => (nat f k : Nat)) → Row w ap k fp → Calls Try.prog 13 #[.agg #[.int .i64 (len : Int), .int .i64 (r : Int), .slice a len cap], .slice ap k capp, .int .i64 (manyOf fp k : Nat)] w fun e w' => e = .returned (.bool false) ∧ Below w.heap.size w w') := fun w h1 h2 => mated_as len r a cap (nat f) ap k capp fp _ false w (by simp [hmt]) h10 hr10 HSM.out h1 hlp h2
            generalize manyOf fp k = CM at *
            clear hmt
            go_wp2_with fail
            refine (HMA.out _ (LR.out _ M6) PW.out).mono ?_
            rintro e w7 ⟨rfl, hb7⟩
            have M7 : Below w3.heap.size w3 w7 := Below.then M6 hb7
            clear hb7
            go_wp2_with fail
            go_ret
            exact ⟨rfl, HOUT.out _ M7⟩
    · go_wp2_with fail
      refine (covered_as len r a cap (nat f) A B false _ (by simp [hcv]) h10 hr10 HSM.out (LR.out _ M5)).mono ?_
      rintro e w6 ⟨rfl, hb6⟩
      have M6 : Below w3.heap.size w3 w6 := Below.then M5 hb6
      clear m0 m1 m2 hb6 hcv
      have m0 := l0 _ M6
      have m1 := l1 _ M6
      have m2 := l2 _ M6
      have PW : Hid (Row w6 ap lenp fp) := LP.out _ M6
      go_wp2_with fail
      go_loop [15, 16] (fun m i => ∃ k : Nat, k ≤ lenp ∧ i = .int .i64 k ∧ m = .int .i64 (manyOf fp k : Nat)) (fun _ i => lenp - (intOf i).toNat)
      case atStart => exact ⟨0, Nat.zero_le _, rfl, rfl⟩
      case round =>
        obtain ⟨k, hk, rfl, rfl⟩ := hrel
        have hml := manyOf_le fp k
        have hlp9 : lenp ≤ maxLen := hlp
        unfold maxLen at hlp9
        by_cases hkl : k < lenp
        · have hlk : (k : Int) < (lenp : Int) := by omega
          obtain ⟨b2, off2, rfl, hc2⟩ := PW.out.at hkl
          have hck := hc2 k hkl
          clear hc2
          by_cases hs : 0 ≤ fp k
          · have hd : decide (0 ≤ fp k) = true := by simpa using hs
            have HC1 : Hid (manyOf fp (k + 1) = manyOf fp k + 1) := manyOf_yes hs
            generalize manyOf fp k = CM at *
            go_wp2_with fail
            go_round
            case rel => exact ⟨k + 1, by omega, by go_num, by rw [HC1.out]; go_num⟩
            case measure => simp [intOf]; omega
          · have hd : decide (0 ≤ fp k) = false := by simpa using hs
            have HC1 : Hid (manyOf fp (k + 1) = manyOf fp k) := manyOf_no hs
            generalize manyOf fp k = CM at *
            go_wp2_with fail
            go_round
            case rel => exact ⟨k + 1, by omega, by go_num, by rw [HC1.out]⟩
            case measure => simp [intOf]; omega
        · have hlk : ¬ (k : Int) < (lenp : Int) := by omega
          obtain rfl : k = lenp := by omega
          by_cases hmt : Mtd (nat f) len r k fp (manyOf fp k : Nat)
          · have hle : manyOf fp k ≤ px + py := by
              obtain ⟨h1, h2, h3⟩ := hmt
              have := HMOST.out fp h2
              omega
            have hd : decide ((manyOf fp k : Int) ≤ (px : Int) + (py : Int)) = true := by simp; omega
            have HMA : Hid (∀ w, Row w a len (fun k => (nat f k : Nat)) → Row w ap k fp → Calls Try.prog 13 #[.agg #[.int .i64 (len : Int), .int .i64 (r : Int), .slice a len cap], .slice ap k capp, .int .i64 (manyOf fp k : Nat)] w fun e w' => e = .returned (.bool true) ∧ Below w.heap.size w w') := fun w h1 h2 => mated_as len r a cap (nat f) ap k capp fp _ true w (by simp [hmt]) h10 hr10 HSM.out h1 hlp h2
            generalize manyOf fp k = CM at *
            clear hmt
            go_wp2_with fail
            refine (HMA.out _ (LR.out _ M6) PW.out).mono ?_
            rintro e w7 ⟨rfl, hb7⟩
            have M7 : Below w3.heap.size w3 w7 := Below.then M6 hb7
            clear hb7
            go_wp2_with fail
            go_ret
            exact ⟨rfl, HOUT.out _ M7⟩
          · have HMA : Hid (∀ w, Row w a len (fun k => (nat f k : Nat)) → Row w ap k fp → Calls Try.prog 13 #[.agg #[.int .i64 (len : Int), .int .i64 (r : Int), .slice a len cap], .slice ap k capp, .int .i64 (manyOf fp k : Nat)] w fun e w' => e = .returned (.bool false) ∧ Below w.heap.size w w') := fun w h1 h2 => mated_as len r a cap (nat f) ap k capp fp _ false w (by simp [hmt]) h10 hr10 HSM.out h1 hlp h2
            generalize manyOf fp k = CM at *
            clear hmt
            go_wp2_with fail
            refine (HMA.out _ (LR.out _ M6) PW.out).mono ?_
            rintro e w7 ⟨rfl, hb7⟩
            have M7 : Below w3.heap.size w3 w7 := Below.then M6 hb7
            clear hb7
            go_wp2_with fail
            go_ret
            exact ⟨rfl, HOUT.out _ M7⟩
end Go.Proofs.Ytahnkmdhhdgfhaa
