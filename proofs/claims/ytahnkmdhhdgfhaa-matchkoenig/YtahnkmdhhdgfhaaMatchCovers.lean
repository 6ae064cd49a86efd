/-
  For every graph that is handed in, hasselaw.MatchCovers returns true, and writes nothing that was there. No condition.
-/
import Derived.Test.YtahnkmdhhdgfhaaMCovered
import Derived.Test.YtahnkmdhhdgfhaaMatchLaws
namespace Go.Proofs.Ytahnkmdhhdgfhaa
open Go.RowKit

theorem coverP_ok {t : Nat → Nat} {l r n x y : Nat} (h : CoverP t l r n x y) : CovOK t l r (x : Int) (y : Int) := ⟨x, y, rfl, rfl, h.la, h.lb, h.all⟩
theorem covered_yes (l r : Nat) (a : Option Addr) (cap : Nat) (t : Nat → Nat) (A B : Int) (w : World) (hc : CovOK t l r A B) (hl : l ≤ 10) (hr10 : r ≤ 10) (ht : Sm r l t) (hr : Row w a l (fun k => (t k : Nat))) :
    Calls Try.prog 16 #[.agg #[.int .i64 (l : Int), .int .i64 (r : Int), .slice a l cap], .int .i64 A, .int .i64 B] w fun e w' => e = .returned (.bool true) ∧ Below w.heap.size w w' :=
  (covered_any l r a cap t A B w hl hr10 ht hr).mono fun e w' ⟨⟨b, he, hb⟩, hB⟩ => ⟨by rw [he, hb.2 hc], hB⟩

set_option maxHeartbeats 1000000 in
theorem matchCovers_any (L R : Int) (a : Option Addr) (len cap : Nat) (f : Nat → Int) (w : World) (hl : len ≤ maxLen) (hr : Row w a len f) :
    Calls Try.prog 5 #[.agg #[.int .i64 L, .int .i64 R, .slice a len cap]] w fun e w' => e = .returned (.bool true) ∧ Below w.heap.size w w' := by
  have K0 : GHeld (w.alloc (.cells #[.int .i64 L, .int .i64 R, .slice a len cap] 24)) w.heap.size L R a len cap f := GHeld.box hr
  have HB0 : Hid (Below w.heap.size w (w.alloc (.cells #[.int .i64 L, .int .i64 R, .slice a len cap] 24))) := (Below.refl _ _).alloc (Nat.le_refl _) _
  clear hr
  go_enter Try.func5, Try.ntmps5
  go_wp2_with fail
  refine (cover_any L R a len cap f _ hl K0.row).mono ?_
  rintro e w1 ⟨⟨c, hc, he⟩, hb⟩
  have K1 := K0.step hb
  have k0 := K1.c0
  have k1 := K1.c1
  have k2 := K1.c2
  have HB1 : Hid (Below w.heap.size w w1) := Below.then HB0.out hb
  clear hb K0 HB0
  rcases he with ⟨h0, rfl⟩ | ⟨rfl, x, y, rfl, hcov⟩
  · have hne : (c != 0) = true := by simpa using h0
    go_wp2_with fail
    refine (checkGraph_any L R a len cap f _ hl K1.row).mono ?_
    rintro e w2 ⟨⟨c', rfl, hc'⟩, hb2⟩
    obtain rfl := GChk.unique hc' hc
    have HB2 : Hid (Below w.heap.size w w2) := Below.then HB1.out hb2
    clear hb2 HB1 K1 k0 k1 k2 hc hc'
    go_wp2_with fail
    refine (matchBegun_any _).mono ?_
    rintro e w3 ⟨rfl, hb3⟩
    have HB3 : Hid (Below w.heap.size w w3) := Below.then HB2.out hb3
    clear hb3 HB2
    go_wp2_with fail
    refine (matchBegun_any _).mono ?_
    rintro e w4 ⟨rfl, hb4⟩
    have HB4 : Hid (Below w.heap.size w w4) := Below.then HB3.out hb4
    clear hb4 HB3
    go_wp2_with fail
    go_ret
    exact ⟨rfl, HB4.out⟩
  · obtain ⟨r, rfl, rfl, h10, hr10, hrng⟩ := hc.good
    rw [Int.toNat_natCast] at hcov
    have HCO : Hid (CovOK (nat f) len r (x : Int) (y : Int)) := coverP_ok hcov
    have hnum := hcov.num
    have hx2 : x < 1024 := Nat.lt_of_lt_of_le hcov.la (pw_le len h10)
    have hy2 : y < 1024 := Nat.lt_of_lt_of_le hcov.lb (pw_le r hr10)
    have hdl : dfc (nat f) len ≤ len := by
      have : dfc (nat f) len ≤ len := (maxTo_le_iff _ _ _).2 fun s hs => by
        have h1 := pc_cnt h10 hs
        have h2 := cnt2_le (fun j => s.testBit j) len
        unfold lk1; omega
      exact this
    have hpx := pc_le x
    have hpy := pc_le y
    go_wp2_with fail
    refine (checkGraph_any len r a len cap f _ hl K1.row).mono ?_
    rintro e w2 ⟨⟨c', rfl, hc'⟩, hb2⟩
    obtain rfl := GChk.unique hc' hc
    have HB2 : Hid (Below w.heap.size w w2) := Below.then HB1.out hb2
    have K2 := K1.step hb2
    clear hb2 HB1 k0 k1 k2 hc hc' K1 hcov
    go_wp2_with fail
    refine (matchBegun_any _).mono ?_
    rintro e w3 ⟨rfl, hb3⟩
    have HB3 : Hid (Below w.heap.size w w3) := Below.then HB2.out hb3
    have K3 := K2.step hb3
    clear hb3 HB2 K2
    have HG : Hid (GHeld w3 w.heap.size len r a len cap (fun k => (nat f k : Nat))) := ⟨K3.c0, K3.c1, K3.c2, hrng.row K3.row⟩
    have HSM : Hid (Sm r len (nat f)) := hrng.small
    have m0 := K3.c0
    have m1 := K3.c1
    have m2 := K3.c2
    have l0 : ∀ w', Below w3.heap.size w3 w' → w'.cell? ⟨w.heap.size, 0, none⟩ = some (.int .i64 (len : Int)) := fun w' h => (HG.out.step h).c0
    have l1 : ∀ w', Below w3.heap.size w3 w' → w'.cell? ⟨w.heap.size, 1, none⟩ = some (.int .i64 (r : Int)) := fun w' h => (HG.out.step h).c1
    have l2 : ∀ w', Below w3.heap.size w3 w' → w'.cell? ⟨w.heap.size, 2, none⟩ = some (.slice a len cap) := fun w' h => (HG.out.step h).c2
    have LR : Hid (∀ w', Below w3.heap.size w3 w' → Row w' a len (fun k => (nat f k : Nat))) := fun w' h => (HG.out.step h).row
    have KK : Below w3.heap.size w3 w3.drew := (Below.refl _ _).drew
    have HOUT : Hid (∀ w', Below w3.heap.size w3 w' → Below w.heap.size w w') := fun w' h => Below.then HB3.out h
    have HDF : Hid (∀ w, Row w a len (fun k => (nat f k : Nat)) → Calls Try.prog 14 #[.agg #[.int .i64 (len : Int), .int .i64 (r : Int), .slice a len cap]] w fun e w' => e = .returned (.int .i64 (dfc (nat f) len : Nat)) ∧ Below w.heap.size w w') := fun w h => deficit_any len r a cap (nat f) w h10 hr10 HSM.out h
    have HSX : Hid (∀ w, Calls Try.prog 17 #[.int .i64 (x : Nat)] w fun e w' => e = .returned (.int .i64 (pc x : Nat)) ∧ w = w') := fun w => refSize_any x w hx2
    have HSY : Hid (∀ w, Calls Try.prog 17 #[.int .i64 (y : Nat)] w fun e w' => e = .returned (.int .i64 (pc y : Nat)) ∧ w = w') := fun w => refSize_any y w hy2
    generalize dfc (nat f) len = D at *
    generalize pc x = px at *
    generalize pc y = py at *
    have hwr : IntKind.i64.wrap ((len : Int) - (D : Int)) = (len : Int) - (D : Int) := wrap_i64_int _ (by omega) (by omega)
    have hwr2 : IntKind.i64.wrap ((px : Int) + (py : Int)) = (px : Int) + (py : Int) := wrap_i64_int _ (by omega) (by omega)
    have hq : (((px : Int) + (py : Int)) == (len : Int) - (D : Int)) = true := by simp; omega
    clear K3 hrng HG HB3 hnum
    go_wp2_with fail
    go_region_held3 (fun w' => Below w3.heap.size w3 w')
      (first | exact KK | assumption | exact Below.then (by assumption) (by assumption))
      (first
        | (go_at_call 16; refine (covered_yes len r a cap (nat f) _ _ _ HCO.out h10 hr10 HSM.out (LR.out _ (by assumption))).mono ?_; rintro e w4 ⟨rfl, hb4⟩)
        | (go_at_call_of 17 (Value.int IntKind.i64 ((x : Nat) : Int)); refine (HSX.out _).mono ?_; rintro e w4 ⟨rfl, rfl⟩)
        | (go_at_call_of 17 (Value.int IntKind.i64 ((y : Nat) : Int)); refine (HSY.out _).mono ?_; rintro e w4 ⟨rfl, rfl⟩)
        | (go_at_call 14; refine (HDF.out _ (LR.out _ (by assumption))).mono ?_; rintro e w4 ⟨rfl, hb4⟩))
    all_goals go_wp2_with fail
    all_goals go_ret
    all_goals exact ⟨rfl, HOUT.out _ (by assumption)⟩
end Go.Proofs.Ytahnkmdhhdgfhaa
