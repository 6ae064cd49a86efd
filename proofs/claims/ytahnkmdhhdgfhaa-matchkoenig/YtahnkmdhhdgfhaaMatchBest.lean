/-
  For every graph that is handed in, hasselaw.MatchBest returns true, and writes nothing that was there. No condition.
-/
import Derived.Test.YtahnkmdhhdgfhaaMMated
import Derived.Test.YtahnkmdhhdgfhaaMDef
import Derived.Test.YtahnkmdhhdgfhaaMatchLaws
namespace Go.Proofs.Ytahnkmdhhdgfhaa
open Go.RowKit

theorem mates_mtd {t : Nat → Nat} {l r : Nat} {G : Nat → Int} (hl : l ≤ 10) (hr : r ≤ 10) (ht : Sm r l t) (h : Mates t l r G) : Mtd t l r l G ((l : Int) - (dfc t l : Nat)) := by
  have e := h.count hl hr ht
  exact ⟨rfl, h.ok, by omega⟩

theorem mated_yes (l r : Nat) (a : Option Addr) (cap : Nat) (t : Nat → Nat) (al : Option Addr) (len capl : Nat) (f : Nat → Int) (P : Int) (w : World) (hm : Mtd t l r len f P) (hl : l ≤ 10) (hr10 : r ≤ 10) (ht : Sm r l t) (hr : Row w a l (fun k => (t k : Nat))) (hll : len ≤ maxLen) (hf : Row w al len f) :
    Calls Try.prog 13 #[.agg #[.int .i64 (l : Int), .int .i64 (r : Int), .slice a l cap], .slice al len capl, .int .i64 P] w fun e w' => e = .returned (.bool true) ∧ Below w.heap.size w w' :=
  (mated_any l r a cap t al len capl f P w hl hr10 ht hr hll hf).mono fun e w' ⟨⟨b, he, hb⟩, hB⟩ => ⟨by rw [he, hb.2 hm], hB⟩

set_option maxHeartbeats 1000000 in
theorem matchBest_any (L R : Int) (a : Option Addr) (len cap : Nat) (f : Nat → Int) (w : World) (hl : len ≤ maxLen) (hr : Row w a len f) :
    Calls Try.prog 4 #[.agg #[.int .i64 L, .int .i64 R, .slice a len cap]] w fun e w' => e = .returned (.bool true) ∧ Below w.heap.size w w' := by
  have K0 : GHeld (w.alloc (.cells #[.int .i64 L, .int .i64 R, .slice a len cap] 24)) w.heap.size L R a len cap f := GHeld.box hr
  have HB0 : Hid (Below w.heap.size w (w.alloc (.cells #[.int .i64 L, .int .i64 R, .slice a len cap] 24))) := (Below.refl _ _).alloc (Nat.le_refl _) _
  clear hr
  go_enter Try.func4, Try.ntmps4
  go_wp2_with fail
  refine (best2_any L R a len cap f _ hl K0.row).mono ?_
  rintro e w1 ⟨⟨c, v, hc, rfl, he⟩, hb⟩
  have K1 := K0.step hb
  have k0 := K1.c0
  have k1 := K1.c1
  have k2 := K1.c2
  have HB1 : Hid (Below w.heap.size w w1) := Below.then HB0.out hb
  clear hb K0 HB0
  rcases he with ⟨h0, rfl⟩ | ⟨rfl, b, G, rfl, hrow, hm⟩
  · have hne : (c != 0) = true := by simpa using h0
    go_wp2_with fail
    refine (checkGraph_any L R a len cap f _ hl K1.row).mono ?_
    rintro e w2 ⟨⟨c', rfl, hc'⟩, hb2⟩
    obtain rfl := GChk.unique hc' hc
    have HB2 : Hid (Below w.heap.size w w2) := Below.then HB1.out hb2
    clear hb2 HB1 K1 k0 k1 k2 hc hc'
    go_wp2_with fail
    refine (matchBegun_any _).mono ?_
    rintro e w3 ⟨rfl, hb3⟩
    have HB3 : Hid (Below w.heap.size w w3) := Below.then HB2.out hb3
    clear hb3 HB2
    go_wp2_with fail
    refine (matchBegun_any _).mono ?_
    rintro e w4 ⟨rfl, hb4⟩
    have HB4 : Hid (Below w.heap.size w w4) := Below.then HB3.out hb4
    clear hb4 HB3
    go_wp2_with fail
    go_ret
    exact ⟨rfl, HB4.out⟩
  · obtain ⟨r, rfl, rfl, h10, hr10, hrng⟩ := hc.good
    rw [Int.toNat_natCast] at hm
    have HR1 : Hid (Row w1 (some ⟨b, 0, none⟩) len G) := hrow
    have HM : Hid (Mtd (nat f) len r len G ((len : Int) - (dfc (nat f) len : Nat))) := mates_mtd h10 hr10 hrng.small hm
    have hdf : dfc (nat f) len ≤ 10 := dfc_small _ _ _
    clear hm hrow
    go_wp2_with fail
    refine (checkGraph_any len r a len cap f _ hl K1.row).mono ?_
    rintro e w2 ⟨⟨c', rfl, hc'⟩, hb2⟩
    obtain rfl := GChk.unique hc' hc
    have HB2 : Hid (Below w.heap.size w w2) := Below.then HB1.out hb2
    have HR2 : Hid (Row w2 (some ⟨b, 0, none⟩) len G) := HR1.out.below hb2
    have K2 := K1.step hb2
    clear hb2 HB1 k0 k1 k2 hc hc' K1 HR1
    go_wp2_with fail
    refine (matchBegun_any _).mono ?_
    rintro e w3 ⟨rfl, hb3⟩
    have HB3 : Hid (Below w.heap.size w w3) := Below.then HB2.out hb3
    have HR3 : Hid (Row w3 (some ⟨b, 0, none⟩) len G) := HR2.out.below hb3
    have K3 := K2.step hb3
    have m0 := K3.c0
    have m1 := K3.c1
    have m2 := K3.c2
    clear hb3 HB2 K2 HR2
    have HG : Hid (GHeld w3 w.heap.size len r a len cap (fun k => (nat f k : Nat))) := ⟨K3.c0, K3.c1, K3.c2, hrng.row K3.row⟩
    have HSM : Hid (Sm r len (nat f)) := hrng.small
    clear K3 hrng
    have l0 : ∀ w', Below w3.heap.size w3 w' → w'.cell? ⟨w.heap.size, 0, none⟩ = some (.int .i64 (len : Int)) := fun w' h => (HG.out.step h).c0
    have l1 : ∀ w', Below w3.heap.size w3 w' → w'.cell? ⟨w.heap.size, 1, none⟩ = some (.int .i64 (r : Int)) := fun w' h => (HG.out.step h).c1
    have l2 : ∀ w', Below w3.heap.size w3 w' → w'.cell? ⟨w.heap.size, 2, none⟩ = some (.slice a len cap) := fun w' h => (HG.out.step h).c2
    have LR : Hid (∀ w', Below w3.heap.size w3 w' → Row w' a len (fun k => (nat f k : Nat))) := fun w' h => (HG.out.step h).row
    have LG : Hid (∀ w', Below w3.heap.size w3 w' → Row w' (some ⟨b, 0, none⟩) len G) := fun w' h => HR3.out.below h
    have KK : Below w3.heap.size w3 w3.drew := (Below.refl _ _).drew
    have HOUT : Hid (∀ w', Below w3.heap.size w3 w' → Below w.heap.size w w') := fun w' h => Below.then HB3.out h
    have HDF : Hid (∀ w, Row w a len (fun k => (nat f k : Nat)) → Calls Try.prog 14 #[.agg #[.int .i64 (len : Int), .int .i64 (r : Int), .slice a len cap]] w fun e w' => e = .returned (.int .i64 (dfc (nat f) len : Nat)) ∧ Below w.heap.size w w') := fun w h => deficit_any len r a cap (nat f) w h10 hr10 HSM.out h
    generalize dfc (nat f) len = D at *
    have hwr : IntKind.i64.wrap ((len : Int) - (D : Int)) = (len : Int) - (D : Int) := wrap_i64_int _ (by omega) (by omega)
    clear m0 m1 m2 HG HR3 HB3
    go_wp2_with fail
    go_region_held3 (fun w' => Below w3.heap.size w3 w')
      (first | exact KK | assumption | exact Below.then (by assumption) (by assumption))
      (first
        | (go_at_call 14; refine (HDF.out _ (LR.out _ (by assumption))).mono ?_; rintro e w4 ⟨rfl, hb4⟩)
        | (go_at_call 13; refine (mated_yes len r a cap (nat f) _ len len G ((len : Int) - (D : Int)) _ HM.out h10 hr10 HSM.out (LR.out _ (by assumption)) hl (LG.out _ (by assumption))).mono ?_; rintro e w5 ⟨rfl, hb5⟩))
    all_goals go_wp2_with fail
    all_goals go_ret
    all_goals exact ⟨rfl, HOUT.out _ (by assumption)⟩
end Go.Proofs.Ytahnkmdhhdgfhaa
