/-
  For every graph that is handed in, hasselaw.MatchChecks, MatchLacks and MatchCounts return true, and write nothing that was there. No condition.
-/
import Derived.Test.YtahnkmdhhdgfhaaMBegun
namespace Go.Proofs.Ytahnkmdhhdgfhaa
open Go.RowKit

theorem matchChecks_any (L R : Int) (a : Option Addr) (len cap : Nat) (f : Nat → Int) (w : World) (hl : len ≤ maxLen) (hr : Row w a len f) :
    Calls Try.prog 3 #[.agg #[.int .i64 L, .int .i64 R, .slice a len cap]] w fun e w' => e = .returned (.bool true) ∧ Below w.heap.size w w' := by
  have K0 : GHeld (w.alloc (.cells #[.int .i64 L, .int .i64 R, .slice a len cap] 24)) w.heap.size L R a len cap f := GHeld.box hr
  have HB0 : Hid (Below w.heap.size w (w.alloc (.cells #[.int .i64 L, .int .i64 R, .slice a len cap] 24))) := (Below.refl _ _).alloc (Nat.le_refl _) _
  clear hr
  obtain ⟨W0, HW0⟩ : ∃ W0, Hid (W0 = w.alloc (.cells #[.int .i64 L, .int .i64 R, .slice a len cap] 24)) := ⟨_, rfl⟩
  go_enter Try.func3, Try.ntmps3
  go_wp2
  rw [← HW0.out] at K0 HB0 ⊢
  have l0 : ∀ w', Below W0.heap.size W0 w' → w'.cell? ⟨w.heap.size, 0, none⟩ = some (.int .i64 L) := fun w' h => (K0.step h).c0
  have l1 : ∀ w', Below W0.heap.size W0 w' → w'.cell? ⟨w.heap.size, 1, none⟩ = some (.int .i64 R) := fun w' h => (K0.step h).c1
  have l2 : ∀ w', Below W0.heap.size W0 w' → w'.cell? ⟨w.heap.size, 2, none⟩ = some (.slice a len cap) := fun w' h => (K0.step h).c2
  have LR : Hid (∀ w', Below W0.heap.size W0 w' → Row w' a len f) := fun w' h => (K0.step h).row
  have HOUT : Hid (∀ w', Below W0.heap.size W0 w' → Below w.heap.size w w') := fun w' h => Below.then HB0.out h
  have KK : Below W0.heap.size W0 W0.drew := (Below.refl _ _).drew
  clear K0 HB0 HW0
  go_region_held3 (fun w' => Below W0.heap.size W0 w')
    (first | exact KK | assumption | exact Below.then (by assumption) (by assumption))
    (first
      | (go_at_call 9; refine (matchBegun_any _).mono ?_; rintro e w' ⟨rfl, hb⟩)
      | (go_at_call 10; refine (mcheck_any L R a len cap f _ hl (LR.out _ (by assumption))).mono ?_; rintro e w' ⟨⟨c, rfl, hc⟩, hb⟩)
      | (go_at_call 11; refine (checkGraph_any L R a len cap f _ hl (LR.out _ (by assumption))).mono ?_; rintro e w' ⟨⟨c', rfl, hc'⟩, hb⟩; obtain rfl := GChk.unique hc' hc))
  all_goals go_wp2
  all_goals go_ret
  all_goals exact ⟨rfl, HOUT.out _ (by assumption)⟩

theorem matchCounts_any (L R : Int) (a : Option Addr) (len cap : Nat) (f : Nat → Int) (w : World) (hl : len ≤ maxLen) (hr : Row w a len f) :
    Calls Try.prog 7 #[.agg #[.int .i64 L, .int .i64 R, .slice a len cap]] w fun e w' => e = .returned (.bool true) ∧ Below w.heap.size w w' := by
  have K0 : GHeld (w.alloc (.cells #[.int .i64 L, .int .i64 R, .slice a len cap] 24)) w.heap.size L R a len cap f := GHeld.box hr
  have HB0 : Hid (Below w.heap.size w (w.alloc (.cells #[.int .i64 L, .int .i64 R, .slice a len cap] 24))) := (Below.refl _ _).alloc (Nat.le_refl _) _
  clear hr
  go_enter Try.func7, Try.ntmps7
  go_wp2_with fail
  refine (count_any L R a len cap f _ hl K0.row).mono ?_
  rintro e w1 ⟨⟨c, hc, he⟩, hb⟩
  have K1 := K0.step hb
  have k0 := K1.c0
  have k1 := K1.c1
  have k2 := K1.c2
  have HB1 : Hid (Below w.heap.size w w1) := Below.then HB0.out hb
  clear hb K0 HB0
  rcases he with ⟨h0, rfl⟩ | ⟨rfl, rfl⟩
  · have hne2 : (c == 0) = false := by simpa using h0
    go_wp2_with fail
    refine (checkGraph_any L R a len cap f _ hl K1.row).mono ?_
    rintro e w2 ⟨⟨c', rfl, hc'⟩, hb2⟩
    obtain rfl := GChk.unique hc' hc
    have HB2 : Hid (Below w.heap.size w w2) := Below.then HB1.out hb2
    clear hb2 HB1 K1 k0 k1 k2 hc hc'
    go_wp2_with fail
    refine (matchBegun_any _).mono ?_
    rintro e w3 ⟨rfl, hb3⟩
    have HB3 : Hid (Below w.heap.size w w3) := Below.then HB2.out hb3
    clear hb3 HB2
    go_wp2_with fail
    refine (numberIs_any c' 0 _ _ (.inl ⟨h0, rfl⟩)).mono ?_
    rintro e w4 ⟨rfl, rfl⟩
    go_wp2_with fail
    go_ret
    exact ⟨rfl, HB3.out⟩
  · obtain ⟨r, rfl, rfl, h10, hr10, hrng⟩ := hc.good
    rw [Int.toNat_natCast]
    go_wp2_with fail
    refine (checkGraph_any len r a len cap f _ hl K1.row).mono ?_
    rintro e w2 ⟨⟨c', rfl, hc'⟩, hb2⟩
    obtain rfl := GChk.unique hc' hc
    have HB2 : Hid (Below w.heap.size w w2) := Below.then HB1.out hb2
    have K2 := K1.step hb2
    have m0 := K2.c0
    have m1 := K2.c1
    have m2 := K2.c2
    clear hb2 HB1 k0 k1 k2 hc hc' K1
    go_wp2_with fail
    refine (matchings_any len r a cap (nat f) h10 hr10 hrng.small len 0 0 _ (by omega) (pw_pos r) (hrng.row K2.row)).mono ?_
    rintro e w3 ⟨rfl, hb3⟩
    have HB3 : Hid (Below w.heap.size w w3) := Below.then HB2.out hb3
    clear hb3 HB2 K2 m0 m1 m2
    generalize mat (nat f) r len 0 0 = M at *
    go_wp2_with fail
    refine (matchBegun_any _).mono ?_
    rintro e w4 ⟨rfl, hb4⟩
    have HB4 : Hid (Below w.heap.size w w4) := Below.then HB3.out hb4
    clear hb4 HB3
    go_wp2_with fail
    refine (numberIs_any 0 (M : Int) (M : Int) _ (.inr ⟨rfl, rfl⟩)).mono ?_
    rintro e w5 ⟨rfl, rfl⟩
    go_wp2_with fail
    go_ret
    exact ⟨rfl, HB4.out⟩

theorem matchLacks_any (L R : Int) (a : Option Addr) (len cap : Nat) (f : Nat → Int) (w : World) (hl : len ≤ maxLen) (hr : Row w a len f) :
    Calls Try.prog 6 #[.agg #[.int .i64 L, .int .i64 R, .slice a len cap]] w fun e w' => e = .returned (.bool true) ∧ Below w.heap.size w w' := by
  have K0 : GHeld (w.alloc (.cells #[.int .i64 L, .int .i64 R, .slice a len cap] 24)) w.heap.size L R a len cap f := GHeld.box hr
  have HB0 : Hid (Below w.heap.size w (w.alloc (.cells #[.int .i64 L, .int .i64 R, .slice a len cap] 24))) := (Below.refl _ _).alloc (Nat.le_refl _) _
  clear hr
  go_enter Try.func6, Try.ntmps6
  go_wp2_with fail
  refine (lack_any L R a len cap f _ hl K0.row).mono ?_
  rintro e w1 ⟨⟨c, hc, he⟩, hb⟩
  have K1 := K0.step hb
  have k0 := K1.c0
  have k1 := K1.c1
  have k2 := K1.c2
  have HB1 : Hid (Below w.heap.size w w1) := Below.then HB0.out hb
  clear hb K0 HB0
  rcases he with ⟨h0, rfl⟩ | ⟨rfl, rfl⟩
  · have hne2 : (c == 0) = false := by simpa using h0
    go_wp2_with fail
    refine (checkGraph_any L R a len cap f _ hl K1.row).mono ?_
    rintro e w2 ⟨⟨c', rfl, hc'⟩, hb2⟩
    obtain rfl := GChk.unique hc' hc
    have HB2 : Hid (Below w.heap.size w w2) := Below.then HB1.out hb2
    clear hb2 HB1 K1 k0 k1 k2 hc hc'
    go_wp2_with fail
    refine (matchBegun_any _).mono ?_
    rintro e w3 ⟨rfl, hb3⟩
    have HB3 : Hid (Below w.heap.size w w3) := Below.then HB2.out hb3
    clear hb3 HB2
    go_wp2_with fail
    refine (numberIs_any c' 0 _ _ (.inl ⟨h0, rfl⟩)).mono ?_
    rintro e w4 ⟨rfl, rfl⟩
    go_wp2_with fail
    go_ret
    exact ⟨rfl, HB3.out⟩
  · obtain ⟨r, rfl, rfl, h10, hr10, hrng⟩ := hc.good
    go_wp2_with fail
    refine (checkGraph_any len r a len cap f _ hl K1.row).mono ?_
    rintro e w2 ⟨⟨c', rfl, hc'⟩, hb2⟩
    obtain rfl := GChk.unique hc' hc
    have HB2 : Hid (Below w.heap.size w w2) := Below.then HB1.out hb2
    have K2 := K1.step hb2
    have m0 := K2.c0
    have m1 := K2.c1
    have m2 := K2.c2
    clear hb2 HB1 k0 k1 k2 hc hc' K1
    go_wp2_with fail
    refine (refLack_any len r a cap (nat f) _ h10 hr10 hrng.small (hrng.row K2.row)).mono ?_
    rintro e w3 ⟨rfl, hb3⟩
    have HB3 : Hid (Below w.heap.size w w3) := Below.then HB2.out hb3
    clear hb3 HB2 K2 m0 m1 m2
    generalize firstT (lks (nat f) len) (pw len) = O at *
    obtain ⟨B, HB⟩ : ∃ B, Hid (B = O.isSome) := ⟨_, rfl⟩
    rw [← HB.out]
    generalize lkv O = M at *
    clear HB
    go_wp2_with fail
    refine (matchBegun_any _).mono ?_
    rintro e w4 ⟨rfl, hb4⟩
    have HB4 : Hid (Below w.heap.size w w4) := Below.then HB3.out hb4
    clear hb4 HB3
    go_wp2_with fail
    refine (numberIs_any 0 (M : Int) (M : Int) _ (.inr ⟨rfl, rfl⟩)).mono ?_
    rintro e w5 ⟨rfl, rfl⟩
    go_wp2_with fail
    go_ret
    exact ⟨by simp, HB4.out⟩
end Go.Proofs.Ytahnkmdhhdgfhaa
