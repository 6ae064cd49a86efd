/-
  For every context that is handed in, hasselaw.ConceptChecks and ConceptConcepts return true, and write nothing that was there. No condition.
-/
import Derived.Test.YtpmgengddnafeaaConB
namespace Go.Proofs.Ytpmgengddnafeaa
open Go.RowKit

set_option maxHeartbeats 1000000 in
theorem conceptChecks_any (L R : Int) (a : Option Addr) (len cap : Nat) (f : Nat → Int) (w : World) (hl : len ≤ maxLen) (hr : Row w a len f) :
    Calls Try.prog 3 #[.agg #[.int .i64 L, .int .i64 R, .slice a len cap]] w fun e w' => e = .returned (.bool true) ∧ Below w.heap.size w w' := by
  have K0 : GHeld (w.alloc (.cells #[.int .i64 L, .int .i64 R, .slice a len cap] 24)) w.heap.size L R a len cap f := GHeld.box hr
  have HB0 : Hid (Below w.heap.size w (w.alloc (.cells #[.int .i64 L, .int .i64 R, .slice a len cap] 24))) := (Below.refl _ _).alloc (Nat.le_refl _) _
  clear hr
  obtain ⟨W0, HW0⟩ : ∃ W0, Hid (W0 = w.alloc (.cells #[.int .i64 L, .int .i64 R, .slice a len cap] 24)) := ⟨_, rfl⟩
  go_enter Try.func3, Try.ntmps3
  go_wp2
  rw [← HW0.out] at K0 HB0 ⊢
  have l0 : ∀ w', Below W0.heap.size W0 w' → w'.cell? ⟨w.heap.size, 0, none⟩ = some (.int .i64 L) := fun w' h => (K0.step h).c0
  have l1 : ∀ w', Below W0.heap.size W0 w' → w'.cell? ⟨w.heap.size, 1, none⟩ = some (.int .i64 R) := fun w' h => (K0.step h).c1
  have l2 : ∀ w', Below W0.heap.size W0 w' → w'.cell? ⟨w.heap.size, 2, none⟩ = some (.slice a len cap) := fun w' h => (K0.step h).c2
  have LR : Hid (∀ w', Below W0.heap.size W0 w' → Row w' a len f) := fun w' h => (K0.step h).row
  have HOUT : Hid (∀ w', Below W0.heap.size W0 w' → Below w.heap.size w w') := fun w' h => Below.then HB0.out h
  have KK : Below W0.heap.size W0 W0.drew := (Below.refl _ _).drew
  clear K0 HB0 HW0
  go_region_held3 (fun w' => Below W0.heap.size W0 w')
    (first | exact KK | assumption | exact Below.then (by assumption) (by assumption))
    (first
      | (go_at_call 9; refine (conceptBegun_any _).mono ?_; rintro e w' ⟨rfl, hb⟩)
      | (go_at_call 10; refine (ccheck_any L R a len cap f _ hl (LR.out _ (by assumption))).mono ?_; rintro e w' ⟨⟨c, rfl, hc⟩, hb⟩)
      | (go_at_call 11; refine (checkContext_any L R a len cap f _ hl (LR.out _ (by assumption))).mono ?_; rintro e w' ⟨⟨c', rfl, hc'⟩, hb⟩; obtain rfl := GChk.unique hc' hc))
  all_goals go_wp2
  all_goals go_ret
  all_goals exact ⟨rfl, HOUT.out _ (by assumption)⟩

set_option maxHeartbeats 1000000 in
theorem conceptConcepts_any (L R : Int) (a : Option Addr) (len cap : Nat) (f : Nat → Int) (w : World) (hl : len ≤ maxLen) (hr : Row w a len f) :
    Calls Try.prog 5 #[.agg #[.int .i64 L, .int .i64 R, .slice a len cap]] w fun e w' => e = .returned (.bool true) ∧ Below w.heap.size w w' := by
  have K0 : GHeld (w.alloc (.cells #[.int .i64 L, .int .i64 R, .slice a len cap] 24)) w.heap.size L R a len cap f := GHeld.box hr
  have HB0 : Hid (Below w.heap.size w (w.alloc (.cells #[.int .i64 L, .int .i64 R, .slice a len cap] 24))) := (Below.refl _ _).alloc (Nat.le_refl _) _
  clear hr
  go_enter Try.func5, Try.ntmps5
  go_wp2_with fail
  refine (concepts_any L R a len cap f _ hl K0.row).mono ?_
  rintro e w1 ⟨he, hb⟩
  have K1 := K0.step hb
  have k0 := K1.c0
  have k1 := K1.c1
  have k2 := K1.c2
  have HB1 : Hid (Below w.heap.size w w1) := Below.then HB0.out hb
  clear hb K0 HB0
  rcases he with ⟨c, h0, hc, rfl⟩ | ⟨r, v, hc, rfl, rfl, h10, r10, hrng, rfl, hp⟩
  · have hne : (c != 0) = true := by simpa using h0
    have hne2 : (c == 0) = false := by simpa using h0
    go_wp2_with fail
    refine (checkContext_any L R a len cap f _ hl K1.row).mono ?_
    rintro e w2 ⟨⟨c', rfl, hc'⟩, hb2⟩
    obtain rfl := GChk.unique hc' hc
    have HB2 : Hid (Below w.heap.size w w2) := Below.then HB1.out hb2
    clear hb2 HB1 K1 k0 k1 k2 hc hc'
    go_wp2_with fail
    refine (conceptBegun_any _).mono ?_
    rintro e w3 ⟨rfl, hb3⟩
    have HB3 : Hid (Below w.heap.size w w3) := Below.then HB2.out hb3
    clear hb3 HB2
    go_wp2_with fail
    refine (conceptBegun_any _).mono ?_
    rintro e w4 ⟨rfl, hb4⟩
    have HB4 : Hid (Below w.heap.size w w4) := Below.then HB3.out hb4
    clear hb4 HB3
    go_wp2_with fail
    go_ret
    exact ⟨rfl, HB4.out⟩
  · obtain ⟨l, HLL⟩ : ∃ l, Hid (l = cons (nat f) len r) := ⟨_, rfl⟩
    have HL : Hid (l.length ≤ 100000) := by rw [Hid, HLL.out]; exact Nat.le_trans (cons_len _ _ h10) (by decide)
    rw [← HLL.out] at hp
    have HP : Hid (PSl w1 v l) := hp
    have HV : Hid (∃ a' n' c', v = .slice a' n' c') := by obtain ⟨a', c', h, _⟩ := hp; exact ⟨a', _, c', h⟩
    clear hp
    obtain ⟨a', n', c', rfl⟩ := HV.out
    clear HV
    go_wp2_with fail
    refine (checkContext_any len r a len cap f _ hl K1.row).mono ?_
    rintro e w2 ⟨⟨c', rfl, hc'⟩, hb2⟩
    obtain rfl := GChk.unique hc' hc
    have HB2 : Hid (Below w.heap.size w w2) := Below.then HB1.out hb2
    have HP2 : Hid (PSl w2 _ l) := HP.out.below hb2
    have K2 := K1.step hb2
    clear hb2 HB1 k0 k1 k2 hc hc' K1 HP
    go_wp2_with fail
    refine (conceptBegun_any _).mono ?_
    rintro e w3 ⟨rfl, hb3⟩
    have HB3 : Hid (Below w.heap.size w w3) := Below.then HB2.out hb3
    have HP3 : Hid (PSl w3 _ l) := HP2.out.below hb3
    have K3 := K2.step hb3
    have k0 := K3.c0
    have k1 := K3.c1
    have k2 := K3.c2
    clear hb3 HB2 K2 HP2
    go_wp2_with fail
    refine (conceptsOf_any a len r cap (nat f) _ h10 r10 (hrng.small2 r10) (hrng.row K3.row)).mono ?_
    rintro e w4 ⟨⟨v4, rfl, hp4⟩, hb4⟩
    have HB4 : Hid (Below w.heap.size w w4) := Below.then HB3.out hb4
    have HP4 : Hid (PSl w4 _ l) := HP3.out.below hb4
    have HQ4 : Hid (PSl w4 v4 l) := by rw [Hid, HLL.out]; exact hp4
    clear hb4 HB3 K3 k0 k1 k2 HP3 hp4
    go_wp2_with fail
    refine (samePairs_any _ _ l _ HL.out HP4.out HQ4.out).mono ?_
    rintro e w5 ⟨rfl, hb5⟩
    have HB5 : Hid (Below w.heap.size w w5) := Below.then HB4.out hb5
    clear hb5 HB4 HP4 HQ4 HL
    go_wp2_with fail
    go_ret
    exact ⟨rfl, HB5.out⟩
end Go.Proofs.Ytpmgengddnafeaa
