/-
  What hasselaw.RealizeTurned answers: true. No condition but that a slice reads as a slice of numbers.
-/
import Derived.Test.YtklfnghgpmjnmaaRzDiL
import Derived.Test.YtklfnghgpmjnmaaRzT
namespace Go.Proofs.Ytklfnghgpmjnmaa
open Go.RowKit
set_option maxRecDepth 100000

set_option maxHeartbeats 4000000 in
theorem realizeTurned_any (n : Int) (a : Option Addr) (len cap : Nat) (f : Nat → Int) (w : World) (hl : len ≤ maxLen) (hr : Row w a len f) :
    Calls Try.prog 5 #[.agg #[.int .i64 n, .slice a len cap]] w fun e w' => e = .returned (.bool true) ∧ Below w.heap.size w w' := by
  obtain ⟨W0, HW0⟩ : ∃ W0, Hid (W0 = w.alloc (.cells #[.int .i64 n, .slice a len cap] 25)) := ⟨_, rfl⟩
  have HBW : Hid (Below w.heap.size w W0) := by rw [HW0.out]; exact (Below.refl _ _).alloc (Nat.le_refl _) _
  have HK0 : Hid (Held W0 w.heap.size n a len cap f) := by rw [HW0.out]; exact Held.box hr
  have HK : Hid (∀ w', Below W0.heap.size W0 w' → Held w' w.heap.size n a len cap f) := fun w' hb => HK0.out.step hb
  clear hr
  go_enter Try.func5, Try.ntmps5
  go_wp2_with fail
  rw [← HW0.out]
  have c0 := HK0.out.c0
  have c1 := HK0.out.c1
  go_wp2_with fail
  refine (turned_any n a len cap f _ hl HK0.out.row).mono ?_
  rintro e w1 ⟨⟨c, hc, hv⟩, hb1⟩
  have HC : Hid (SCk n len f c) := hc
  have HX : ∃ (n' : Int) (a' : Option Addr) (l' cap' : Nat) (ok : Bool), e = .returned (.tuple #[.agg #[.int .i64 n', .slice a' l' cap'], .bool ok, .int .i64 c]) ∧
      ((ok = false ∧ n' = 0 ∧ a' = none ∧ l' = 0 ∧ cap' = 0 ∧ (c = 0 → ¬ RzS (· < len) (ltU (nat f) len) 2)) ∨
       (ok = true ∧ c = 0 ∧ n' = (len : Nat) ∧ l' = len ∧ RzS (· < len) (ltU (nat f) len) 2 ∧ ∃ h : Nat → Nat, Row w1 a' len (fun k => (h k : Nat)) ∧ Tnd (nat f) len h)) := by
    rcases hv with ⟨h0, rfl⟩ | ⟨rfl, hno, rfl⟩ | ⟨rfl, hy, a', cap', h, rfl, hrow, ht⟩
    · exact ⟨0, none, 0, 0, false, rfl, .inl ⟨rfl, rfl, rfl, rfl, rfl, fun h => absurd h h0⟩⟩
    · exact ⟨0, none, 0, 0, false, rfl, .inl ⟨rfl, rfl, rfl, rfl, rfl, fun _ => hno⟩⟩
    · exact ⟨(len : Nat), a', len, cap', true, rfl, .inr ⟨rfl, rfl, rfl, rfl, hy, h, hrow, ht⟩⟩
  clear hv hc
  obtain ⟨n', a', l', cap', ok, rfl, hx⟩ := HX
  obtain ⟨W1, HW1⟩ : ∃ W1, Hid (W1 = w1.alloc (.cells #[.int .i64 n', .slice a' l' cap'] 25)) := ⟨_, rfl⟩
  have HA1 : Hid (Below w1.heap.size w1 W1) := by rw [HW1.out]; exact (Below.refl _ _).alloc (Nat.le_refl _) _
  have d0 : W1.cell? ⟨w1.heap.size, 0, none⟩ = some (.int .i64 n') := by rw [HW1.out]; simp
  have d1 : W1.cell? ⟨w1.heap.size, 1, none⟩ = some (.slice a' l' cap') := by rw [HW1.out]; simp
  have HD : Hid (∀ w', Below W1.heap.size W1 w' → w'.cell? ⟨w1.heap.size, 0, none⟩ = some (.int .i64 n') ∧ w'.cell? ⟨w1.heap.size, 1, none⟩ = some (.slice a' l' cap')) := fun w' hb => ⟨(hb.cell (World.block_lt_of_cell? _ _ d0)).trans d0, (hb.cell (World.block_lt_of_cell? _ _ d1)).trans d1⟩
  have HB1 : Hid (Below W0.heap.size W0 W1) := Below.then hb1 HA1.out
  obtain ⟨Z1, HZ1⟩ : ∃ Z1, Hid (Z1 = w1.heap.size) := ⟨_, rfl⟩
  rw [← HZ1.out] at HD
  clear hb1 c0 c1 HW0 HK0 d0 d1
  have c0' := (HK.out _ HB1.out).c0
  have c1' := (HK.out _ HB1.out).c1
  rw [HW1.out] at c0' c1'
  go_wp2_with fail
  rw [← HW1.out, ← HZ1.out]
  clear c0' c1' HZ1 HW1
  refine (checkSmall_any n a len cap f _ hl (HK.out _ HB1.out).row).mono ?_
  rintro e w2 ⟨⟨c', rfl, hc'⟩, hb2⟩
  obtain rfl := hc'.one HC.out
  have HB2 : Hid (Below W1.heap.size W1 w2) := hb2
  clear hb2 hc'
  go_wp2_with fail
  refine (realizeBegun_any _).mono ?_
  rintro e w3 ⟨rfl, hb3⟩
  have HB3 : Hid (Below W1.heap.size W1 w3) := Below.then HB2.out hb3
  clear hb3 HB2
  have c0 := (HK.out _ (Below.then HB1.out HB3.out)).c0
  have c1 := (HK.out _ (Below.then HB1.out HB3.out)).c1
  rcases hx with ⟨rfl, rfl, rfl, rfl, rfl, hno⟩ | ⟨rfl, rfl, hn', rfl, hyes, h, hrow, ht⟩
  · by_cases e0 : c' = 0
    · subst e0
      have hno := hno rfl
      obtain ⟨rfl, hsml⟩ := HC.out.sml
      have HM : Hid (Sml len f) := hsml
      have HNO : Hid (¬ RzS (· < len) (ltU (nat f) len) 2) := hno
      clear hsml hno
      go_wp2_with fail
      refine (hasTurned_any len a cap (nat f) _ (Nat.le_trans HM.out.h7 (by decide)) HM.out.lt ((HK.out _ (Below.then HB1.out HB3.out)).row.nat HM.out.pos) HM.out.srd).mono ?_
      rintro e w4 ⟨⟨v, rfl, hv⟩, hb4⟩
      obtain rfl : v = false := by
        cases v
        · rfl
        · exact absurd (hv.1 rfl) HNO.out
      have HB4 : Hid (Below W1.heap.size W1 w4) := Below.then HB3.out hb4
      clear hb4 hv HB3 c0 c1
      obtain ⟨d0, d1⟩ := HD.out _ HB4.out
      go_wp2_with fail
      refine (truthIs_any 0 false false _ (.inr ⟨rfl, rfl⟩)).mono ?_
      rintro e w5 ⟨rfl, rfl⟩
      go_wp2_with fail
      refine (sameOrder_any 0 0 none none 0 0 0 0 (fun _ => 0) (fun _ => 0) _ (by unfold maxLen; omega) (by unfold maxLen; omega) (fun k hk => absurd hk (Nat.not_lt_zero _)) (fun k hk => absurd hk (Nat.not_lt_zero _))).mono ?_
      rintro e w6 ⟨⟨q, rfl, hq⟩, hb6⟩
      obtain rfl : q = true := hq.2 ⟨rfl, rfl, fun _ _ => rfl⟩
      have HB6 : Hid (Below w.heap.size w w6) := Below.then HBW.out (Below.then HB1.out (Below.then HB4.out hb6))
      clear hb6 hq
      go_wp2_with fail
      go_ret
      exact ⟨rfl, HB6.out⟩
    · have h0 : (c' == 0) = false := by simpa using e0
      have HE0 : Hid (c' ≠ 0) := e0
      clear hno e0
      obtain ⟨d0, d1⟩ := HD.out _ HB3.out
      go_wp2_with fail
      refine (truthIs_any c' false false _ (.inl ⟨HE0.out, rfl⟩)).mono ?_
      rintro e w5 ⟨rfl, rfl⟩
      go_wp2_with fail
      refine (sameOrder_any 0 0 none none 0 0 0 0 (fun _ => 0) (fun _ => 0) _ (by unfold maxLen; omega) (by unfold maxLen; omega) (fun k hk => absurd hk (Nat.not_lt_zero _)) (fun k hk => absurd hk (Nat.not_lt_zero _))).mono ?_
      rintro e w6 ⟨⟨q, rfl, hq⟩, hb6⟩
      obtain rfl : q = true := hq.2 ⟨rfl, rfl, fun _ _ => rfl⟩
      have HB6 : Hid (Below w.heap.size w w6) := Below.then HBW.out (Below.then HB1.out (Below.then HB3.out hb6))
      clear hb6 hq
      go_wp2_with fail
      go_ret
      exact ⟨rfl, HB6.out⟩
  · subst hn'
    obtain ⟨hnl, hsml⟩ := HC.out.sml
    subst hnl
    have HM : Hid (Sml l' f) := hsml
    have HRZ : Hid (RzS (· < l') (ltU (nat f) l') 2) := hyes
    have HT : Hid (Tnd (nat f) l' h) := ht
    have HRW : Hid (Row W1 a' l' (fun k => (h k : Nat))) := hrow.below HA1.out
    clear hsml hyes ht hrow
    go_wp2_with fail
    refine (hasTurned_any l' a cap (nat f) _ (Nat.le_trans HM.out.h7 (by decide)) HM.out.lt ((HK.out _ (Below.then HB1.out HB3.out)).row.nat HM.out.pos) HM.out.srd).mono ?_
    rintro e w4 ⟨⟨v, rfl, hv⟩, hb4⟩
    obtain rfl : v = true := hv.2 HRZ.out
    have HB4 : Hid (Below W1.heap.size W1 w4) := Below.then HB3.out hb4
    clear hb4 hv HB3 c0 c1
    obtain ⟨d0, d1⟩ := HD.out _ HB4.out
    have c0 := (HK.out _ (Below.then HB1.out HB4.out)).c0
    have c1 := (HK.out _ (Below.then HB1.out HB4.out)).c1
    go_wp2_with fail
    refine (truthIs_any 0 true true _ (.inr ⟨rfl, rfl⟩)).mono ?_
    rintro e w5 ⟨rfl, rfl⟩
    go_wp2_with fail
    refine (isTurned_any l' a cap (nat f) a' cap' h _ (Nat.le_trans HM.out.h7 (by decide)) HM.out.lt HT.out ((HK.out _ (Below.then HB1.out HB4.out)).row.nat HM.out.pos) (HRW.out.below HB4.out)).mono ?_
    rintro e w6 ⟨⟨q, rfl, hq⟩, hb6⟩
    obtain rfl : q = true := hq.2 trivial
    have HB6 : Hid (Below w.heap.size w w6) := Below.then HBW.out (Below.then HB1.out (Below.then HB4.out hb6))
    clear hb6 hq
    go_wp2_with fail
    go_ret
    exact ⟨rfl, HB6.out⟩
end Go.Proofs.Ytklfnghgpmjnmaa
