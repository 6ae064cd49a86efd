/-
  What hasselaw.RealizeDushnik answers: true. No condition but that slices read as slices of numbers, and of rows.
-/
import Derived.Test.YtklfnghgpmjnmaaRzDiL
import Derived.Test.YtklfnghgpmjnmaaRzT
namespace Go.Proofs.Ytklfnghgpmjnmaa
open Go.RowKit
set_option maxRecDepth 100000

theorem Says.few {len : Nat} {f : Nat → Int} {m : Nat} {S : Nat → Option Addr × Nat × Nat} {F : Nat → Nat → Int} {k : Nat} (hd : Dim (nat f) len k) (hs : Says (len : Nat) len f m S F) : k ≤ m := by
  obtain ⟨hr, _, hsame⟩ := hs
  rcases hr with ⟨h0, _⟩ | ⟨q, hq, h10, hm, _, ⟨h0, _⟩ | ⟨_, hall⟩⟩
  · cases h0
  · cases h0
  · obtain rfl : len = q := by omega
    refine hd.2.2 m hm (says_rz (fun k hk => (hall k hk).2) fun y hy => ?_)
    have e : ((acc F len m y : Nat) : Int) = f y := hsame y hy
    unfold Go.Proofs.Ytklfnghgpmjnmaa.nat
    omega
set_option maxHeartbeats 4000000 in
theorem realizeDushnik_any (n : Int) (a : Option Addr) (len cap : Nat) (f : Nat → Int) (b : Option Addr) (m cb : Nat) (S : Nat → Option Addr × Nat × Nat) (F : Nat → Nat → Int) (w : World) (hl : len ≤ maxLen) (hm : m ≤ maxLen) (hr : Row w a len f) (hs : RR w b m S F) :
    Calls Try.prog 6 #[.agg #[.int .i64 n, .slice a len cap], .slice b m cb] w fun e w' => e = .returned (.bool true) ∧ Below w.heap.size w w' := by
  obtain ⟨W0, HW0⟩ : ∃ W0, Hid (W0 = w.alloc (.cells #[.int .i64 n, .slice a len cap] 25)) := ⟨_, rfl⟩
  have HBW : Hid (Below w.heap.size w W0) := by rw [HW0.out]; exact (Below.refl _ _).alloc (Nat.le_refl _) _
  have HK0 : Hid (Held W0 w.heap.size n a len cap f) := by rw [HW0.out]; exact Held.box hr
  have HK : Hid (∀ w', Below W0.heap.size W0 w' → Held w' w.heap.size n a len cap f) := fun w' hb => HK0.out.step hb
  have HRW : Hid (∀ w', Below W0.heap.size W0 w' → RR w' b m S F) := fun w' hb => hs.below (Below.then HBW.out hb)
  clear hr hs
  go_enter Try.func6, Try.ntmps6
  go_wp2_with fail
  rw [← HW0.out]
  clear HW0 HK0
  refine (realizeBegun_any _).mono ?_
  rintro e wb ⟨rfl, hbb⟩
  have HBB : Hid (Below W0.heap.size W0 wb) := hbb
  clear hbb
  have c0 := (HK.out _ HBB.out).c0
  have c1 := (HK.out _ HBB.out).c1
  go_wp2_with fail
  refine (dim_any n a len cap f _ hl (HK.out _ HBB.out).row).mono ?_
  rintro e w1 ⟨⟨c, hc, hv⟩, hb1⟩
  have HB1 : Hid (Below W0.heap.size W0 w1) := Below.then HBB.out hb1
  have HC : Hid (SCk n len f c) := hc
  clear hb1 c0 c1 HBB hc
  have c0 := (HK.out _ HB1.out).c0
  have c1 := (HK.out _ HB1.out).c1
  by_cases e0 : c = 0
  · subst e0
    obtain ⟨rfl, hsml⟩ := HC.out.sml
    have HM : Hid (Sml len f) := hsml
    clear hsml
    rcases hv with ⟨h, _⟩ | ⟨_, l, al, cl, T, hd, hcov, rfl, hrr, hT⟩
    · exact absurd rfl h
    have HD : Hid (Dim (nat f) len l.length) := hd
    have HRR : Hid (∀ w', Below w1.heap.size w1 w' → RR w' al l.length T (fun i j => ((nP (nat f) len (ix l i) j : Nat) : Int))) := fun w' hb => hrr.below hb
    have HL3 : Hid (l.length ≤ 3) := hd.2.2 3 (by decide) (HM.out.srd.hira HM.out.h7).1
    have HSY : Hid (Says (len : Nat) len f l.length T (fun i j => ((nP (nat f) len (ix l i) j : Nat) : Int))) := hcov.said HM.out hd.1 (by have := HL3.out; omega) hT
    have H2 : Hid (RzS (· < len) (ltU (nat f) len) 2 ↔ l.length ≤ 2) := ⟨fun h => hd.2.2 2 (by decide) h, fun h => hd.2.1.more hd.1 h⟩
    have HFW : Hid (Says (len : Nat) len f m S F → l.length ≤ m) := fun h => h.few hd
    clear hd hcov hrr hT
    obtain ⟨Ln, HLn⟩ : ∃ Ln : Nat, Hid (Ln = l.length) := ⟨_, rfl⟩
    rw [← HLn.out] at HSY HRR HL3 H2 HFW HD ⊢
    have hL3 := HL3.out
    go_wp2_with fail
    refine (turned_any (len : Nat) a len cap f _ hl (HK.out _ HB1.out).row).mono ?_
    rintro e w2 ⟨⟨c', hc', hv⟩, hb2⟩
    obtain rfl := hc'.one HC.out
    clear hc'
    have HX : ∃ (n' : Int) (a' : Option Addr) (l' cap' : Nat) (ok : Bool), e = .returned (.tuple #[.agg #[.int .i64 n', .slice a' l' cap'], .bool ok, .int .i64 0]) ∧
      ((ok = false ∧ ¬ Ln ≤ 2) ∨ (ok = true ∧ n' = (len : Nat) ∧ l' = len ∧ Ln ≤ 2 ∧ ∃ h : Nat → Nat, Row w2 a' len (fun k => (h k : Nat)) ∧ Tnd (nat f) len h)) := by
      rcases hv with ⟨h0, rfl⟩ | ⟨_, hno, rfl⟩ | ⟨_, hy, a', cap', h, rfl, hrow, ht⟩
      · exact absurd rfl h0
      · exact ⟨0, none, 0, 0, false, rfl, .inl ⟨rfl, fun h => hno (H2.out.2 h)⟩⟩
      · exact ⟨(len : Nat), a', len, cap', true, rfl, .inr ⟨rfl, rfl, rfl, H2.out.1 hy, h, hrow, ht⟩⟩
    clear hv
    obtain ⟨n', a', l', cap', ok, rfl, hx⟩ := HX
    obtain ⟨W2, HW2⟩ : ∃ W2, Hid (W2 = w2.alloc (.cells #[.int .i64 n', .slice a' l' cap'] 25)) := ⟨_, rfl⟩
    have HA2 : Hid (Below w2.heap.size w2 W2) := by rw [HW2.out]; exact (Below.refl _ _).alloc (Nat.le_refl _) _
    have d0 : W2.cell? ⟨w2.heap.size, 0, none⟩ = some (.int .i64 n') := by rw [HW2.out]; simp
    have d1 : W2.cell? ⟨w2.heap.size, 1, none⟩ = some (.slice a' l' cap') := by rw [HW2.out]; simp
    have HDD : Hid (∀ w', Below W2.heap.size W2 w' → w'.cell? ⟨w2.heap.size, 0, none⟩ = some (.int .i64 n') ∧ w'.cell? ⟨w2.heap.size, 1, none⟩ = some (.slice a' l' cap')) := fun w' hb => ⟨(hb.cell (World.block_lt_of_cell? _ _ d0)).trans d0, (hb.cell (World.block_lt_of_cell? _ _ d1)).trans d1⟩
    have HB2 : Hid (Below w1.heap.size w1 W2) := Below.then hb2 HA2.out
    obtain ⟨Z1, HZ1⟩ : ∃ Z1, Hid (Z1 = w2.heap.size) := ⟨_, rfl⟩
    rw [← HZ1.out] at HDD
    clear hb2 c0 c1 d0 d1
    have c0 := (HK.out _ (Below.then HB1.out HB2.out)).c0
    have c1 := (HK.out _ (Below.then HB1.out HB2.out)).c1
    rw [HW2.out] at c0 c1
    go_wp2_with fail
    rw [← HW2.out, ← HZ1.out]
    rw [← HW2.out] at c0 c1
    refine (said_any (len : Nat) a len cap f al Ln cl T _ _ hl (HK.out _ (Below.then HB1.out HB2.out)).row (by unfold maxLen; omega) (HRR.out _ HB2.out)).mono ?_
    rintro e w3 ⟨⟨y, rfl, hy⟩, hb3⟩
    obtain rfl : y = true := hy.2 HSY.out
    have HB3 : Hid (Below W2.heap.size W2 w3) := hb3
    clear hb3 hy c0 c1 HW2 HZ1
    have hLL : ((Ln : Int) == (Ln : Int)) = true := by simp
    have c0 := (HK.out _ (Below.then HB1.out (Below.then HB2.out HB3.out))).c0
    have c1 := (HK.out _ (Below.then HB1.out (Below.then HB2.out HB3.out))).c1
    rcases hx with ⟨rfl, hno⟩ | ⟨rfl, hn', hl', hyes, h, hrow, ht⟩
    · have hN2 : decide ((Ln : Int) ≤ 2) = false := by simp; omega
      have hN3 : decide (Ln ≤ 2) = false := by simp; omega
      go_wp2_with fail
      refine (said_any (len : Nat) a len cap f b m cb S F _ hl (HK.out _ (Below.then HB1.out (Below.then HB2.out HB3.out))).row hm (HRW.out _ (Below.then HB1.out (Below.then HB2.out HB3.out)))).mono ?_
      rintro e w4 ⟨⟨y, rfl, hy⟩, hb4⟩
      have HB4 : Hid (Below w.heap.size w w4) := Below.then HBW.out (Below.then HB1.out (Below.then HB2.out (Below.then HB3.out hb4)))
      clear hb4 c0 c1
      cases y
      · go_wp2_with fail
        go_ret
        exact ⟨rfl, HB4.out⟩
      · have hLm := HFW.out (hy.1 rfl)
        have hLm2 : (Ln : Int) ≤ (m : Int) := by omega
        clear hy
        go_wp2_with fail
        go_ret
        exact ⟨rfl, HB4.out⟩
    · subst hn'
      subst hl'
      have hN2 : decide ((Ln : Int) ≤ 2) = true := by simp; omega
      have hN3 : decide (Ln ≤ 2) = true := by simp; omega
      have HT : Hid (Tnd (nat f) l' h) := ht
      have HRH : Hid (Row W2 a' l' (fun k => (h k : Nat))) := hrow.below HA2.out
      clear ht hrow
      obtain ⟨d0, d1⟩ := HDD.out _ HB3.out
      go_wp2_with fail
      refine (isTurned_any l' a cap (nat f) a' cap' h _ (Nat.le_trans HM.out.h7 (by decide)) HM.out.lt HT.out ((HK.out _ (Below.then HB1.out (Below.then HB2.out HB3.out))).row.nat HM.out.pos) (HRH.out.below HB3.out)).mono ?_
      rintro e w4 ⟨⟨q, rfl, hq⟩, hb4⟩
      obtain rfl : q = true := hq.2 trivial
      have HB4 : Hid (Below W2.heap.size W2 w4) := Below.then HB3.out hb4
      clear hb4 hq HB3 c0 c1 d0 d1
      have c0 := (HK.out _ (Below.then HB1.out (Below.then HB2.out HB4.out))).c0
      have c1 := (HK.out _ (Below.then HB1.out (Below.then HB2.out HB4.out))).c1
      go_wp2_with fail
      refine (said_any (l' : Nat) a l' cap f b m cb S F _ hl (HK.out _ (Below.then HB1.out (Below.then HB2.out HB4.out))).row hm (HRW.out _ (Below.then HB1.out (Below.then HB2.out HB4.out)))).mono ?_
      rintro e w5 ⟨⟨y, rfl, hy⟩, hb5⟩
      have HB5 : Hid (Below w.heap.size w w5) := Below.then HBW.out (Below.then HB1.out (Below.then HB2.out (Below.then HB4.out hb5)))
      clear hb5 c0 c1
      cases y
      · go_wp2_with fail
        go_ret
        exact ⟨rfl, HB5.out⟩
      · have hLm := HFW.out (hy.1 rfl)
        have hLm2 : (Ln : Int) ≤ (m : Int) := by omega
        clear hy
        go_wp2_with fail
        go_ret
        exact ⟨rfl, HB5.out⟩
  · rcases hv with ⟨_, rfl⟩ | ⟨h, _⟩
    · have h0 : (c != 0) = true := by simpa using e0
      have h2 : (c == c) = true := by simp
      go_wp2_with fail
      refine (turned_any n a len cap f _ hl (HK.out _ HB1.out).row).mono ?_
      rintro e w2 ⟨⟨c', hc', hv⟩, hb2⟩
      obtain rfl := hc'.one HC.out
      clear hc'
      rcases hv with ⟨_, rfl⟩ | ⟨h, _⟩ | ⟨h, _⟩
      · have HB2 : Hid (∀ o, Below w.heap.size w (w2.alloc o)) := fun o => Below.alloc (Below.then HBW.out (Below.then HB1.out hb2)) (Below.then HBW.out (Below.then HB1.out hb2)).size _
        clear hb2 c0 c1
        unfold noOrder
        go_wp2_with fail
        go_ret
        exact ⟨rfl, HB2.out _⟩
      · exact absurd h e0
      · exact absurd h e0
    · exact absurd h e0
end Go.Proofs.Ytklfnghgpmjnmaa
