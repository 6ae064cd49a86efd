/-
  What the reference's IsLine and IsTurned and the laws' own said, checkSmall and truthIs answer. Conditions: orders of at most ten points where that is said.
-/
import Derived.Test.YtklfnghgpmjnmaaApM
import Derived.Test.YtklfnghgpmjnmaaRzU
import Derived.Test.YtklfnghgpmjnmaaRzC
import Derived.Test.YtklfnghgpmjnmaaRfRows
namespace Go.Proofs.Ytklfnghgpmjnmaa
open Go.RowKit
set_option maxRecDepth 100000

theorem truthIs_any (c : Int) (b b' : Bool) (w : World) (h : (c ≠ 0 ∧ b = false) ∨ (c = 0 ∧ b = b')) :
    Calls Try.prog 18 #[.bool b, .int .i64 c, .int .i64 c, .bool b'] w fun e w' => e = .returned (.bool true) ∧ w = w' := by
  rcases h with ⟨h0, rfl⟩ | ⟨rfl, rfl⟩
  · have hne : (c == 0) = false := by simpa using h0
    cases b'
    · go_enter Try.func18, Try.ntmps18
      go_wp2
      go_ret
      exact ⟨rfl, rfl⟩
    · go_enter Try.func18, Try.ntmps18
      go_wp2
      go_ret
      exact ⟨rfl, rfl⟩
  · cases b
    · go_enter Try.func18, Try.ntmps18
      go_wp2
      go_ret
      exact ⟨rfl, rfl⟩
    · go_enter Try.func18, Try.ntmps18
      go_wp2
      go_ret
      exact ⟨rfl, rfl⟩
theorem checkSmall_any (n : Int) (a : Option Addr) (len cap : Nat) (f : Nat → Int) (w : World) (hl : len ≤ maxLen) (hr : Row w a len f) :
    Calls Try.prog 13 #[.agg #[.int .i64 n, .slice a len cap]] w fun e w' => (∃ c : Int, e = .returned (.int .i64 c) ∧ SCk n len f c) ∧ Below w.heap.size w w' := by
  have HR := (show Hid (Row w a len f) from hr)
  obtain ⟨w1, HW1⟩ : ∃ w1, Hid (w1 = w.alloc (.cells #[.int .i64 n, .slice a len cap] 25)) := ⟨_, rfl⟩
  have hb1 : Below w.heap.size w w1 := by rw [HW1.out]; exact (Below.refl _ _).alloc (Nat.le_refl _) _
  have c0 : w1.cell? ⟨w.heap.size, 0, none⟩ = some (.int .i64 n) := by rw [HW1.out]; simp
  have c1 : w1.cell? ⟨w.heap.size, 1, none⟩ = some (.slice a len cap) := by rw [HW1.out]; simp
  have HB1 : Hid (Below w.heap.size w w1) := hb1
  clear hr hb1
  go_enter Try.func13, Try.ntmps13
  go_wp2_with fail
  rw [← HW1.out]
  go_wp2_with fail
  refine (checkOrder_any n a len cap f _ hl (HR.out.below HB1.out)).mono ?_
  rintro e w2 ⟨⟨c, rfl, hc⟩, hb2⟩
  have HB2 : Hid (Below w.heap.size w w2) := Below.then HB1.out hb2
  have d0 : w2.cell? ⟨w.heap.size, 0, none⟩ = some (.int .i64 n) := (hb2.cell (World.block_lt_of_cell? _ _ c0)).trans c0
  clear hb2
  by_cases e0 : c = 0
  · subst e0
    by_cases h7 : 7 < n
    · have HF : Hid (SCk n len f 2) := ⟨0, hc, by rw [if_pos rfl, if_pos h7]⟩
      clear hc
      go_wp2_with fail
      go_ret
      exact ⟨⟨2, rfl, HF.out⟩, HB2.out⟩
    · have HF : Hid (SCk n len f 0) := ⟨0, hc, by rw [if_pos rfl, if_neg h7]⟩
      clear hc
      go_wp2_with fail
      go_ret
      exact ⟨⟨0, rfl, HF.out⟩, HB2.out⟩
  · have h0 : (c == 0) = false := by simpa using e0
    have HF : Hid (SCk n len f c) := ⟨c, hc, by rw [if_neg e0]⟩
    clear hc
    go_wp2_with fail
    go_ret
    exact ⟨⟨c, rfl, HF.out⟩, HB2.out⟩
/-- Do rows say an order? -/
def Says (n : Int) (len : Nat) (f : Nat → Int) (m : Nat) (S : Nat → Option Addr × Nat × Nat) (F : Nat → Nat → Int) : Prop := RCk n m S F 0 ∧ SameRows n.toNat len (fun k => (acc F n.toNat m k : Nat)) f
theorem said_any (n : Int) (a : Option Addr) (len cap : Nat) (f : Nat → Int) (b : Option Addr) (m cb : Nat) (S : Nat → Option Addr × Nat × Nat) (F : Nat → Nat → Int) (w : World) (hl : len ≤ maxLen) (hr : Row w a len f) (hm : m ≤ maxLen) (hs : RR w b m S F) :
    Calls Try.prog 16 #[.agg #[.int .i64 n, .slice a len cap], .slice b m cb] w fun e w' => Ans e (Says n len f m S F) ∧ Below w.heap.size w w' := by
  have HR : Hid (Row w a len f) := hr
  have HS : Hid (RR w b m S F) := hs
  obtain ⟨w1, HW1⟩ : ∃ w1, Hid (w1 = w.alloc (.cells #[.int .i64 n, .slice a len cap] 25)) := ⟨_, rfl⟩
  have hb1 : Below w.heap.size w w1 := by rw [HW1.out]; exact (Below.refl _ _).alloc (Nat.le_refl _) _
  have c0 : w1.cell? ⟨w.heap.size, 0, none⟩ = some (.int .i64 n) := by rw [HW1.out]; simp
  have c1 : w1.cell? ⟨w.heap.size, 1, none⟩ = some (.slice a len cap) := by rw [HW1.out]; simp
  have HB1 : Hid (Below w.heap.size w w1) := hb1
  clear hr hb1 hs
  go_enter Try.func16, Try.ntmps16
  go_wp2_with fail
  rw [← HW1.out]
  go_wp2_with fail
  refine (rowsOrder_any n b m cb S F _ hm (HS.out.below HB1.out)).mono ?_
  rintro e w2 ⟨⟨c, x, rfl, hc, hx⟩, hb2⟩
  have HB2 : Hid (Below w.heap.size w w2) := Below.then HB1.out hb2
  have d0 : w2.cell? ⟨w.heap.size, 0, none⟩ = some (.int .i64 n) := (hb2.cell (World.block_lt_of_cell? _ _ c0)).trans c0
  have d1 : w2.cell? ⟨w.heap.size, 1, none⟩ = some (.slice a len cap) := (hb2.cell (World.block_lt_of_cell? _ _ c1)).trans c1
  clear hb2 c0 c1
  by_cases e0 : c = 0
  · subst e0
    rcases hx with ⟨h, _⟩ | ⟨_, ax, cx, rfl, hrx⟩
    · exact absurd rfl h
    have hn10 : n.toNat ≤ maxLen := by
      rcases hc with ⟨h, _⟩ | ⟨q, hq, h10, _⟩
      · cases h
      · unfold maxLen; omega
    obtain ⟨w3, HW3⟩ : ∃ w3, Hid (w3 = w2.alloc (.cells #[.int .i64 n, .slice ax n.toNat cx] 25)) := ⟨_, rfl⟩
    have hb3 : Below w2.heap.size w2 w3 := by rw [HW3.out]; exact (Below.refl _ _).alloc (Nat.le_refl _) _
    have g0 : w3.cell? ⟨w2.heap.size, 0, none⟩ = some (.int .i64 n) := by rw [HW3.out]; simp
    have g1 : w3.cell? ⟨w2.heap.size, 1, none⟩ = some (.slice ax n.toNat cx) := by rw [HW3.out]; simp
    have e0 : w3.cell? ⟨w.heap.size, 0, none⟩ = some (.int .i64 n) := (hb3.cell (World.block_lt_of_cell? _ _ d0)).trans d0
    have e1 : w3.cell? ⟨w.heap.size, 1, none⟩ = some (.slice a len cap) := (hb3.cell (World.block_lt_of_cell? _ _ d1)).trans d1
    have HB3 : Hid (Below w.heap.size w w3) := Below.then HB2.out hb3
    have HRX : Hid (Row w3 ax n.toNat (fun k => (acc F n.toNat m k : Nat))) := hrx.below hb3
    have HC : Hid (RCk n m S F 0) := hc
    clear hb3 hrx hc d0 d1 HB2
    rw [HW3.out] at g0 g1 e0 e1
    go_wp2_with fail
    rw [← HW3.out]
    refine (sameOrder_any n n ax a n.toNat cx len cap _ f _ hn10 hl HRX.out (HR.out.below HB3.out)).mono ?_
    rintro e w4 ⟨⟨v, rfl, hv⟩, hb4⟩
    have HB4 : Hid (Below w.heap.size w w4) := Below.then HB3.out hb4
    have HV : Hid (v = true ↔ SameOrders n n n.toNat len (fun k => (acc F n.toNat m k : Nat)) f) := hv
    clear hb4 hv
    go_wp2_with fail
    go_ret
    exact ⟨⟨v, rfl, HV.out.trans ⟨fun h => ⟨HC.out, h.2⟩, fun h => ⟨rfl, h.2⟩⟩⟩, HB4.out⟩
  · have h0 : (c == 0) = false := by simpa using e0
    have HF : Hid (¬ Says n len f m S F) := fun h => e0 (hc.one h.1)
    rcases hx with ⟨_, rfl⟩ | ⟨h, _⟩
    · have HB3 : Hid (∀ o, Below w.heap.size w (w2.alloc o)) := fun o => HB2.out.alloc HB2.out.size _
      clear hc HB2
      unfold noOrder
      go_wp2_with fail
      go_ret
      exact ⟨Ans.no HF.out, HB3.out _⟩
    · exact absurd h e0
set_option maxHeartbeats 2000000 in
theorem isLine_any (n : Nat) (a : Option Addr) (cap : Nat) (g : Nat → Nat) (w : World) (h10 : n ≤ 10) (hg : ∀ j, j < n → g j < 1024) (hr : Row w a n (fun k => (g k : Nat))) :
    Calls Try.prog 15 #[.agg #[.int .i64 (n : Nat), .slice a n cap]] w fun e w' => Ans e (∀ p q, apt (ltU g n) n p q = false) ∧ Below w.heap.size w w' := by
  obtain ⟨W0, HW0⟩ : ∃ W0, Hid (W0 = w.alloc (.cells #[.int .i64 (n : Nat), .slice a n cap] 25)) := ⟨_, rfl⟩
  have HW : Below w.heap.size w (w.alloc (.cells #[.int .i64 (n : Nat), .slice a n cap] 25)) := (Below.refl _ _).alloc (Nat.le_refl _) _
  have HK : Hid (Held W0 w.heap.size n a n cap (fun k => (g k : Nat))) := by rw [HW0.out]; exact Held.box hr
  have HBW : Hid (Below w.heap.size w W0) := by rw [HW0.out]; exact HW
  have HG : Hid (∀ k, k < n → g k < 1024) := hg
  clear hr HW hg
  go_enter Try.func15, Try.ntmps15
  go_wp2_with fail
  rw [← HW0.out]
  clear HW0
  go_loopw [3] (fun x wx => ∃ k : Nat, k ≤ n ∧ x = .int .i64 k ∧ Hid (∀ p, p < k → ∀ q, q < p → apt (ltU g n) n p q = false) ∧ Hid (Below W0.heap.size W0 wx)) (fun x _ => n - (intOf x).toNat)
  case atStart => exact ⟨0, Nat.zero_le _, rfl, fun p hp => absurd hp (Nat.not_lt_zero _), Below.refl _ _⟩
  case round =>
    obtain ⟨x, hx', rfl, hok, hB⟩ := hrel
    have hH := HK.out.step hB.out
    have c0 := hH.c0
    clear hH
    by_cases hx : x < n
    · have hxx : (x : Int) < (n : Int) := by omega
      go_wp2_with fail
      clear c0
      have HB0 := hB
      clear hB
      go_loopw [4] (fun t wx => ∃ y : Nat, y ≤ x ∧ t = .int .i64 y ∧ Hid (∀ q, q < y → apt (ltU g n) n x q = false) ∧ Hid (Below W0.heap.size W0 wx)) (fun t _ => x - (intOf t).toNat)
      case atStart => exact ⟨0, Nat.zero_le _, rfl, fun p hp => absurd hp (Nat.not_lt_zero _), HB0.out⟩
      case round =>
        obtain ⟨y, hy', rfl, hoy, hB⟩ := hrel
        clear HB0
        by_cases hy : y < x
        · have hyx : (y : Int) < (x : Int) := by omega
          have HH : Hid (Held wr w.heap.size n a n cap (fun k => (g k : Nat))) := HK.out.step hB.out
          have c0 := HH.out.c0
          have c1 := HH.out.c1
          rcases (Bool.eq_false_or_eq_true (apt (ltU g n) n x y)).symm with q1 | q1
          · have HN2 : Hid (∀ q, q < y + 1 → apt (ltU g n) n x q = false) := fun q hq => by
              by_cases e : q = y
              · subst e; exact q1
              · exact hoy.out q (by omega)
            go_wp2_with fail
            refine (apart_is n a cap g x y false _ q1 h10 HG.out HH.out.row hx (by omega)).mono ?_
            rintro e wc ⟨rfl, hbc⟩
            have HBC : Hid (Below W0.heap.size W0 wc) := Below.then hB.out hbc
            clear hbc c0 c1 HH hB
            go_wp2_with fail
            go_roundw
            case rel => exact ⟨y + 1, by omega, by go_num, HN2.out, HBC.out⟩
            case measure => simp [intOf]; omega
          · have HF : Hid (¬ ∀ p q, apt (ltU g n) n p q = false) := fun h => by rw [h] at q1; cases q1
            go_wp2_with fail
            refine (apart_is n a cap g x y true _ q1 h10 HG.out HH.out.row hx (by omega)).mono ?_
            rintro e wc ⟨rfl, hbc⟩
            have HBC : Hid (Below w.heap.size w wc) := Below.then HBW.out (Below.then hB.out hbc)
            clear hbc c0 c1 HH hB
            go_wp2_with fail
            go_ret
            exact ⟨Ans.no HF.out, HBC.out⟩
        · obtain rfl : x = y := by omega
          have HN2 : Hid (∀ p, p < x + 1 → ∀ q, q < p → apt (ltU g n) n p q = false) := fun p hp q hq => by
            by_cases e : p = x
            · subst e; exact hoy.out q hq
            · exact hok.out p (by omega) q hq
          go_wp2_with fail
          go_roundw
          case rel => exact ⟨x + 1, by omega, by go_num, HN2.out, hB.out⟩
          case measure => simp [intOf]; omega
    · obtain rfl : n = x := by omega
      have HF : Hid (∀ p q, apt (ltU g n) n p q = false) := fun p q => by
        cases h : apt (ltU g n) n p q
        · rfl
        · have hA : Apt n (apt (ltU g n) n) := apt_apt
          obtain ⟨k1, k2⟩ := hA.inn p q h
          have k3 := hA.ne h
          by_cases e : q < p
          · rw [hok.out p k1 q e] at h; cases h
          · rw [hA.sym, hok.out q k2 p (by omega)] at h; cases h
      go_wp2_with fail
      go_ret
      exact ⟨Ans.yes HF.out, Below.then HBW.out hB.out⟩
set_option maxHeartbeats 4000000 in
theorem isTurned_any (n : Nat) (a : Option Addr) (ca : Nat) (g : Nat → Nat) (b : Option Addr) (cb : Nat) (h : Nat → Nat) (w : World) (h10 : n ≤ 10) (hg : ∀ j, j < n → g j < 1024) (ht : Tnd g n h) (hr : Row w a n (fun k => (g k : Nat))) (hs : Row w b n (fun k => (h k : Nat))) :
    Calls Try.prog 19 #[.agg #[.int .i64 (n : Nat), .slice a n ca], .agg #[.int .i64 (n : Nat), .slice b n cb]] w fun e w' => Ans e True ∧ Below w.heap.size w w' := by
  obtain ⟨W0, HW0⟩ : ∃ W0, Hid (W0 = (w.alloc (.cells #[.int .i64 (n : Nat), .slice a n ca] 25)).alloc (.cells #[.int .i64 (n : Nat), .slice b n cb] 25)) := ⟨_, rfl⟩
  have HW : Below w.heap.size w ((w.alloc (.cells #[.int .i64 (n : Nat), .slice a n ca] 25)).alloc (.cells #[.int .i64 (n : Nat), .slice b n cb] 25)) := ((Below.refl _ _).alloc (Nat.le_refl _) _).alloc (by simp) _
  have HBW : Hid (Below w.heap.size w W0) := by rw [HW0.out]; exact HW
  have HKA : Hid (Held W0 w.heap.size n a n ca (fun k => (g k : Nat))) := by rw [HW0.out]; exact (Held.box hr).step ((Below.refl _ _).alloc (Nat.le_refl _) _)
  have HKB : Hid (Held W0 (w.heap.size + 1) n b n cb (fun k => (h k : Nat))) := by
    rw [HW0.out]
    have := Held.box (n := (n : Nat)) (cap := cb) (hs.below ((Below.refl w.heap.size w).alloc (Nat.le_refl _) (.cells #[.int .i64 (n : Nat), .slice a n ca] 25)))
    exact (by simpa using this : Held _ _ _ _ _ _ _)
  have KA : Hid (∀ w', Below W0.heap.size W0 w' → Held w' w.heap.size n a n ca (fun k => (g k : Nat))) := fun w' hb => HKA.out.step hb
  have KB : Hid (∀ w', Below W0.heap.size W0 w' → Held w' (w.heap.size + 1) n b n cb (fun k => (h k : Nat))) := fun w' hb => HKB.out.step hb
  have HG : Hid (∀ k, k < n → g k < 1024) := hg
  have HT : Hid (Tnd g n h) := ht
  have HH : Hid (∀ k, k < n → h k < 1024) := fun k hk => Nat.lt_of_lt_of_le (ht.1 k hk) (pw_le n h10)
  have HCK : Hid (Chk (n : Nat) n (fun k => (h k : Nat)) 0) := .inr ⟨n, rfl, h10, .inr ⟨rfl, .inr ⟨fun k hk => ⟨Int.natCast_nonneg _, by have := ht.1 k hk; show ((h k : Nat) : Int) < _; omega⟩, .inr ⟨rfl, ht.2.1⟩⟩⟩⟩
  clear hr HW hg hs ht HKA HKB
  obtain ⟨Z1, HZ1⟩ : ∃ Z1, Hid (Z1 = w.heap.size + 1) := ⟨_, rfl⟩
  rw [← HZ1.out] at KB
  go_enter Try.func19, Try.ntmps19
  go_wp2_with fail
  rw [← HW0.out]
  have HZ2 : Hid (w.heap.size + 1 = Z1) := HZ1.out.symm
  try simp only [World.size_alloc]
  rw [HZ2.out]
  clear HW0 HZ1
  have hA := KA.out _ (Below.refl _ _)
  have hB := KB.out _ (Below.refl _ _)
  have c0 := hA.c0
  have c1 := hA.c1
  have d0 := hB.c0
  have d1 := hB.c1
  have HRB : Hid (Row W0 b n (fun k => (h k : Nat))) := hB.row
  clear hA hB
  go_wp2_with fail
  refine (checkOrder_any (n : Nat) b n cb _ _ (by unfold maxLen; omega) HRB.out).mono ?_
  rintro e W1 ⟨⟨c, rfl, hc⟩, hb1⟩
  obtain rfl := hc.unique HCK.out
  have HB1 : Hid (Below W0.heap.size W0 W1) := hb1
  clear hc hb1 c0 c1 d0 d1 HRB
  have hA := KA.out _ HB1.out
  have hB := KB.out _ HB1.out
  have c0 := hA.c0
  have c1 := hA.c1
  have d0 := hB.c0
  have d1 := hB.c1
  clear hA hB
  have hnn : ((n : Int) != (n : Int)) = false := by simp
  go_wp2_with fail
  clear c0 c1 d0 d1
  go_loopw [5] (fun x wx => ∃ k : Nat, k ≤ n ∧ x = .int .i64 k ∧ Hid (Below W0.heap.size W0 wx)) (fun x _ => n - (intOf x).toNat)
  case atStart => exact ⟨0, Nat.zero_le _, rfl, HB1.out⟩
  case round =>
    obtain ⟨x, hx', rfl, hBx⟩ := hrel
    have c0 := (KA.out _ hBx.out).c0
    by_cases hx : x < n
    · have hxx : (x : Int) < (n : Int) := by omega
      go_wp2_with fail
      clear c0
      have HB0 := hBx
      clear hBx
      go_loopw [6] (fun t wx => ∃ y : Nat, y ≤ x ∧ t = .int .i64 y ∧ Hid (Below W0.heap.size W0 wx)) (fun t _ => x - (intOf t).toNat)
      case atStart => exact ⟨0, Nat.zero_le _, rfl, HB0.out⟩
      case round =>
        obtain ⟨y, hy', rfl, HBR⟩ := hrel
        clear HB0
        by_cases hy : y < x
        · have hyx : (y : Int) < (x : Int) := by omega
          have hyn : y < n := by omega
          have KA2 : Hid (∀ w', Below wr.heap.size wr w' → Held w' w.heap.size n a n ca (fun k => (g k : Nat))) := fun w' hb => KA.out _ (Below.then HBR.out hb)
          have KB2 : Hid (∀ w', Below wr.heap.size wr w' → Held w' Z1 n b n cb (fun k => (h k : Nat))) := fun w' hb => KB.out _ (Below.then HBR.out hb)
          have c0 : ∀ w', Below wr.heap.size wr w' → w'.cell? ⟨w.heap.size, 0, none⟩ = some (.int .i64 (n : Nat)) := fun w' hb => (KA2.out _ hb).c0
          have c1 : ∀ w', Below wr.heap.size wr w' → w'.cell? ⟨w.heap.size, 1, none⟩ = some (.slice a n ca) := fun w' hb => (KA2.out _ hb).c1
          have d0 : ∀ w', Below wr.heap.size wr w' → w'.cell? ⟨Z1, 0, none⟩ = some (.int .i64 (n : Nat)) := fun w' hb => (KB2.out _ hb).c0
          have d1 : ∀ w', Below wr.heap.size wr w' → w'.cell? ⟨Z1, 1, none⟩ = some (.slice b n cb) := fun w' hb => (KB2.out _ hb).c1
          have HQ := HT.out.2.2 x y hx hyn (by omega)
          have KAo := KA
          have KBo := KB
          clear KA KB
          have KA := KA2
          have KB := KB2
          clear KA2 KB2
          rcases (Bool.eq_false_or_eq_true (apt (ltU g n) n x y)).symm with q1 | q1
          · have q2 : apt (ltU h n) n x y = true := by
              cases e : apt (ltU h n) n x y
              · rw [HQ.2 e] at q1; cases q1
              · rfl
            clear HQ
            go_wp2_with fail
            refine wp_region_held_drew (S := (fun w' => Below wr.heap.size wr w')) (by kernel_rfl) ((Below.refl _ _).drew) (fun hHeld => ?_)
            refine wpAnyH_take (i := 0) (oi := { dst := some 28, op := Go.Op.load 25 (Go.Operand.tmp 2), type := 25, pos := "lattice.go:65", after := #[], guard := none }) (v := ?_) rfl (by kernel_rfl) (by kernel_rfl) (by kernel_rfl) (fun _ _ _ h => h) (Or.inl ⟨by rfl, ?hy⟩) (by assumption) ?_
            case hy => (intro w9 hSw; (try dsimp only at hSw); go_simp; try with_reducible rfl)
            try simp only [Act.put, List.setIfInBounds_toArray, List.set_cons_zero, List.set_cons_succ]
            refine wpAnyH_take (i := 1) (oi := { dst := some 29, op := Go.Op.move (Go.Operand.tmp 5), type := 3, pos := "lattice.go:65", after := #[], guard := none }) (v := ?_) rfl (by kernel_rfl) (by kernel_rfl) (by kernel_rfl) (fun _ _ _ h => h) (Or.inl ⟨by rfl, ?hy⟩) (by assumption) ?_
            case hy => (intro w9 hSw; (try dsimp only at hSw); go_simp; try with_reducible rfl)
            try simp only [Act.put, List.setIfInBounds_toArray, List.set_cons_zero, List.set_cons_succ]
            refine wpAnyH_take (i := 2) (oi := { dst := some 30, op := Go.Op.move (Go.Operand.tmp 6), type := 3, pos := "lattice.go:65", after := #[], guard := none }) (v := ?_) rfl (by kernel_rfl) (by kernel_rfl) (by kernel_rfl) (fun _ _ _ h => h) (Or.inl ⟨by rfl, ?hy⟩) (by assumption) ?_
            case hy => (intro w9 hSw; (try dsimp only at hSw); go_simp; try with_reducible rfl)
            try simp only [Act.put, List.setIfInBounds_toArray, List.set_cons_zero, List.set_cons_succ]
            refine wpAnyH_take (i := 4) (oi := { dst := some 32, op := Go.Op.load 25 (Go.Operand.tmp 3), type := 25, pos := "lattice.go:65", after := #[], guard := none }) (v := ?_) rfl (by kernel_rfl) (by kernel_rfl) (by kernel_rfl) (fun _ _ _ h => h) (Or.inl ⟨by rfl, ?hy⟩) (by assumption) ?_
            case hy => (intro w9 hSw; (try dsimp only at hSw); go_simp; try with_reducible rfl)
            try simp only [Act.put, List.setIfInBounds_toArray, List.set_cons_zero, List.set_cons_succ]
            refine wpAnyH_take (i := 5) (oi := { dst := some 33, op := Go.Op.move (Go.Operand.tmp 5), type := 3, pos := "lattice.go:65", after := #[], guard := none }) (v := ?_) rfl (by kernel_rfl) (by kernel_rfl) (by kernel_rfl) (fun _ _ _ h => h) (Or.inl ⟨by rfl, ?hy⟩) (by assumption) ?_
            case hy => (intro w9 hSw; (try dsimp only at hSw); go_simp; try with_reducible rfl)
            try simp only [Act.put, List.setIfInBounds_toArray, List.set_cons_zero, List.set_cons_succ]
            refine wpAnyH_take (i := 6) (oi := { dst := some 34, op := Go.Op.move (Go.Operand.tmp 6), type := 3, pos := "lattice.go:65", after := #[], guard := none }) (v := ?_) rfl (by kernel_rfl) (by kernel_rfl) (by kernel_rfl) (fun _ _ _ h => h) (Or.inl ⟨by rfl, ?hy⟩) (by assumption) ?_
            case hy => (intro w9 hSw; (try dsimp only at hSw); go_simp; try with_reducible rfl)
            try simp only [Act.put, List.setIfInBounds_toArray, List.set_cons_zero, List.set_cons_succ]
            refine wpAnyH_ready (rs := [3]) (by kernel_rfl) (by simp) ?_
            refine AllReadyH.cons (o := { dst := some 31, op := Go.Op.call { callee := Go.Callee.value (Go.Operand.func 37), args := #[Go.Operand.tmp 28, Go.Operand.tmp 29, Go.Operand.tmp 30], argTypes := #[25, 3, 3] }, type := 4, pos := "lattice.go:65", after := #[{ on := 0, ground := Go.Ground.data }, { on := 1, ground := Go.Ground.data }, { on := 2, ground := Go.Ground.data }], guard := none }) rfl (fun K hK => ?_) AllReadyH.nil
            go_simp
            refine (apart_is n a ca g x y false _ q1 h10 HG.out (KA.out _ hHeld).row hx hyn).mono ?_
            rintro e w9 ⟨rfl, h9⟩
            refine hK.out _ _ ?_ (fun hHeld => ?_)
            · exact Below.then hHeld h9
            clear hK K
            try simp only [Act.put, List.setIfInBounds_toArray, List.set_cons_zero, List.set_cons_succ]
            refine wpAnyH_ready (rs := [7]) (by kernel_rfl) (by simp) ?_
            refine AllReadyH.cons (o := { dst := some 35, op := Go.Op.call { callee := Go.Callee.value (Go.Operand.func 37), args := #[Go.Operand.tmp 32, Go.Operand.tmp 33, Go.Operand.tmp 34], argTypes := #[25, 3, 3] }, type := 4, pos := "lattice.go:65", after := #[{ on := 4, ground := Go.Ground.data }, { on := 5, ground := Go.Ground.data }, { on := 6, ground := Go.Ground.data }, { on := 3, ground := Go.Ground.chain }], guard := none }) rfl (fun K hK => ?_) AllReadyH.nil
            go_simp
            refine (apart_is n b cb h x y true _ q2 h10 HH.out (KB.out _ hHeld).row hx hyn).mono ?_
            rintro e w9 ⟨rfl, h9⟩
            refine hK.out _ _ ?_ (fun hHeld => ?_)
            · exact Below.then hHeld h9
            clear hK K
            try simp only [Act.put, List.setIfInBounds_toArray, List.set_cons_zero, List.set_cons_succ]
            refine wpAnyH_take (i := 8) (oi := { dst := some 36, op := Go.Op.binOp Go.BinOp.eql 4 (Go.Operand.tmp 31) (Go.Operand.tmp 35) 4, type := 4, pos := "lattice.go:65", after := #[{ on := 3, ground := Go.Ground.data }, { on := 7, ground := Go.Ground.data }], guard := none }) (v := ?_) rfl (by kernel_rfl) (by kernel_rfl) (by kernel_rfl) (fun _ _ _ h => h) (Or.inl ⟨by rfl, ?hy⟩) (by assumption) ?_
            case hy => (intro w9 hSw; (try dsimp only at hSw); go_simp; try with_reducible rfl)
            try simp only [Act.put, List.setIfInBounds_toArray, List.set_cons_zero, List.set_cons_succ]
            refine wpAnyH_done (by kernel_rfl) ?_ _
            try simp only [Act.put, List.setIfInBounds_toArray, List.set_cons_zero, List.set_cons_succ]
            have HBE : Hid (Below wr.heap.size wr _) := hHeld
            clear hHeld
            go_wp2_with fail
            go_roundw
            case rel => exact ⟨y + 1, by omega, by go_num, Below.then HBR.out HBE.out⟩
            case measure => simp [intOf]; omega
          · have q2 : apt (ltU h n) n x y = false := HQ.1 q1
            clear HQ
            go_wp2_with fail
            refine wp_region_held_drew (S := (fun w' => Below wr.heap.size wr w')) (by kernel_rfl) ((Below.refl _ _).drew) (fun hHeld => ?_)
            refine wpAnyH_take (i := 0) (oi := { dst := some 28, op := Go.Op.load 25 (Go.Operand.tmp 2), type := 25, pos := "lattice.go:65", after := #[], guard := none }) (v := ?_) rfl (by kernel_rfl) (by kernel_rfl) (by kernel_rfl) (fun _ _ _ h => h) (Or.inl ⟨by rfl, ?hy⟩) (by assumption) ?_
            case hy => (intro w9 hSw; (try dsimp only at hSw); go_simp; try with_reducible rfl)
            try simp only [Act.put, List.setIfInBounds_toArray, List.set_cons_zero, List.set_cons_succ]
            refine wpAnyH_take (i := 1) (oi := { dst := some 29, op := Go.Op.move (Go.Operand.tmp 5), type := 3, pos := "lattice.go:65", after := #[], guard := none }) (v := ?_) rfl (by kernel_rfl) (by kernel_rfl) (by kernel_rfl) (fun _ _ _ h => h) (Or.inl ⟨by rfl, ?hy⟩) (by assumption) ?_
            case hy => (intro w9 hSw; (try dsimp only at hSw); go_simp; try with_reducible rfl)
            try simp only [Act.put, List.setIfInBounds_toArray, List.set_cons_zero, List.set_cons_succ]
            refine wpAnyH_take (i := 2) (oi := { dst := some 30, op := Go.Op.move (Go.Operand.tmp 6), type := 3, pos := "lattice.go:65", after := #[], guard := none }) (v := ?_) rfl (by kernel_rfl) (by kernel_rfl) (by kernel_rfl) (fun _ _ _ h => h) (Or.inl ⟨by rfl, ?hy⟩) (by assumption) ?_
            case hy => (intro w9 hSw; (try dsimp only at hSw); go_simp; try with_reducible rfl)
            try simp only [Act.put, List.setIfInBounds_toArray, List.set_cons_zero, List.set_cons_succ]
            refine wpAnyH_take (i := 4) (oi := { dst := some 32, op := Go.Op.load 25 (Go.Operand.tmp 3), type := 25, pos := "lattice.go:65", after := #[], guard := none }) (v := ?_) rfl (by kernel_rfl) (by kernel_rfl) (by kernel_rfl) (fun _ _ _ h => h) (Or.inl ⟨by rfl, ?hy⟩) (by assumption) ?_
            case hy => (intro w9 hSw; (try dsimp only at hSw); go_simp; try with_reducible rfl)
            try simp only [Act.put, List.setIfInBounds_toArray, List.set_cons_zero, List.set_cons_succ]
            refine wpAnyH_take (i := 5) (oi := { dst := some 33, op := Go.Op.move (Go.Operand.tmp 5), type := 3, pos := "lattice.go:65", after := #[], guard := none }) (v := ?_) rfl (by kernel_rfl) (by kernel_rfl) (by kernel_rfl) (fun _ _ _ h => h) (Or.inl ⟨by rfl, ?hy⟩) (by assumption) ?_
            case hy => (intro w9 hSw; (try dsimp only at hSw); go_simp; try with_reducible rfl)
            try simp only [Act.put, List.setIfInBounds_toArray, List.set_cons_zero, List.set_cons_succ]
            refine wpAnyH_take (i := 6) (oi := { dst := some 34, op := Go.Op.move (Go.Operand.tmp 6), type := 3, pos := "lattice.go:65", after := #[], guard := none }) (v := ?_) rfl (by kernel_rfl) (by kernel_rfl) (by kernel_rfl) (fun _ _ _ h => h) (Or.inl ⟨by rfl, ?hy⟩) (by assumption) ?_
            case hy => (intro w9 hSw; (try dsimp only at hSw); go_simp; try with_reducible rfl)
            try simp only [Act.put, List.setIfInBounds_toArray, List.set_cons_zero, List.set_cons_succ]
            refine wpAnyH_ready (rs := [3]) (by kernel_rfl) (by simp) ?_
            refine AllReadyH.cons (o := { dst := some 31, op := Go.Op.call { callee := Go.Callee.value (Go.Operand.func 37), args := #[Go.Operand.tmp 28, Go.Operand.tmp 29, Go.Operand.tmp 30], argTypes := #[25, 3, 3] }, type := 4, pos := "lattice.go:65", after := #[{ on := 0, ground := Go.Ground.data }, { on := 1, ground := Go.Ground.data }, { on := 2, ground := Go.Ground.data }], guard := none }) rfl (fun K hK => ?_) AllReadyH.nil
            go_simp
            refine (apart_is n a ca g x y true _ q1 h10 HG.out (KA.out _ hHeld).row hx hyn).mono ?_
            rintro e w9 ⟨rfl, h9⟩
            refine hK.out _ _ ?_ (fun hHeld => ?_)
            · exact Below.then hHeld h9
            clear hK K
            try simp only [Act.put, List.setIfInBounds_toArray, List.set_cons_zero, List.set_cons_succ]
            refine wpAnyH_ready (rs := [7]) (by kernel_rfl) (by simp) ?_
            refine AllReadyH.cons (o := { dst := some 35, op := Go.Op.call { callee := Go.Callee.value (Go.Operand.func 37), args := #[Go.Operand.tmp 32, Go.Operand.tmp 33, Go.Operand.tmp 34], argTypes := #[25, 3, 3] }, type := 4, pos := "lattice.go:65", after := #[{ on := 4, ground := Go.Ground.data }, { on := 5, ground := Go.Ground.data }, { on := 6, ground := Go.Ground.data }, { on := 3, ground := Go.Ground.chain }], guard := none }) rfl (fun K hK => ?_) AllReadyH.nil
            go_simp
            refine (apart_is n b cb h x y false _ q2 h10 HH.out (KB.out _ hHeld).row hx hyn).mono ?_
            rintro e w9 ⟨rfl, h9⟩
            refine hK.out _ _ ?_ (fun hHeld => ?_)
            · exact Below.then hHeld h9
            clear hK K
            try simp only [Act.put, List.setIfInBounds_toArray, List.set_cons_zero, List.set_cons_succ]
            refine wpAnyH_take (i := 8) (oi := { dst := some 36, op := Go.Op.binOp Go.BinOp.eql 4 (Go.Operand.tmp 31) (Go.Operand.tmp 35) 4, type := 4, pos := "lattice.go:65", after := #[{ on := 3, ground := Go.Ground.data }, { on := 7, ground := Go.Ground.data }], guard := none }) (v := ?_) rfl (by kernel_rfl) (by kernel_rfl) (by kernel_rfl) (fun _ _ _ h => h) (Or.inl ⟨by rfl, ?hy⟩) (by assumption) ?_
            case hy => (intro w9 hSw; (try dsimp only at hSw); go_simp; try with_reducible rfl)
            try simp only [Act.put, List.setIfInBounds_toArray, List.set_cons_zero, List.set_cons_succ]
            refine wpAnyH_done (by kernel_rfl) ?_ _
            try simp only [Act.put, List.setIfInBounds_toArray, List.set_cons_zero, List.set_cons_succ]
            have HBE : Hid (Below wr.heap.size wr _) := hHeld
            clear hHeld
            go_wp2_with fail
            go_roundw
            case rel => exact ⟨y + 1, by omega, by go_num, Below.then HBR.out HBE.out⟩
            case measure => simp [intOf]; omega
        · obtain rfl : x = y := by omega
          go_wp2_with fail
          go_roundw
          case rel => exact ⟨x + 1, by omega, by go_num, HBR.out⟩
          case measure => simp [intOf]; omega
    · obtain rfl : n = x := by omega
      go_wp2_with fail
      go_ret
      exact ⟨Ans.yes trivial, Below.then HBW.out hBx.out⟩
end Go.Proofs.Ytklfnghgpmjnmaa
