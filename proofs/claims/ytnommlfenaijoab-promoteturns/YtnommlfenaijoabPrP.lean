/-
  What the walker's swap, goUp and goDown do. Conditions: as each theorem says.
-/
import Derived.Deep.RegionHeld3
import Derived.WalkMore
import Derived.BigQuiet
import Derived.Test.YtnommlfenaijoabPrM
namespace Go.Proofs.Ytnommlfenaijoab
set_option maxRecDepth 100000
open Go.RowKit

theorem has_lit (s p : Nat) (w : World) (v : Bool) (hs : s < 9223372036854775808) (hp : p < 63) (h : s.testBit p = v) :
    Calls Try.prog 22 #[.int .i64 s, .int .i64 p] w fun e w' => e = .returned (.bool v) ∧ w = w' :=
  (has_any s p w hs hp).mono fun _ _ ⟨h1, h2⟩ => ⟨by rw [← h]; exact h1, h2⟩
theorem bel_one (w : World) (c : Obj) : Below w.heap.size w (w.alloc c) := (Below.refl _ _).alloc (Nat.le_refl _) _
/-- The two places of a row are changed for one another. -/
theorem Own.swap {w : World} {b n : Nat} {r : Nat → Nat} (h : Own w b n r) {k : Nat} (hk : k + 1 < n) :
    Own ((w.setCell ⟨b, k, none⟩ (.int .i64 (r (k + 1) : Nat))).setCell ⟨b, k + 1, none⟩ (.int .i64 (r k : Nat))) b n (fun i => if i = k then r (k + 1) else if i = k + 1 then r k else r i) := by
  refine ((h.set k (r (k + 1)) (by omega)).set (k + 1) (r k) hk).congr fun i hi => ?_
  by_cases e1 : i = k
  · subst e1; rw [upd_other _ _ _ _ (by omega), upd_same, if_pos rfl]
  · by_cases e2 : i = k + 1
    · subst e2; rw [upd_same, if_neg e1, if_pos rfl]
    · rw [upd_other _ _ _ _ e2, upd_other _ _ _ _ e1, if_neg e1, if_neg e2]

theorem grown_setC (w : World) (b k : Nat) (u : Value) : w.grownBy (w.setCell ⟨b, k, none⟩ u) (some b) :=
  ⟨rfl, rfl, rfl, by simp [World.setCell], fun i _ hne => Below.heap_setCell w ⟨b, k, none⟩ u i (fun e => hne (by rw [e]))⟩
theorem kp_of {w w' : World} {B : Nat} (hb : Below w.heap.size w w') : w.grownBy w' (some B) := ⟨hb.os, hb.tape, hb.output, hb.size, fun k hk _ => hb.block k hk⟩
theorem Row.kp {w w' : World} {a : Option Addr} {len : Nat} {f : Nat → Int} {B : Nat} (h : Row w a len f) (hg : w.grownBy w' (some B)) (hne : ∀ b off, a = some ⟨b, off, none⟩ → b ≠ B) : Row w' a len f := fun k hk => by
  obtain ⟨b, off, e, hc⟩ := h k hk
  exact ⟨b, off, e, hg.cell hc (fun q => hne b off e (by injection q))⟩
set_option maxHeartbeats 2000000 in
theorem swap_any (n : Nat) (ao : Option Addr) (co : Nat) (g : Nat → Nat) (B cap : Nat) (r : Nat → Nat) (k : Nat) (w : World) (h10 : n ≤ 10) (hg : ∀ k, k < n → g k < 1024) (ho : Row w ao n (fun k => (g k : Nat))) (hO : Own w B n r) (hr : ∀ j, j < n → r j < n) (hk : k + 1 < n) :
    Calls Try.prog 17 #[.agg #[.int .i64 n, .slice ao n co, .slice (some ⟨B, 0, none⟩) n cap], .int .i64 (k : Nat)] w fun e w' => e = .returned (.tuple #[]) ∧ Own w' B n (sw g k r) ∧ w.grownBy w' (some B) := by
  have HBX : Hid (Below w.heap.size w (w.alloc (.cells #[.int .i64 n, .slice ao n co, .slice (some ⟨B, 0, none⟩) n cap] 35))) := bel_one w _
  have c1 : (w.alloc (.cells #[.int .i64 n, .slice ao n co, .slice (some ⟨B, 0, none⟩) n cap] 35)).cell? ⟨w.heap.size, 1, none⟩ = some (.slice ao n co) := by simp
  have c2 : (w.alloc (.cells #[.int .i64 n, .slice ao n co, .slice (some ⟨B, 0, none⟩) n cap] 35)).cell? ⟨w.heap.size, 2, none⟩ = some (.slice (some ⟨B, 0, none⟩) n cap) := by simp
  have HO : Hid (Own (w.alloc (.cells #[.int .i64 n, .slice ao n co, .slice (some ⟨B, 0, none⟩) n cap] 35)) B n r) := hO.keep HBX.out (hO.lt hk)
  have hBW : B < w.heap.size := hO.lt hk
  have HB : Hid (w.grownBy (w.alloc (.cells #[.int .i64 n, .slice ao n co, .slice (some ⟨B, 0, none⟩) n cap] 35)) (some B)) := World.grownBy_alloc _ _ _
  obtain ⟨ka, kf⟩ := HO.out k (by omega)
  obtain ⟨kb, kg⟩ := HO.out (k + 1) hk
  have hrk := hr k (by omega)
  have hrk1 := hr (k + 1) hk
  have hgk := hg _ hrk1
  obtain ⟨bo, oo, rfl, hco⟩ := ho.below HBX.out (r (k + 1)) hrk1
  have HE : Hid ((g (r (k + 1))).testBit (r k) = true → sw g k r = r) := sw_no
  have HF : Hid ((g (r (k + 1))).testBit (r k) = false → sw g k r = fun i => if i = k then r (k + 1) else if i = k + 1 then r k else r i) := sw_yes
  clear ho hg hr hO HBX
  have hk1 : ((k : Nat) : Int) < (n : Int) := by omega
  have hk2 : ((k : Nat) : Int) + 1 < (n : Int) := by omega
  have hrn : ((r (k + 1) : Nat) : Int) < (n : Int) := by omega
  go_enter Try.func17, Try.ntmps17
  generalize hC : Code.region 1 _ true = C
  go_wp2_with fail
  generalize hW : w.alloc (.cells #[.int .i64 n, .slice (some ⟨bo, oo, none⟩) n co, .slice (some ⟨B, 0, none⟩) n cap] 35) = W at *
  generalize hBX : w.heap.size = BX at *
  generalize hx1 : r (k + 1) = x1 at *
  generalize hx0 : r k = x0 at *
  generalize hgx : g x1 = gx at *
  rw [← hC]
  clear hC C
  go_big_quiet (fail)
  go_wp2_with fail
  rcases (Bool.eq_false_or_eq_true (gx.testBit x0)).symm with hb | hb
  · refine (has_lit gx x0 _ false (by omega) (by omega) hb).mono ?_
    rintro e w' ⟨rfl, hw⟩
    subst hw
    have HS := (show Hid (sw g k r = _) from HF.out hb)
    clear HE HF hb
    have hne : B ≠ BX := by omega
    generalize hW2 : W.drewN nq = W2 at *
    have q1 : W2.cell? ⟨BX, 2, none⟩ = some (.slice (some ⟨B, 0, none⟩) n cap) := by rw [← hW2]; simpa using c2
    have q2 : W2.frozen? ⟨B, k, none⟩ = false := by rw [← hW2]; simpa using kf
    have q3 : W2.frozen? ⟨B, k + 1, none⟩ = false := by rw [← hW2]; simpa using kg
    have q4 : W2.cell? ⟨B, k, none⟩ = some (.int .i64 (x0 : Nat)) := by rw [← hW2]; simpa using ka
    have q5 : W2.cell? ⟨B, k + 1, none⟩ = some (.int .i64 (x1 : Nat)) := by rw [← hW2]; simpa using kb
    go_wp2_with fail
    go_region
    have HOd : Hid (Own W2 B n r) := by rw [← hW2]; exact HO.out.keep (below_drewN (Below.refl _ _) _) (HO.out.lt hk)
    have HBd : Hid (w.grownBy W2 (some B)) := by rw [← hW2]; exact HB.out.trans (kp_of (below_drewN (Below.refl _ _) _))
    go_end0
    refine ⟨rfl, ?_, ?_⟩
    · rw [HS.out]
      have := HOd.out.swap hk
      rw [hx1, hx0] at this
      exact this
    · exact ((HBd.out.trans (grown_setC _ _ _ _)).trans (grown_setC _ _ _ _)).trans (kp_of ((Below.refl _ _).drew))
  · refine (has_lit gx x0 _ true (by omega) (by omega) hb).mono ?_
    rintro e w' ⟨rfl, hw⟩
    subst hw
    have HS := (show Hid (sw g k r = r) from HE.out hb)
    have HOd : Hid (Own (W.drewN nq) B n r) := HO.out.keep (below_drewN (Below.refl _ _) _) (HO.out.lt hk)
    clear HE HF hb
    go_wp2_with fail
    go_end0
    exact ⟨rfl, by rw [HS.out]; exact HOd.out, HB.out.trans (kp_of (below_drewN (Below.refl _ _) _))⟩

set_option maxHeartbeats 2000000 in
theorem goUp_any (n : Nat) (ao : Option Addr) (co : Nat) (g : Nat → Nat) (B cap : Nat) (r : Nat → Nat) (m : Nat) (s : Int) (w : World) (h10 : n ≤ 10) (hg : ∀ k, k < n → g k < 1024) (ho : Row w ao n (fun k => (g k : Nat))) (hne : ∀ b off, ao = some ⟨b, off, none⟩ → b ≠ B) (hO : Own w B n r) (hR : Rw g n r) (hBw : B < w.heap.size) (hm : m = 0 ∨ m < n) (hs : s = m ∨ (s < 0 ∧ m = 0)) :
    Calls Try.prog 12 #[.agg #[.int .i64 n, .slice ao n co, .slice (some ⟨B, 0, none⟩) n cap], .int .i64 s] w fun e w' => e = .returned (.tuple #[]) ∧ Own w' B n (up g m r) ∧ w.grownBy w' (some B) := by
  have c0 : (w.alloc (.cells #[.int .i64 n, .slice ao n co, .slice (some ⟨B, 0, none⟩) n cap] 35)).cell? ⟨w.heap.size, 0, none⟩ = some (.int .i64 n) := by simp
  have c1 : (w.alloc (.cells #[.int .i64 n, .slice ao n co, .slice (some ⟨B, 0, none⟩) n cap] 35)).cell? ⟨w.heap.size, 1, none⟩ = some (.slice ao n co) := by simp
  have c2 : (w.alloc (.cells #[.int .i64 n, .slice ao n co, .slice (some ⟨B, 0, none⟩) n cap] 35)).cell? ⟨w.heap.size, 2, none⟩ = some (.slice (some ⟨B, 0, none⟩) n cap) := by simp
  have HB : Hid (w.grownBy (w.alloc (.cells #[.int .i64 n, .slice ao n co, .slice (some ⟨B, 0, none⟩) n cap] 35)) (some B)) := World.grownBy_alloc _ _ _
  have HO : Hid (Own (w.alloc (.cells #[.int .i64 n, .slice ao n co, .slice (some ⟨B, 0, none⟩) n cap] 35)) B n r) := fun k hk => hO.keep (bel_one w _) (hO.lt hk) k hk
  have HRo : Hid (Row w ao n (fun k => (g k : Nat))) := ho
  have HNE : Hid (∀ b off, ao = some ⟨b, off, none⟩ → b ≠ B) := hne
  have HG : Hid (∀ k, k < n → g k < 1024) := hg
  have HRW : Hid (Rw g n r) := hR
  clear ho hne hg hR hO
  have hx : B ≠ w.heap.size := by omega
  go_enter Try.func12, Try.ntmps12
  generalize hC : Code.region 1 _ false = C
  go_wp2_with fail
  generalize hW : w.alloc (.cells #[.int .i64 n, .slice ao n co, .slice (some ⟨B, 0, none⟩) n cap] 35) = W at *
  generalize hBX : w.heap.size = BX at *
  rw [← hC]
  clear hC C hW
  have HQ : Hid (∀ wx : World, W.grownBy wx (some B) → wx.cell? ⟨BX, 0, none⟩ = some (.int .i64 n) ∧ wx.cell? ⟨BX, 1, none⟩ = some (.slice ao n co) ∧ wx.cell? ⟨BX, 2, none⟩ = some (.slice (some ⟨B, 0, none⟩) n cap)) := fun wx h =>
    ⟨h.cell c0 (fun e => hx (by injection e with e; exact e.symm)), h.cell c1 (fun e => hx (by injection e with e; exact e.symm)), h.cell c2 (fun e => hx (by injection e with e; exact e.symm))⟩
  clear c0 c1 c2
  go_wp2_with fail
  go_loopw [6] (fun t wx => ∃ k : Nat, k ≤ m ∧ t = .int .i64 k ∧ Hid (Own wx B n (up g k r)) ∧ Hid (W.grownBy wx (some B))) (fun t _ => m - (intOf t).toNat)
  case atStart => exact ⟨0, Nat.zero_le _, rfl, HO.out, World.grownBy.refl _ _⟩
  case round =>
    clear HO
    obtain ⟨k, hk, rfl, hOk, hGk⟩ := hrel
    by_cases hlt : k < m
    · obtain ⟨d0, d1, d2⟩ := HQ.out _ hGk.out
      have hd : decide ((k : Int) < s) = true := by simp; omega
      have hs2 : (k : Int) < s := by omega
      have HRk : Hid (Row wr ao n (fun k => (g k : Nat))) := HRo.out.kp (HB.out.trans hGk.out) HNE.out
      go_wp2_with fail
      refine (swap_any n ao co g B cap (up g k r) k wr h10 HG.out HRk.out hOk.out (HRW.out.up k (by omega)).1 (by omega)).mono ?_
      rintro e w1 ⟨rfl, hO1, hG1⟩
      have HO1 : Hid (Own w1 B n (up g (k + 1) r)) := hO1
      have HG1 : Hid (W.grownBy w1 (some B)) := hGk.out.trans hG1
      clear hO1 hG1 hOk hGk d0 d1 d2
      go_wp2_with fail
      go_roundw
      case rel => exact ⟨k + 1, by omega, by go_num, HO1.out, HG1.out⟩
      case measure => simp [intOf]; omega
    · obtain rfl : k = m := by omega
      have hd : decide ((k : Int) < s) = false := by simp; omega
      have hs2 : ¬ (k : Int) < s := by omega
      go_wp2_with fail
      go_end0
      exact ⟨rfl, hOk.out, HB.out.trans hGk.out⟩

set_option maxHeartbeats 2000000 in
theorem goDown_any (n : Nat) (ao : Option Addr) (co : Nat) (g : Nat → Nat) (B cap : Nat) (r : Nat → Nat) (m : Nat) (s : Int) (w : World) (h10 : n ≤ 10) (hg : ∀ k, k < n → g k < 1024) (ho : Row w ao n (fun k => (g k : Nat))) (hne : ∀ b off, ao = some ⟨b, off, none⟩ → b ≠ B) (hO : Own w B n r) (hR : Rw g n r) (hBw : B < w.heap.size) (hm : m = 0 ∨ m < n) (hs : s = m ∨ (s = -1 ∧ m = 0)) :
    Calls Try.prog 13 #[.agg #[.int .i64 n, .slice ao n co, .slice (some ⟨B, 0, none⟩) n cap], .int .i64 s] w fun e w' => e = .returned (.tuple #[]) ∧ Own w' B n (dn g m r) ∧ w.grownBy w' (some B) := by
  have c0 : (w.alloc (.cells #[.int .i64 n, .slice ao n co, .slice (some ⟨B, 0, none⟩) n cap] 35)).cell? ⟨w.heap.size, 0, none⟩ = some (.int .i64 n) := by simp
  have c1 : (w.alloc (.cells #[.int .i64 n, .slice ao n co, .slice (some ⟨B, 0, none⟩) n cap] 35)).cell? ⟨w.heap.size, 1, none⟩ = some (.slice ao n co) := by simp
  have c2 : (w.alloc (.cells #[.int .i64 n, .slice ao n co, .slice (some ⟨B, 0, none⟩) n cap] 35)).cell? ⟨w.heap.size, 2, none⟩ = some (.slice (some ⟨B, 0, none⟩) n cap) := by simp
  have HB : Hid (w.grownBy (w.alloc (.cells #[.int .i64 n, .slice ao n co, .slice (some ⟨B, 0, none⟩) n cap] 35)) (some B)) := World.grownBy_alloc _ _ _
  have HO : Hid (Own (w.alloc (.cells #[.int .i64 n, .slice ao n co, .slice (some ⟨B, 0, none⟩) n cap] 35)) B n r) := fun k hk => hO.keep (bel_one w _) (hO.lt hk) k hk
  have HRo : Hid (Row w ao n (fun k => (g k : Nat))) := ho
  have HNE : Hid (∀ b off, ao = some ⟨b, off, none⟩ → b ≠ B) := hne
  have HG : Hid (∀ k, k < n → g k < 1024) := hg
  have HRW : Hid (Rw g n r) := hR
  clear ho hne hg hR hO
  have hx : B ≠ w.heap.size := by omega
  go_enter Try.func13, Try.ntmps13
  generalize hC : Code.region 1 _ false = C
  go_wp2_with fail
  generalize hW : w.alloc (.cells #[.int .i64 n, .slice ao n co, .slice (some ⟨B, 0, none⟩) n cap] 35) = W at *
  generalize hBX : w.heap.size = BX at *
  rw [← hC]
  clear hC C hW
  have HQ : Hid (∀ wx : World, W.grownBy wx (some B) → wx.cell? ⟨BX, 0, none⟩ = some (.int .i64 n) ∧ wx.cell? ⟨BX, 1, none⟩ = some (.slice ao n co) ∧ wx.cell? ⟨BX, 2, none⟩ = some (.slice (some ⟨B, 0, none⟩) n cap)) := fun wx h =>
    ⟨h.cell c0 (fun e => hx (by injection e with e; exact e.symm)), h.cell c1 (fun e => hx (by injection e with e; exact e.symm)), h.cell c2 (fun e => hx (by injection e with e; exact e.symm))⟩
  clear c0 c1 c2
  have hsb : -1 ≤ s ∧ s ≤ 10 := by omega
  go_wp2_with fail
  go_loopw [4] (fun t wx => ∃ (z : Int) (j : Nat) (X : Nat → Nat), j ≤ m ∧ (z = (j : Int) - 1 ∨ (z < 0 ∧ j = 0)) ∧ -2 ≤ z ∧ z ≤ 10 ∧ t = .int .i64 z ∧ Hid (Own wx B n X) ∧ Hid (Rw g n X) ∧ Hid (dn g j X = dn g m r) ∧ Hid (W.grownBy wx (some B))) (fun t _ => (intOf t + 2).toNat)
  case atStart => exact ⟨s - 1, m, r, Nat.le_refl _, by omega, by omega, by omega, by first | rfl | go_num, HO.out, HRW.out, rfl, World.grownBy.refl _ _⟩
  case round =>
    clear HO
    obtain ⟨z, j, X, hj, hz, hz1, hz2, rfl, hOk, hRk, hEk, hGk⟩ := hrel
    by_cases hlt : 0 ≤ z
    · obtain ⟨k, rfl⟩ : ∃ k, j = k + 1 := ⟨j - 1, by omega⟩
      obtain rfl : z = (k : Int) := by omega
      obtain ⟨d0, d1, d2⟩ := HQ.out _ hGk.out
      have HRo2 : Hid (Row wr ao n (fun k => (g k : Nat))) := HRo.out.kp (HB.out.trans hGk.out) HNE.out
      go_wp2_with fail
      refine (swap_any n ao co g B cap X k wr h10 HG.out HRo2.out hOk.out hRk.out.1 (by omega)).mono ?_
      rintro e w1 ⟨rfl, hO1, hG1⟩
      have HO1 : Hid (Own w1 B n (sw g k X)) := hO1
      have HG1 : Hid (W.grownBy w1 (some B)) := hGk.out.trans hG1
      have HR1 : Hid (Rw g n (sw g k X)) := hRk.out.sw (by omega)
      have HE1 : Hid (dn g k (sw g k X) = dn g m r) := hEk.out
      clear hO1 hG1 hOk hGk d0 d1 d2 hRk hEk
      go_wp2_with fail
      go_roundw
      case rel => exact ⟨(k : Int) - 1, k, sw g k X, by omega, .inl rfl, by omega, by omega, by first | rfl | go_num, HO1.out, HR1.out, HE1.out, HG1.out⟩
      case measure => simp [intOf]; omega
    · obtain rfl : j = 0 := by omega
      have HE : Hid (X = dn g m r) := hEk.out
      go_wp2_with fail
      go_end0
      exact ⟨rfl, by rw [← HE.out]; exact hOk.out, HB.out.trans hGk.out⟩
end Go.Proofs.Ytnommlfenaijoab
