/-
  CanonAlike's pieces, alone. Conditions: as told.
  CanonAlike, from its start to its return; whoever is picked. Conditions: the slices read as slices of numbers, and lie in cells; the library's tables.
-/
import Derived.Test.YtfbdgdphpdhcpaaDoorAlD
import Derived.Test.YtfbdgdphpdhcpaaDoorCbH
import Derived.Test.YtfbdgdphpdhcpaaDoorFrameC
namespace Go.Proofs.YtfbdgdphpdhcpaaDoor
open Go Go.Conc Go.RowKit Sm
set_option maxRecDepth 100000

abbrev GL : FuncId := 4
def IsL (C : Code) : Prop := C = Tryd.f4.body.getD .skip
abbrev lT (C : Code) : Code := thenT (atc [1, 1, 1, 1, 1, 0] C)
theorem gl_shape {C : Code} (hC : IsL C) : C = .seq (atc [0] C) (.seq (atc [1, 0] C) (.seq (atc [1, 1, 0] C) (.seq (.seq (atc [1, 1, 1, 0, 0] C) (.cond (.tmp 34) (thenT (atc [1, 1, 1, 0] C)) .skip)) (.seq (atc [1, 1, 1, 1, 0] C) (.seq (.seq (atc [1, 1, 1, 1, 1, 0, 0] C) (.cond (.tmp 43) (.seq (atc [0] (lT C)) (.seq (atc [1, 0] (lT C)) (atc [1, 1] (lT C)))) .skip)) (.seq (atc [1, 1, 1, 1, 1, 1, 0] C) .ret)))))) := by
  rw [hC]
  kernel_rfl
abbrev gll : List (List Nat) := [[0], [1, 0], [1, 1, 0], [1, 1, 1, 0, 0], [1, 1, 1, 1, 0], [1, 1, 1, 1, 1, 0, 0]]
theorem gl_item : (gll.all fun l => itemB Tryd.prog afs cgs (.code (atc l (Tryd.f4.body.getD .skip)))) = true := by kernel_rfl
theorem gl_ok {C : Code} (hC : IsL C) {l : List Nat} (h : l ∈ gll) : itemB Tryd.prog afs cgs (.code (atc l C)) = true := by
  rw [hC]
  exact List.all_eq_true.1 gl_item l h
theorem gl4_ok {C : Code} (hC : IsL C) : itemB Tryd.prog afs cgs (.code (thenT (atc [1, 1, 1, 0] C))) = true ∧ itemB Tryd.prog afs cgs (.code (atc [0] (lT C))) = true ∧ itemB Tryd.prog afs cgs (.code (atc [1, 0] (lT C))) = true ∧ itemB Tryd.prog afs cgs (.code (atc [1, 1] (lT C))) = true := by
  rw [hC]
  exact ⟨by kernel_rfl, by kernel_rfl, by kernel_rfl, by kernel_rfl⟩
theorem gl_in : ∃ f, Tryd.prog.funcs[GL]? = some f := ⟨_, Tryd.func4⟩
theorem gl10_shape {C : Code} (hC : IsL C) : atc [1, 1, 1, 1, 1, 1, 0] C = .region 10 (opsOf (atc [1, 1, 1, 1, 1, 1, 0] C)) false := by
  rw [hC]
  kernel_rfl
theorem gl10_ops {C : Code} (hC : IsL C) : (((opsOf (atc [1, 1, 1, 1, 1, 1, 0] C)).map fun o => (o.dst, o.op, o.guard)).toList.take 1) = [(some 57, .call { callee := .value (.func GB), args := #[], argTypes := #[] }, none)] ∧ (opsOf (atc [1, 1, 1, 1, 1, 1, 0] C)).size = 9 ∧ itemB Tryd.prog afs cgs (.inRegion (opsOf (atc [1, 1, 1, 1, 1, 1, 0] C)) (List.range' 1 8)) = true := by
  rw [hC]
  exact ⟨by kernel_rfl, by kernel_rfl, by kernel_rfl⟩
/-- What Alike has answered. -/
def A1r (l1 : Nat) (f1 : Nat → Int) (l2 : Nat) (f2 : Nat → Int) (c : Int) (b : Bool) : Prop :=
  (c ≠ 0 ∧ b = false) ∨ (c = 0 ∧ ∃ x1 x2, bst (nat f1) l1 (per l1 [] (pw l1 - 1)) = some x1 ∧ bst (nat f2) l2 (per l2 [] (pw l2 - 1)) = some x2 ∧ (b = true ↔ SameRows l1 l2 (fun k => (prt (nat f1) x1 k : Nat)) (fun k => (prt (nat f2) x2 k : Nat))))
/-- An order in its box. -/
def Bx (v : World) (B : Nat) (n : Int) (a : Option Addr) (l p : Nat) : Prop := v.cell? ⟨B, 0, none⟩ = some (.int .i64 n) ∧ v.cell? ⟨B, 1, none⟩ = some (.slice a l p)
theorem Bx.hb {v w : World} {B : Nat} {n : Int} {a : Option Addr} {l p : Nat} (h : Bx v B n a l p) (hw : HB v w) : Bx w B n a l p := ⟨hw.cell h.1, hw.cell h.2⟩
theorem l_r0 (tm : Array Value) (v : World) (hs : tm.size = 65) (n1 : Int) (a1 : Option Addr) (l1 p1 : Nat) (n2 : Int) (a2 : Option Addr) (l2 p2 : Nat) (h0 : tm[0]? = some (.agg #[.int .i64 n1, .slice a1 l1 p1])) (h1 : tm[1]? = some (.agg #[.int .i64 n2, .slice a2 l2 p2])) : (atc [0] (Tryd.f4.body.getD .skip)).wp Tryd.prog (fun e s w => e = .normal ∧ s.defers = [] ∧ HB v w ∧ s.tmps.size = 65 ∧ (∃ B, s.tmps[2]? = some (.pointer (some ⟨B, 0, none⟩)) ∧ w.cell? ⟨B, 0, none⟩ = some (.int .i64 n1) ∧ w.cell? ⟨B, 1, none⟩ = some (.slice a1 l1 p1)) ∧ ∃ B, s.tmps[3]? = some (.pointer (some ⟨B, 0, none⟩)) ∧ w.cell? ⟨B, 0, none⟩ = some (.int .i64 n2) ∧ w.cell? ⟨B, 1, none⟩ = some (.slice a2 l2 p2)) ⟨tm, []⟩ v := by
  have HS : Hid (tm.size = 65) := hs
  have s2 : 2 < tm.size := by omega
  have s3 : 3 < tm.size := by omega
  have s4 : 4 < tm.size := by omega
  clear hs
  simp only [Tryd.f4, Option.getD_some, atc]
  have q0 : ∀ o, ((v.alloc (.cells #[.int .i64 n1, .slice a1 l1 p1] 24)).alloc o).cell? ⟨v.heap.size, 0, none⟩ = some (.int .i64 n1) := fun o => cell_al (by simp)
  have q1 : ∀ o, ((v.alloc (.cells #[.int .i64 n1, .slice a1 l1 p1] 24)).alloc o).cell? ⟨v.heap.size, 1, none⟩ = some (.slice a1 l1 p1) := fun o => cell_al (by simp)
  go_wp2_with fail
  exact ⟨(hb_alloc _ _).trans (hb_alloc _ _), HS.out⟩
theorem l_r1 (tm : Array Value) (v : World) (hs : tm.size = 65) (n1 : Int) (a1 : Option Addr) (l1 p1 : Nat) (n2 : Int) (a2 : Option Addr) (l2 p2 : Nat) (f1 f2 : Nat → Int) (B2 B3 : Nat) (hl1 : l1 ≤ maxLen) (hl2 : l2 ≤ maxLen) (hr1 : Row v a1 l1 f1) (hr2 : Row v a2 l2 f2) (h2 : tm[2]? = some (.pointer (some ⟨B2, 0, none⟩))) (h3 : tm[3]? = some (.pointer (some ⟨B3, 0, none⟩))) (b20 : v.cell? ⟨B2, 0, none⟩ = some (.int .i64 n1)) (b21 : v.cell? ⟨B2, 1, none⟩ = some (.slice a1 l1 p1)) (b30 : v.cell? ⟨B3, 0, none⟩ = some (.int .i64 n2)) (b31 : v.cell? ⟨B3, 1, none⟩ = some (.slice a2 l2 p2)) (hT : Tab v) : (atc [1, 0] (Tryd.f4.body.getD .skip)).wp Tryd.prog (fun e s w => e = .normal ∧ s.defers = [] ∧ HB v w ∧ s.tmps.size = 65 ∧ (∃ c b, s.tmps[6]? = some (.int .i64 c) ∧ s.tmps[5]? = some (.bool b) ∧ FC2 n1 l1 f1 n2 l2 f2 c ∧ A1r l1 f1 l2 f2 c b) ∧ ∀ j, j < 5 → s.tmps[j]? = tm[j]?) ⟨tm, []⟩ v := by
  have HS : Hid (tm.size = 65) := hs
  have s5 : 5 < tm.size := by omega
  have s6 : 6 < tm.size := by omega
  have s13 : 13 < tm.size := by omega
  have s14 : 14 < tm.size := by omega
  have s15 : 15 < tm.size := by omega
  have s16 : 16 < tm.size := by omega
  have s17 : 17 < tm.size := by omega
  have s18 : 18 < tm.size := by omega
  clear hs
  simp only [Tryd.f4, Option.getD_some, atc]
  have HM := (show Hid _ from alike_any n1 a1 l1 p1 f1 n2 a2 l2 p2 f2 v hl1 hl2 hr1 hr2 hT)
  clear hr1 hr2 hT
  go_wp2_with fail
  refine Calls.mono HM.out ?_
  rintro e w1 ⟨⟨c, hc, h⟩, hb⟩
  have HC : Hid (FC2 n1 l1 f1 n2 l2 f2 c) := hc
  have HB1 : Hid (Below v.heap.size v w1) := hb
  rcases h with ⟨h0, rfl⟩ | ⟨rfl, x1, x2, b, hx1, hx2, hq, rfl⟩
  · have HR : Hid (A1r l1 f1 l2 f2 c false) := .inl ⟨h0, rfl⟩
    clear hc hb HM h0
    go_wp2_with fail
    refine ⟨below_hb HB1.out, HS.out, ⟨HC.out, HR.out⟩, fun j hj => ?_⟩
    repeat rw [Array.getElem?_setIfInBounds_ne (by omega)]
  · have HR : Hid (A1r l1 f1 l2 f2 0 b) := .inr ⟨rfl, x1, x2, hx1, hx2, hq⟩
    clear hc hb HM hx1 hx2 hq
    go_wp2_with fail
    refine ⟨below_hb HB1.out, HS.out, ⟨HC.out, HR.out⟩, fun j hj => ?_⟩
    repeat rw [Array.getElem?_setIfInBounds_ne (by omega)]
theorem l_r2 (tm : Array Value) (v : World) (hs : tm.size = 65) (n1 : Int) (a1 : Option Addr) (l1 p1 : Nat) (n2 : Int) (a2 : Option Addr) (l2 p2 : Nat) (f1 f2 : Nat → Int) (B2 B3 : Nat) (hl1 : l1 ≤ maxLen) (hl2 : l2 ≤ maxLen) (hr1 : Row v a1 l1 f1) (hr2 : Row v a2 l2 f2) (h2 : tm[2]? = some (.pointer (some ⟨B2, 0, none⟩))) (h3 : tm[3]? = some (.pointer (some ⟨B3, 0, none⟩))) (b20 : v.cell? ⟨B2, 0, none⟩ = some (.int .i64 n1)) (b21 : v.cell? ⟨B2, 1, none⟩ = some (.slice a1 l1 p1)) (b30 : v.cell? ⟨B3, 0, none⟩ = some (.int .i64 n2)) (b31 : v.cell? ⟨B3, 1, none⟩ = some (.slice a2 l2 p2)) : (atc [1, 1, 0] (Tryd.f4.body.getD .skip)).wp Tryd.prog (fun e s w => e = .normal ∧ s.defers = [] ∧ HB v w ∧ s.tmps.size = 65 ∧ (∃ c, s.tmps[7]? = some (.int .i64 c) ∧ CO2 n1 l1 f1 n2 l2 f2 c) ∧ ∀ j, j < 7 → s.tmps[j]? = tm[j]?) ⟨tm, []⟩ v := by
  have HS : Hid (tm.size = 65) := hs
  have s7 : 7 < tm.size := by omega
  have s19 : 19 < tm.size := by omega
  have s20 : 20 < tm.size := by omega
  have s21 : 21 < tm.size := by omega
  have s22 : 22 < tm.size := by omega
  clear hs
  simp only [Tryd.f4, Option.getD_some, atc]
  obtain ⟨W, HWE⟩ : ∃ W, Hid (W = v.alloc (.cells #[.int .i64 n1, .slice a1 l1 p1, .int .i64 n2, .slice a2 l2 p2] 24)) := ⟨_, rfl⟩
  have HB0 : Hid (Below v.heap.size v W) := by rw [HWE.out]; exact (Below.refl _ _).alloc (Nat.le_refl _) _
  have HCK := (show Hid _ from checkOrders_any n1 a1 l1 p1 f1 n2 a2 l2 p2 f2 v.heap.size W hl1 hl2 (hr1.below HB0.out) (hr2.below HB0.out) (by rw [HWE.out]; simp) (by rw [HWE.out]; simp) (by rw [HWE.out]; simp) (by rw [HWE.out]; simp))
  clear hr1 hr2
  go_wp2_with (rw [← HWE.out])
  refine Calls.mono HCK.out ?_
  rintro e w1 ⟨⟨c, rfl, hc⟩, hb⟩
  have HC : Hid (CO2 n1 l1 f1 n2 l2 f2 c) := hc
  have HB1 : Hid (Below v.heap.size v w1) := Below.then HB0.out hb
  clear hc hb HCK
  go_wp2_with fail
  refine ⟨below_hb HB1.out, HS.out, HC.out, fun j hj => ?_⟩
  repeat rw [Array.getElem?_setIfInBounds_ne (by omega)]
theorem l_r3 (tm : Array Value) (v : World) (hs : tm.size = 65) (n1 n2 : Int) (B2 B3 : Nat) (c : Int) (h2 : tm[2]? = some (.pointer (some ⟨B2, 0, none⟩))) (h3 : tm[3]? = some (.pointer (some ⟨B3, 0, none⟩))) (b20 : v.cell? ⟨B2, 0, none⟩ = some (.int .i64 n1)) (b30 : v.cell? ⟨B3, 0, none⟩ = some (.int .i64 n2)) (h7 : tm[7]? = some (.int .i64 c)) : (atc [1, 1, 1, 0, 0] (Tryd.f4.body.getD .skip)).wp Tryd.prog (fun e s w => e = .normal ∧ s.defers = [] ∧ HB v w ∧ s.tmps.size = 65 ∧ (∃ q, s.tmps[34]? = some (.bool q) ∧ (q = true ↔ (c = 0 ∧ (6 < n1 ∨ 6 < n2)))) ∧ ∀ j, j < 13 → s.tmps[j]? = tm[j]?) ⟨tm, []⟩ v := by
  have HS : Hid (tm.size = 65) := hs
  have s23 : 23 < tm.size := by omega
  have s24 : 24 < tm.size := by omega
  have s25 : 25 < tm.size := by omega
  have s26 : 26 < tm.size := by omega
  have s27 : 27 < tm.size := by omega
  have s28 : 28 < tm.size := by omega
  have s29 : 29 < tm.size := by omega
  have s30 : 30 < tm.size := by omega
  have s31 : 31 < tm.size := by omega
  have s32 : 32 < tm.size := by omega
  have s33 : 33 < tm.size := by omega
  have s34 : 34 < tm.size := by omega
  clear hs
  simp only [Tryd.f4, Option.getD_some, atc]
  by_cases e0 : c = 0
  · subst e0
    by_cases g1 : 6 < n1
    · go_wp2_with fail
      all_goals refine ⟨HB.refl _, HS.out, fun j hj => ?_⟩
      all_goals repeat rw [Array.getElem?_setIfInBounds_ne (by omega)]
    · by_cases g2 : 6 < n2
      · go_wp2_with fail
        all_goals refine ⟨HB.refl _, HS.out, fun j hj => ?_⟩
        all_goals repeat rw [Array.getElem?_setIfInBounds_ne (by omega)]
      · go_wp2_with fail
        all_goals refine ⟨HB.refl _, HS.out, fun j hj => ?_⟩
        all_goals repeat rw [Array.getElem?_setIfInBounds_ne (by omega)]
  · have hne : (c == 0) = false := by simpa using e0
    go_wp2_with fail
    all_goals refine ⟨HB.refl _, HS.out, fun j hj => ?_⟩
    all_goals repeat rw [Array.getElem?_setIfInBounds_ne (by omega)]
theorem l_r4 (tm : Array Value) (v : World) (hs : tm.size = 65)  : (thenT (atc [1, 1, 1, 0] (Tryd.f4.body.getD .skip))).wp Tryd.prog (fun e s w => e = .normal ∧ s.defers = [] ∧ HB v w ∧ s.tmps = tm.setIfInBounds 7 (.int .i64 2)) ⟨tm, []⟩ v := by
  have HS : Hid (tm.size = 65) := hs
  have s7 : 7 < tm.size := by omega
  clear hs
  simp only [Tryd.f4, Option.getD_some, atc, thenT]
  go_wp2_with fail
  exact HB.refl _
theorem l_r5 (tm : Array Value) (v : World) (hs : tm.size = 65)  : (atc [1, 1, 1, 1, 0] (Tryd.f4.body.getD .skip)).wp Tryd.prog (fun e s w => e = .normal ∧ s.defers = [] ∧ HB v w ∧ s.tmps = tm.setIfInBounds 8 (.bool false)) ⟨tm, []⟩ v := by
  have HS : Hid (tm.size = 65) := hs
  have s8 : 8 < tm.size := by omega
  clear hs
  simp only [Tryd.f4, Option.getD_some, atc]
  go_wp2_with fail
  exact HB.refl _
theorem l_r6 (tm : Array Value) (v : World) (hs : tm.size = 65) (n1 n2 : Int) (B2 B3 : Nat) (c : Int) (h2 : tm[2]? = some (.pointer (some ⟨B2, 0, none⟩))) (h3 : tm[3]? = some (.pointer (some ⟨B3, 0, none⟩))) (b20 : v.cell? ⟨B2, 0, none⟩ = some (.int .i64 n1)) (b30 : v.cell? ⟨B3, 0, none⟩ = some (.int .i64 n2)) (h7 : tm[7]? = some (.int .i64 c)) : (atc [1, 1, 1, 1, 1, 0, 0] (Tryd.f4.body.getD .skip)).wp Tryd.prog (fun e s w => e = .normal ∧ s.defers = [] ∧ HB v w ∧ s.tmps.size = 65 ∧ (∃ q, s.tmps[43]? = some (.bool q) ∧ (q = true ↔ (c = 0 ∧ n1 = n2))) ∧ ∀ j, j < 13 → s.tmps[j]? = tm[j]?) ⟨tm, []⟩ v := by
  have HS : Hid (tm.size = 65) := hs
  have s35 : 35 < tm.size := by omega
  have s36 : 36 < tm.size := by omega
  have s37 : 37 < tm.size := by omega
  have s38 : 38 < tm.size := by omega
  have s39 : 39 < tm.size := by omega
  have s40 : 40 < tm.size := by omega
  have s41 : 41 < tm.size := by omega
  have s42 : 42 < tm.size := by omega
  have s43 : 43 < tm.size := by omega
  clear hs
  simp only [Tryd.f4, Option.getD_some, atc]
  by_cases e0 : c = 0
  · subst e0
    by_cases g1 : n1 = n2
    · have g2 : (n1 == n2) = true := by simpa using g1
      go_wp2_with fail
      all_goals refine ⟨HB.refl _, HS.out, fun j hj => ?_⟩
      all_goals repeat rw [Array.getElem?_setIfInBounds_ne (by omega)]
    · have g2 : (n1 == n2) = false := by simpa using g1
      go_wp2_with fail
      all_goals refine ⟨HB.refl _, HS.out, fun j hj => ?_⟩
      all_goals repeat rw [Array.getElem?_setIfInBounds_ne (by omega)]
  · have hne : (c == 0) = false := by simpa using e0
    go_wp2_with fail
    all_goals refine ⟨HB.refl _, HS.out, fun j hj => ?_⟩
    all_goals repeat rw [Array.getElem?_setIfInBounds_ne (by omega)]
theorem l_r7 (tm : Array Value) (v : World) (hs : tm.size = 65) (a : Option Addr) (l p : Nat) (f : Nat → Int) (B : Nat) (hr : Row v a l f) (hc : FCk l l f 0) (h2 : tm[2]? = some (.pointer (some ⟨B, 0, none⟩))) (b0 : v.cell? ⟨B, 0, none⟩ = some (.int .i64 (l : Nat))) (b1 : v.cell? ⟨B, 1, none⟩ = some (.slice a l p)) : (atc [0] (thenT (atc [1, 1, 1, 1, 1, 0] (Tryd.f4.body.getD .skip)))).wp Tryd.prog (fun e s w => e = .normal ∧ s.defers = [] ∧ HB v w ∧ s.tmps.size = 65 ∧ (∃ D y a2 c2, s.tmps[9]? = some (.pointer (some ⟨D, 0, none⟩)) ∧ bst (nat f) l (per l [] (pw l - 1)) = some y ∧ w.cell? ⟨D, 0, none⟩ = some (.int .i64 (l : Nat)) ∧ w.cell? ⟨D, 1, none⟩ = some (.slice a2 l c2) ∧ Row w a2 l (fun k => (prt (nat f) y k : Nat))) ∧ ∀ j, j < 9 → s.tmps[j]? = tm[j]?) ⟨tm, []⟩ v := by
  have HS : Hid (tm.size = 65) := hs
  have s9 : 9 < tm.size := by omega
  have s10 : 10 < tm.size := by omega
  have s44 : 44 < tm.size := by omega
  have s45 : 45 < tm.size := by omega
  have s46 : 46 < tm.size := by omega
  have s47 : 47 < tm.size := by omega
  have s48 : 48 < tm.size := by omega
  clear hs
  simp only [Tryd.f4, Option.getD_some, atc, thenT]
  obtain ⟨_, h6', hck⟩ := hc.good
  obtain ⟨_, h10, hrng, hord⟩ := hck.good
  have HFO := (show Hid _ from fofR_any l a p (nat f) v h6' (hrng.small2 h10) (hrng.row hr))
  clear hck hrng hord hr hc
  go_wp2_with fail
  refine Calls.mono HFO.out ?_
  rintro e w1 ⟨⟨y, bl, bc, bv, hy, rfl, hrow, hbv, _⟩, hb⟩
  obtain ⟨lq, cq, rfl, _⟩ := owns_nats hbv
  have HRW : Hid (Row w1 bl l (fun k => (prt (nat f) y k : Nat))) := hrow
  have HB1 : Hid (Below v.heap.size v w1) := hb
  clear hrow hb hbv HFO
  go_wp2_with fail
  refine ⟨(below_hb HB1.out).trans (hb_alloc _ _), HS.out, HRW.out.below ((Below.refl _ _).alloc (Nat.le_refl _) _), fun j hj => ?_⟩
  repeat rw [Array.getElem?_setIfInBounds_ne (by omega)]
theorem l_r8 (tm : Array Value) (v : World) (hs : tm.size = 65) (a : Option Addr) (l p : Nat) (f : Nat → Int) (B : Nat) (hr : Row v a l f) (hc : FCk l l f 0) (h2 : tm[3]? = some (.pointer (some ⟨B, 0, none⟩))) (b0 : v.cell? ⟨B, 0, none⟩ = some (.int .i64 (l : Nat))) (b1 : v.cell? ⟨B, 1, none⟩ = some (.slice a l p)) : (atc [1, 0] (thenT (atc [1, 1, 1, 1, 1, 0] (Tryd.f4.body.getD .skip)))).wp Tryd.prog (fun e s w => e = .normal ∧ s.defers = [] ∧ HB v w ∧ s.tmps.size = 65 ∧ (∃ D y a2 c2, s.tmps[11]? = some (.pointer (some ⟨D, 0, none⟩)) ∧ bst (nat f) l (per l [] (pw l - 1)) = some y ∧ w.cell? ⟨D, 0, none⟩ = some (.int .i64 (l : Nat)) ∧ w.cell? ⟨D, 1, none⟩ = some (.slice a2 l c2) ∧ Row w a2 l (fun k => (prt (nat f) y k : Nat))) ∧ ∀ j, j < 11 → s.tmps[j]? = tm[j]?) ⟨tm, []⟩ v := by
  have HS : Hid (tm.size = 65) := hs
  have s11 : 11 < tm.size := by omega
  have s12 : 12 < tm.size := by omega
  have s49 : 49 < tm.size := by omega
  have s50 : 50 < tm.size := by omega
  have s51 : 51 < tm.size := by omega
  have s52 : 52 < tm.size := by omega
  have s53 : 53 < tm.size := by omega
  clear hs
  simp only [Tryd.f4, Option.getD_some, atc, thenT]
  obtain ⟨_, h6', hck⟩ := hc.good
  obtain ⟨_, h10, hrng, hord⟩ := hck.good
  have HFO := (show Hid _ from fofR_any l a p (nat f) v h6' (hrng.small2 h10) (hrng.row hr))
  clear hck hrng hord hr hc
  go_wp2_with fail
  refine Calls.mono HFO.out ?_
  rintro e w1 ⟨⟨y, bl, bc, bv, hy, rfl, hrow, hbv, _⟩, hb⟩
  obtain ⟨lq, cq, rfl, _⟩ := owns_nats hbv
  have HRW : Hid (Row w1 bl l (fun k => (prt (nat f) y k : Nat))) := hrow
  have HB1 : Hid (Below v.heap.size v w1) := hb
  clear hrow hb hbv HFO
  go_wp2_with fail
  refine ⟨(below_hb HB1.out).trans (hb_alloc _ _), HS.out, HRW.out.below ((Below.refl _ _).alloc (Nat.le_refl _) _), fun j hj => ?_⟩
  repeat rw [Array.getElem?_setIfInBounds_ne (by omega)]
theorem l_r9 (tm : Array Value) (v : World) (hs : tm.size = 65) (l l2 : Nat) (f1 f2 : Nat → Int) (y1 y2 : List Nat) (a1 a2 : Option Addr) (c1 c2 : Nat) (D1 D2 : Nat) (hl1 : l ≤ maxLen) (hl2 : l2 ≤ maxLen) (h9 : tm[9]? = some (.pointer (some ⟨D1, 0, none⟩))) (h11 : tm[11]? = some (.pointer (some ⟨D2, 0, none⟩))) (d10 : v.cell? ⟨D1, 0, none⟩ = some (.int .i64 (l : Nat))) (d11 : v.cell? ⟨D1, 1, none⟩ = some (.slice a1 l c1)) (d20 : v.cell? ⟨D2, 0, none⟩ = some (.int .i64 (l2 : Nat))) (d21 : v.cell? ⟨D2, 1, none⟩ = some (.slice a2 l2 c2)) (hr1 : Row v a1 l (fun k => (prt (nat f1) y1 k : Nat))) (hr2 : Row v a2 l2 (fun k => (prt (nat f2) y2 k : Nat))) : (atc [1, 1] (thenT (atc [1, 1, 1, 1, 1, 0] (Tryd.f4.body.getD .skip)))).wp Tryd.prog (fun e s w => e = .normal ∧ s.defers = [] ∧ HB v w ∧ s.tmps.size = 65 ∧ (∃ b, s.tmps[8]? = some (.bool b) ∧ (b = true ↔ SameOrders (l : Nat) (l2 : Nat) l l2 (fun k => (prt (nat f1) y1 k : Nat)) (fun k => (prt (nat f2) y2 k : Nat)))) ∧ ∀ j, j < 8 → s.tmps[j]? = tm[j]?) ⟨tm, []⟩ v := by
  have HS : Hid (tm.size = 65) := hs
  have s8 : 8 < tm.size := by omega
  have s54 : 54 < tm.size := by omega
  have s55 : 55 < tm.size := by omega
  have s56 : 56 < tm.size := by omega
  clear hs
  simp only [Tryd.f4, Option.getD_some, atc, thenT]
  have HSM := (show Hid _ from sameOrder_any (l : Nat) (l2 : Nat) a1 a2 l c1 l2 c2 _ _ v hl1 hl2 hr1 hr2)
  clear hr1 hr2
  go_wp2_with fail
  refine Calls.mono HSM.out ?_
  rintro e w1 ⟨⟨b, rfl, hq⟩, hb⟩
  have HQ : Hid (b = true ↔ SameOrders (l : Nat) (l2 : Nat) l l2 (fun k => (prt (nat f1) y1 k : Nat)) (fun k => (prt (nat f2) y2 k : Nat))) := hq
  have HB1 : Hid (Below v.heap.size v w1) := hb
  clear hq hb HSM
  go_wp2_with fail
  refine ⟨below_hb HB1.out, HS.out, HQ.out, fun j hj => ?_⟩
  repeat rw [Array.getElem?_setIfInBounds_ne (by omega)]
theorem l_t10 (tm : Array Value) (v : World) (hs : tm.size = 65) (c : Int) (b b' : Bool) (h57 : tm[57]? = some (.bool true)) (h5 : tm[5]? = some (.bool b)) (h6 : tm[6]? = some (.int .i64 c)) (h7 : tm[7]? = some (.int .i64 c)) (h8 : tm[8]? = some (.bool b')) (hq : (c ≠ 0 ∧ b = false) ∨ (c = 0 ∧ b = b')) : wpList Tryd.prog (opsOf (atc [1, 1, 1, 1, 1, 1, 0] (Tryd.f4.body.getD .skip))) (fun e s w => e = .normal ∧ s.defers = [] ∧ HB v w ∧ s.tmps[4]? = some (.bool true)) ((opsOf (atc [1, 1, 1, 1, 1, 1, 0] (Tryd.f4.body.getD .skip))).toList.drop 1) ⟨tm, []⟩ v := by
  have HS : Hid (tm.size = 65) := hs
  have s4 : 4 < tm.size := by omega
  have s58 : 58 < tm.size := by omega
  have s59 : 59 < tm.size := by omega
  have s60 : 60 < tm.size := by omega
  have s61 : 61 < tm.size := by omega
  have s62 : 62 < tm.size := by omega
  have s63 : 63 < tm.size := by omega
  have s64 : 64 < tm.size := by omega
  clear hs
  simp only [Tryd.f4, Option.getD_some, atc, opsOf, List.drop_succ_cons, List.drop_zero]
  have HG := (show Hid _ from truthIs_any c b b' v hq)
  clear hq
  go_wp2_with (go_at_call 18; refine Calls.mono HG.out ?_; rintro e w1 ⟨rfl, rfl⟩)
  exact HB.refl _
end Go.Proofs.YtfbdgdphpdhcpaaDoor
namespace Go.Proofs.YtfbdgdphpdhcpaaDoor
open Go Go.Conc Go.RowKit Sm
set_option maxRecDepth 100000

theorem xr_ini2 {R : Ren} {x x' y y' : Value} (hx : VR R x x') (hy : VR R y y') (m : Nat) : XR R (#[x, y] ++ Array.replicate m undef) (#[x', y'] ++ Array.replicate m undef) := by
  refine ⟨by simp, fun i u u' h1 h2 => ?_⟩
  match i with
  | 0 =>
    have e1 : (#[x, y] ++ Array.replicate m undef)[0]? = some x := by rw [Array.getElem?_append_left (by simp)]; rfl
    have e2 : (#[x', y'] ++ Array.replicate m undef)[0]? = some x' := by rw [Array.getElem?_append_left (by simp)]; rfl
    rw [e1] at h1; rw [e2] at h2; cases h1; cases h2; exact hx
  | 1 =>
    have e1 : (#[x, y] ++ Array.replicate m undef)[1]? = some y := by rw [Array.getElem?_append_left (by simp)]; rfl
    have e2 : (#[x', y'] ++ Array.replicate m undef)[1]? = some y' := by rw [Array.getElem?_append_left (by simp)]; rfl
    rw [e1] at h1; rw [e2] at h2; cases h1; cases h2; exact hy
  | i + 2 =>
    rw [Array.getElem?_append_right (by simp)] at h1 h2
    rw [Array.getElem?_replicate] at h1 h2
    split at h1
    · cases h1
      split at h2
      · cases h2; exact VR.tuple XR.nil
      · cases h2
    · cases h1
/-- What is known behind the reference's check. -/
structure L1 (r : Nat → Nat → Prop) (v0 v : World) (tm tm' : Array Value) (n1 : Int) (a1 : Option Addr) (l1 p1 : Nat) (n2 : Int) (a2 : Option Addr) (l2 p2 : Nat) (B2 B3 : Nat) (c : Int) (b : Bool) : Prop where
  hb : HB v0 v
  xr : XR (Rg Tryd.prog afs cgs r) tm tm'
  rg : ∀ g ∈ cgs, r g g
  sz : tm.size = 65
  t2 : tm[2]? = some (.pointer (some ⟨B2, 0, none⟩))
  t3 : tm[3]? = some (.pointer (some ⟨B3, 0, none⟩))
  t5 : tm[5]? = some (.bool b)
  t6 : tm[6]? = some (.int .i64 c)
  b2 : Bx v B2 n1 a1 l1 p1
  b3 : Bx v B3 n2 a2 l2 p2
theorem L1.mv {r r' : Nat → Nat → Prop} {v0 v v' : World} {tm tm' tm1 tm1' : Array Value} {n1 : Int} {a1 : Option Addr} {l1 p1 : Nat} {n2 : Int} {a2 : Option Addr} {l2 p2 : Nat} {B2 B3 : Nat} {c : Int} {b : Bool} (h : L1 r v0 v tm tm' n1 a1 l1 p1 n2 a2 l2 p2 B2 B3 c b)
    (hr : ∀ b b', r b b' → r' b b') (hv : HB v v') (hx : XR (Rg Tryd.prog afs cgs r') tm1 tm1') (hs : tm1.size = 65) (ht : ∀ j, j < 7 → tm1[j]? = tm[j]?) : L1 r' v0 v' tm1 tm1' n1 a1 l1 p1 n2 a2 l2 p2 B2 B3 c b where
  hb := h.hb.trans hv
  xr := hx
  rg g hg := hr _ _ (h.rg g hg)
  sz := hs
  t2 := (ht 2 (by simp)).trans h.t2
  t3 := (ht 3 (by simp)).trans h.t3
  t5 := (ht 5 (by simp)).trans h.t5
  t6 := (ht 6 (by simp)).trans h.t6
  b2 := h.b2.hb hv
  b3 := h.b3.hb hv
section
variable {Fin : Value → World → Prop} {K : World} {k : List Item} {rc : List Frame}
set_option maxHeartbeats 4000000 in
theorem l_run {C : Code} (hC : IsL C) {n1 : Int} {a1 : Option Addr} {l1 p1 : Nat} {f1 : Nat → Int} {n2 : Int} {a2 : Option Addr} {l2 p2 : Nat} {f2 : Nat → Int} (hl1 : l1 ≤ maxLen) (hl2 : l2 ≤ maxLen) {r : Nat → Nat → Prop} {v : World} {tm tm' : Array Value} (hx : XR (Rg Tryd.prog afs cgs r) tm tm') (hg : ∀ g ∈ cgs, r g g) (hs : tm.size = 65) (t0 : tm[0]? = some (.agg #[.int .i64 n1, .slice a1 l1 p1])) (t1 : tm[1]? = some (.agg #[.int .i64 n2, .slice a2 l2 p2])) (hr1 : Row v a1 l1 f1) (hr2 : Row v a2 l2 f2) (hT : Tab v) (hlow : Tryd.prog.globals.size ≤ v.heap.size) (hp0 : PureB v 0) (hp1 : PureB v 1)
    (hk : ∀ r' v' tm1 tm1', XR (Rg Tryd.prog afs cgs r') tm1 tm1' → tm1[4]? = some (.bool true) → Mc Fin K r' v' (fun _ => none) none (G (fF GL tm1' (.code .ret :: k) [] .normal) rc)) :
    Mc Fin K r v (fun _ => none) none (G (fF GL tm' (.code C :: k) [] .normal) rc) := by
  rw [gl_shape hC]
  refine mmv (mv_seq _ _) ?_
  refine mpiece gl_in (gl_ok hC (by simp)) hg hx (Q := fun s w => HB v w ∧ s.tmps.size = 65 ∧ (∃ B, s.tmps[2]? = some (.pointer (some ⟨B, 0, none⟩)) ∧ w.cell? ⟨B, 0, none⟩ = some (.int .i64 n1) ∧ w.cell? ⟨B, 1, none⟩ = some (.slice a1 l1 p1)) ∧ ∃ B, s.tmps[3]? = some (.pointer (some ⟨B, 0, none⟩)) ∧ w.cell? ⟨B, 0, none⟩ = some (.int .i64 n2) ∧ w.cell? ⟨B, 1, none⟩ = some (.slice a2 l2 p2)) (fun τ => ?_) fun r1 v1 tm1 tm1' hr1' hx1 hq => ?_
  · rw [hC]; exact l_r0 tm (tap τ v) hs n1 a1 l1 p1 n2 a2 l2 p2 t0 t1
  obtain ⟨hb1, s1, ⟨B2, q2, q20, q21⟩, B3, q3, q30, q31⟩ := hq
  have g1 : ∀ g ∈ cgs, r1 g g := fun g h => hr1' _ _ (hg g h)
  -- Alike
  refine mmv (mv_seq _ _) ?_
  refine mpiece gl_in (gl_ok hC (by simp)) g1 hx1 (Q := fun s w => HB v1 w ∧ s.tmps.size = 65 ∧ (∃ c b, s.tmps[6]? = some (.int .i64 c) ∧ s.tmps[5]? = some (.bool b) ∧ FC2 n1 l1 f1 n2 l2 f2 c ∧ A1r l1 f1 l2 f2 c b) ∧ ∀ j, j < 5 → s.tmps[j]? = tm1[j]?) (fun τ => ?_) fun r2 v2 tm2 tm2' hr2' hx2 hq => ?_
  · rw [hC]; exact l_r1 tm1 (tap τ v1) s1 n1 a1 l1 p1 n2 a2 l2 p2 f1 f2 B2 B3 hl1 hl2 (hb1.row hr1) (hb1.row hr2) q2 q3 q20 q21 q30 q31 (hb1.tab hT)
  obtain ⟨hb2, s2, ⟨c, b, c6, c5, hck, hR⟩, e2⟩ := hq
  have h2 : L1 r2 v v2 tm2 tm2' n1 a1 l1 p1 n2 a2 l2 p2 B2 B3 c b := ⟨hb1.trans hb2, hx2, fun g h => hr2' _ _ (g1 g h), s2, (e2 2 (by decide)).trans q2, (e2 3 (by decide)).trans q3, c5, c6, ⟨hb2.cell q20, hb2.cell q21⟩, ⟨hb2.cell q30, hb2.cell q31⟩⟩
  -- the reference's check
  refine mmv (mv_seq _ _) ?_
  refine mpiece gl_in (gl_ok hC (by simp)) h2.rg h2.xr (Q := fun s w => HB v2 w ∧ s.tmps.size = 65 ∧ (∃ c, s.tmps[7]? = some (.int .i64 c) ∧ CO2 n1 l1 f1 n2 l2 f2 c) ∧ ∀ j, j < 7 → s.tmps[j]? = tm2[j]?) (fun τ => ?_) fun r3 v3 tm3 tm3' hr3' hx3 hq => ?_
  · rw [hC]; exact l_r2 tm2 (tap τ v2) s2 n1 a1 l1 p1 n2 a2 l2 p2 f1 f2 B2 B3 hl1 hl2 (h2.hb.row hr1) (h2.hb.row hr2) h2.t2 h2.t3 h2.b2.1 h2.b2.2 h2.b3.1 h2.b3.2
  obtain ⟨hb3, s3, ⟨c0, c7, hco⟩, e3⟩ := hq
  have h3 := h2.mv hr3' hb3 hx3 s3 e3
  -- more than six points?
  refine mmv (mv_seq _ _) ?_
  refine mmv (mv_seq _ _) ?_
  refine mpiece gl_in (gl_ok hC (by simp)) h3.rg h3.xr (Q := fun s w => HB v3 w ∧ s.tmps.size = 65 ∧ (∃ q, s.tmps[34]? = some (.bool q) ∧ (q = true ↔ (c0 = 0 ∧ (6 < n1 ∨ 6 < n2)))) ∧ ∀ j, j < 13 → s.tmps[j]? = tm3[j]?) (fun τ => ?_) fun r4 v4 tm4 tm4' hr4' hx4 hq => ?_
  · rw [hC]; exact l_r3 tm3 (tap τ v3) s3 n1 n2 B2 B3 c0 h3.t2 h3.t3 h3.b2.1 h3.b3.1 c7
  obtain ⟨hb4, s4, ⟨q, m34, hqi⟩, e4⟩ := hq
  have h4 := h3.mv hr4' hb4 hx4 s4 fun j hj => e4 j (by omega)
  refine mmv (mv_cond (b := q) (eval_tmp (D := []) (vr_bool hx4 m34))) ?_
  -- the end
  have fin2 : ∀ r6 v6 tm6 tm6' b', L1 r6 v v6 tm6 tm6' n1 a1 l1 p1 n2 a2 l2 p2 B2 B3 c b → tm6[7]? = some (.int .i64 c) → tm6[8]? = some (.bool b') → ((c ≠ 0 ∧ b = false) ∨ (c = 0 ∧ b = b')) →
      Mc Fin K r6 v6 (fun _ => none) none (G (fF GL tm6' (.code (.seq (atc [1, 1, 1, 1, 1, 1, 0] C) .ret) :: k) [] .normal) rc) := by
    intro r6 v6 tm6 tm6' b' h6 d7 d8 hbb
    refine mmv (mv_seq _ _) ?_
    rw [gl10_shape hC]
    refine mmv (mv_region _ _) ?_
    obtain ⟨hops, z, hB⟩ := gl10_ops hC
    rw [show List.range (opsOf (atc [1, 1, 1, 1, 1, 1, 0] C)).size = 0 :: List.range' 1 8 by rw [z]; rfl]
    obtain ⟨o0, j1, j2, j3, j4⟩ := op_take hops 0 rfl
    refine begun_call j1 j2 j3 j4 h6.xr h6.rg (h6.hb.tab hT) (Nat.le_trans hlow h6.hb.1) (h6.hb.pure hp0) (h6.hb.pure hp1) fun r7 v7 tm7' hr7 hb7 g7 hx7 T7 l7 p07 p17 => ?_
    refine mtail 1 rfl (n := 8) (by rw [List.length_drop, Array.length_toList, z]) gl_in hB g7 hx7 (Q := fun s w => HB v7 w ∧ s.tmps[4]? = some (.bool true)) (fun τ => ?_) fun r8 v8 tm8 tm8' hr8 hx8 hq => ?_
    · rw [hC]
      exact l_t10 (tm6.setIfInBounds 57 (.bool true)) (tap τ v7) (by simp [h6.sz]) c b b' (set_at (by rw [h6.sz]; decide) _) ((set_ne (by decide) _).trans h6.t5) ((set_ne (by decide) _).trans h6.t6) ((set_ne (by decide) _).trans d7) ((set_ne (by decide) _).trans d8) hbb
    exact hk r8 v8 tm8 tm8' hx8 hq.2
  -- what the two forms say
  have fin1 : ∀ r5 v5 tm5 tm5', L1 r5 v v5 tm5 tm5' n1 a1 l1 p1 n2 a2 l2 p2 B2 B3 c b → tm5[7]? = some (.int .i64 c) →
      Mc Fin K r5 v5 (fun _ => none) none (G (fF GL tm5' (.code (.seq (atc [1, 1, 1, 1, 0] C) (.seq (.seq (atc [1, 1, 1, 1, 1, 0, 0] C) (.cond (.tmp 43) (.seq (atc [0] (lT C)) (.seq (atc [1, 0] (lT C)) (atc [1, 1] (lT C)))) .skip)) (.seq (atc [1, 1, 1, 1, 1, 1, 0] C) .ret))) :: k) [] .normal) rc) := by
    intro r5 v5 tm5 tm5' h5 d7
    refine mmv (mv_seq _ _) ?_
    refine mpiece gl_in (gl_ok hC (by simp)) h5.rg h5.xr (Q := fun s w => HB v5 w ∧ s.tmps = tm5.setIfInBounds 8 (.bool false)) (fun τ => ?_) fun r6 v6 tm6 tm6' hr6 hx6 hq => ?_
    · rw [hC]; exact l_r5 tm5 (tap τ v5) h5.sz
    obtain ⟨hb6, e6⟩ := hq
    have e6 : tm6 = _ := e6
    have h6 := h5.mv hr6 hb6 hx6 (by rw [e6]; simp [h5.sz]) fun j hj => by rw [e6]; exact set_ne (by omega) _
    have d7' : tm6[7]? = some (.int .i64 c) := by rw [e6, set_ne (by decide)]; exact d7
    have d8' : tm6[8]? = some (.bool false) := by rw [e6, set_at (by rw [h5.sz]; decide)]
    refine mmv (mv_seq _ _) ?_
    refine mmv (mv_seq _ _) ?_
    refine mpiece gl_in (gl_ok hC (by simp)) h6.rg h6.xr (Q := fun s w => HB v6 w ∧ s.tmps.size = 65 ∧ (∃ q, s.tmps[43]? = some (.bool q) ∧ (q = true ↔ (c = 0 ∧ n1 = n2))) ∧ ∀ j, j < 13 → s.tmps[j]? = tm6[j]?) (fun τ => ?_) fun r7 v7 tm7 tm7' hr7 hx7 hq => ?_
    · rw [hC]; exact l_r6 tm6 (tap τ v6) h6.sz n1 n2 B2 B3 c h6.t2 h6.t3 h6.b2.1 h6.b3.1 d7'
    obtain ⟨hb7, s7, ⟨q7, m43, hq7⟩, e7⟩ := hq
    have h7 := h6.mv hr7 hb7 hx7 s7 fun j hj => e7 j (by omega)
    refine mmv (mv_cond (b := q7) (eval_tmp (D := []) (vr_bool hx7 m43))) ?_
    cases q7 with
    | true =>
      obtain ⟨rfl, rfl⟩ := hq7.1 rfl
      obtain ⟨g1, g2⟩ := hck.good
      obtain ⟨e1, h61, _⟩ := g1.good
      obtain ⟨e2, h62, _⟩ := g2.good
      rw [if_pos rfl]
      rcases hR with ⟨hR0, _⟩ | ⟨_, x1, x2, hx1', hx2', hqb⟩
      · exact absurd rfl hR0
      refine mmv (mv_seq _ _) ?_
      refine mpiece gl_in (gl4_ok hC).2.1 h7.rg h7.xr (Q := fun s w => HB v7 w ∧ s.tmps.size = 65 ∧ (∃ D y a2 c2, s.tmps[9]? = some (.pointer (some ⟨D, 0, none⟩)) ∧ bst (nat f1) l1 (per l1 [] (pw l1 - 1)) = some y ∧ w.cell? ⟨D, 0, none⟩ = some (.int .i64 (l1 : Nat)) ∧ w.cell? ⟨D, 1, none⟩ = some (.slice a2 l1 c2) ∧ Row w a2 l1 (fun k => (prt (nat f1) y k : Nat))) ∧ ∀ j, j < 9 → s.tmps[j]? = tm7[j]?) (fun τ => ?_) fun r8 v8 tm8 tm8' hr8 hx8 hq => ?_
      · rw [hC]; exact l_r7 tm7 (tap τ v7) s7 a1 l1 p1 f1 B2 (h7.hb.row hr1) (by rw [← e1]; exact g1) h7.t2 (by rw [← e1]; exact h7.b2.1) h7.b2.2
      obtain ⟨hb8, s8, ⟨D1, y1, ay1, cy1, u9, hy1, d10, d11, hry1⟩, e8⟩ := hq
      have h8 := h7.mv hr8 hb8 hx8 s8 fun j hj => e8 j (by omega)
      refine mmv (mv_seq _ _) ?_
      refine mpiece gl_in (gl4_ok hC).2.2.1 h8.rg h8.xr (Q := fun s w => HB v8 w ∧ s.tmps.size = 65 ∧ (∃ D y a2 c2, s.tmps[11]? = some (.pointer (some ⟨D, 0, none⟩)) ∧ bst (nat f2) l2 (per l2 [] (pw l2 - 1)) = some y ∧ w.cell? ⟨D, 0, none⟩ = some (.int .i64 (l2 : Nat)) ∧ w.cell? ⟨D, 1, none⟩ = some (.slice a2 l2 c2) ∧ Row w a2 l2 (fun k => (prt (nat f2) y k : Nat))) ∧ ∀ j, j < 11 → s.tmps[j]? = tm8[j]?) (fun τ => ?_) fun r9 v9 tm9 tm9' hr9 hx9 hq => ?_
      · rw [hC]; exact l_r8 tm8 (tap τ v8) s8 a2 l2 p2 f2 B3 (h8.hb.row hr2) (by rw [← e2]; exact g2) h8.t3 (by rw [← e2]; exact h8.b3.1) h8.b3.2
      obtain ⟨hb9, s9, ⟨D2, y2, ay2, cy2, u11, hy2, d20, d21, hry2⟩, e9⟩ := hq
      have h9 := h8.mv hr9 hb9 hx9 s9 fun j hj => e9 j (by omega)
      refine mpiece gl_in (gl4_ok hC).2.2.2 h9.rg h9.xr (Q := fun s w => HB v9 w ∧ s.tmps.size = 65 ∧ (∃ b, s.tmps[8]? = some (.bool b) ∧ (b = true ↔ SameOrders (l1 : Nat) (l2 : Nat) l1 l2 (fun k => (prt (nat f1) y1 k : Nat)) (fun k => (prt (nat f2) y2 k : Nat)))) ∧ ∀ j, j < 8 → s.tmps[j]? = tm9[j]?) (fun τ => ?_) fun ra va tma tma' hra hxa hq => ?_
      · rw [hC]; exact l_r9 tm9 (tap τ v9) s9 l1 l2 f1 f2 y1 y2 ay1 ay2 cy1 cy2 D1 D2 hl1 hl2 ((e9 9 (by decide)).trans u9) u11 (hb9.cell d10) (hb9.cell d11) d20 d21 (hb9.row hry1) hry2
      obtain ⟨hba, sa, ⟨b', u8, hb'⟩, ea⟩ := hq
      have ha := h9.mv hra hba hxa sa fun j hj => ea j (by omega)
      obtain rfl : y1 = x1 := Option.some.inj (hy1.symm.trans hx1')
      obtain rfl : y2 = x2 := Option.some.inj (hy2.symm.trans hx2')
      refine fin2 ra va tma tma' b' ha ((ea 7 (by decide)).trans ((e9 7 (by decide)).trans ((e8 7 (by decide)).trans ((e7 7 (by decide)).trans d7')))) u8 (.inr ⟨rfl, ?_⟩)
      rw [Bool.eq_iff_iff, hqb, hb']
      exact ⟨fun h => ⟨by omega, h⟩, fun h => h.2⟩
    | false =>
      rw [if_neg (by decide)]
      refine mmv mv_skip ?_
      refine fin2 r7 v7 tm7 tm7' false h7 ((e7 7 (by decide)).trans d7') ((e7 8 (by decide)).trans d8') ?_
      rcases hR with ⟨hR0, hRb⟩ | ⟨hR0, x1, x2, hx1', hx2', hqb⟩
      · exact .inl ⟨hR0, hRb⟩
      · refine .inr ⟨hR0, ?_⟩
        subst hR0
        obtain ⟨g1, g2⟩ := hck.good
        obtain ⟨e1, _⟩ := g1.good
        obtain ⟨e2, _⟩ := g2.good
        rw [Bool.eq_false_iff]
        intro hbt
        have hl := (hqb.1 hbt).1
        have : (false : Bool) = true := hq7.2 ⟨rfl, by omega⟩
        cases this
  cases q with
  | true =>
    obtain ⟨hc0, h6⟩ := hqi.1 rfl
    have hF : FC2 n1 l1 f1 n2 l2 f2 2 := ⟨c0, hco, by rw [if_pos hc0, if_pos h6]⟩
    obtain rfl : c = 2 := hck.one hF
    rw [if_pos rfl]
    refine mpiece gl_in (gl4_ok hC).1 h4.rg h4.xr (Q := fun s w => HB v4 w ∧ s.tmps = tm4.setIfInBounds 7 (.int .i64 2)) (fun τ => ?_) fun r5 v5 tm5 tm5' hr5 hx5 hq => ?_
    · rw [hC]; exact l_r4 tm4 (tap τ v4) s4
    obtain ⟨hb5, e5⟩ := hq
    have e5 : tm5 = _ := e5
    exact fin1 r5 v5 tm5 tm5' (h4.mv hr5 hb5 hx5 (by rw [e5]; simp [h4.sz]) fun j hj => by rw [e5]; exact set_ne (by omega) _) (by rw [e5, set_at (by rw [h4.sz]; decide)])
  | false =>
    have hF : FC2 n1 l1 f1 n2 l2 f2 c0 := ⟨c0, hco, by
      by_cases hc0 : c0 = 0
      · rw [if_pos hc0, if_neg (fun h6 => by have := hqi.2 ⟨hc0, h6⟩; cases this)]; exact hc0
      · rw [if_neg hc0]⟩
    obtain rfl : c = c0 := hck.one hF
    rw [if_neg (by decide)]
    refine mmv mv_skip ?_
    exact fin1 r4 v4 tm4 tm4' h4 ((e4 7 (by decide)).trans c7)
end
theorem alike_win (W : World) (hT : Tab W) (h0 : NumB W 0) (h1 : NumB W 1) {n1 : Int} {a1 : Option Addr} {l1 p1 : Nat} {f1 : Nat → Int} {n2 : Int} {a2 : Option Addr} {l2 p2 : Nat} {f2 : Nat → Int} (hl1 : l1 ≤ maxLen) (hr1 : Row W a1 l1 f1) (ha1 : InC W a1) (hl2 : l2 ≤ maxLen) (hr2 : Row W a2 l2 f2) (ha2 : InC W a2) :
    Win Tryd.prog (fun y w => y = .bool true ∧ Kp W w) (solo (G (Frame.enter Tryd.prog GL #[.agg #[.int .i64 n1, .slice a1 l1 p1], .agg #[.int .i64 n2, .slice a2 l2 p2]] .normal) []) W) #[] := by
  obtain ⟨v0, gs, hs, p0, q1, hwin⟩ := start_view W h0 h1 (blkA a1 ++ blkA a2) (fun b hb => by
    rcases List.mem_append.1 hb with hb | hb
    · exact ha1.blk b hb
    · exact ha2.blk b hb)
  have h2w : 2 ≤ W.heap.size := by
    obtain ⟨c, t, fr, h, _⟩ := h1
    have := (Array.getElem?_eq_some_iff.1 h).1
    omega
  have m1 : ∀ b ∈ blkA a1, b ∈ blkA a1 ++ blkA a2 := fun b h => List.mem_append.2 (.inl h)
  have m2 : ∀ b ∈ blkA a2, b ∈ blkA a1 ++ blkA a2 := fun b h => List.mem_append.2 (.inr h)
  obtain ⟨C, hC⟩ : ∃ C, IsL C := ⟨_, rfl⟩
  have hbK : Tryd.f4.body = some C := by rw [hC]; rfl
  have hen : Frame.enter Tryd.prog GL #[.agg #[.int .i64 n1, .slice a1 l1 p1], .agg #[.int .i64 n2, .slice a2 l2 p2]] .normal = fF GL (#[.agg #[.int .i64 n1, .slice a1 l1 p1], .agg #[.int .i64 n2, .slice a2 l2 p2]] ++ Array.replicate 63 undef) [.code C] [] .normal := by
    rw [enter_at _ Tryd.func4 hbK]
    have hsz2 : Tryd.f4.ntmps - (#[Value.agg #[.int .i64 n1, .slice a1 l1 p1], Value.agg #[.int .i64 n2, .slice a2 l2 p2]]).size = 63 := by rw [Tryd.ntmps4]; rfl
    rw [hsz2]
    rfl
  rw [hen]
  refine hwin _ _ ?_
  refine l_run hC hl1 hl2 (xr_ini2 (vr_ord1 ha1 m1) (vr_ord1 ha2 m2) 63) (fun g hg => ⟨rfl, by simp [cgs] at hg; rcases hg with rfl | rfl <;> simp⟩) (by simp) (by rw [Array.getElem?_append_left (by simp)]; rfl) (by rw [Array.getElem?_append_left (by simp)]; rfl) (seen_row hs m1 hr1) (seen_row hs m2 hr2) (seen_tab hs hT) (by rw [glob2', gs]; omega) p0 q1 fun r' v' tm1 tm1' hx1 q => ?_
  have hret := ret_one (F := Tryd.f4) (t := 4) rfl (vr_bool hx1 q)
  exact MV.last Tryd.func4 (by kernel_rfl) (fun w => (hret w).1) (fun w => (hret w).2) (fun _ => rfl) fun w hk _ => ⟨rfl, hk⟩
end Go.Proofs.YtfbdgdphpdhcpaaDoor
