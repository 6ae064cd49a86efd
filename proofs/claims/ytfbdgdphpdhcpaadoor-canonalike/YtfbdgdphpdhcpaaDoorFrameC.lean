/-
  CanonForms' pieces, alone. Conditions: as told.
  CanonForms, from its start to its return. Conditions: the slice reads as a slice of numbers; the library's tables.
  CanonForms, whoever is picked. Conditions: the slice reads as a slice of numbers, and lies in cells; the library's tables.
  How an order that comes in is read, and where its slice lies. No condition.
-/
import Derived.Test.YtfbdgdphpdhcpaaDoorCbH
import Derived.Test.YtfbdgdphpdhcpaaDoorRfN
namespace Go.Proofs.YtfbdgdphpdhcpaaDoor
open Go Go.Conc Go.RowKit Sm
set_option maxRecDepth 100000

abbrev GF : FuncId := 3
def IsF (C : Code) : Prop := C = Tryd.f3.body.getD .skip
theorem gf_shape {C : Code} (hC : IsF C) : C = .seq (atc [0] C) (.seq (atc [1, 0] C) (.seq (atc [1, 1, 0] C) (.seq (atc [1, 1, 1, 0] C) (.seq (.seq (atc [1, 1, 1, 1, 0, 0] C) (.cond (.tmp 20) (thenT (atc [1, 1, 1, 1, 0] C)) .skip)) (.seq (atc [1, 1, 1, 1, 1, 0] C) .ret))))) := by
  rw [hC]
  kernel_rfl
abbrev gfl : List (List Nat) := [[0], [1, 0], [1, 1, 0], [1, 1, 1, 0], [1, 1, 1, 1, 0, 0]]
theorem gf_item : (gfl.all fun l => itemB Tryd.prog afs cgs (.code (atc l (Tryd.f3.body.getD .skip)))) = true := by kernel_rfl
theorem gf_ok {C : Code} (hC : IsF C) {l : List Nat} (h : l ∈ gfl) : itemB Tryd.prog afs cgs (.code (atc l C)) = true := by
  rw [hC]
  exact List.all_eq_true.1 gf_item l h
theorem gf5_ok {C : Code} (hC : IsF C) : itemB Tryd.prog afs cgs (.code (thenT (atc [1, 1, 1, 1, 0] C))) = true := by
  rw [hC]
  kernel_rfl
theorem gf_in : ∃ f, Tryd.prog.funcs[GF]? = some f := ⟨_, Tryd.func3⟩
theorem gf6_shape {C : Code} (hC : IsF C) : atc [1, 1, 1, 1, 1, 0] C = .region 6 (opsOf (atc [1, 1, 1, 1, 1, 0] C)) false := by
  rw [hC]
  kernel_rfl
theorem gf6_ops {C : Code} (hC : IsF C) : (((opsOf (atc [1, 1, 1, 1, 1, 0] C)).map fun o => (o.dst, o.op, o.guard)).toList.take 1) = [(some 26, .call { callee := .value (.func GB), args := #[], argTypes := #[] }, none)] ∧ (opsOf (atc [1, 1, 1, 1, 1, 0] C)).size = 14 ∧ itemB Tryd.prog afs cgs (.inRegion (opsOf (atc [1, 1, 1, 1, 1, 0] C)) (List.range' 1 13)) = true := by
  rw [hC]
  exact ⟨by kernel_rfl, by kernel_rfl, by kernel_rfl⟩
/-- What Form has handed back: the order's two cells, the list. -/
def R1 (c : Int) (len : Nat) (f : Nat → Int) (v : World) (x0 x1 q : Value) : Prop :=
  (c ≠ 0 ∧ x0 = .int .i64 0 ∧ x1 = .slice none 0 0 ∧ ∃ lq cq, q = .slice lq 0 cq) ∨
    (c = 0 ∧ len ≤ 6 ∧ ∃ y bl bc lq cq, bst (nat f) len (per len [] (pw len - 1)) = some y ∧ x0 = .int .i64 (len : Nat) ∧ x1 = .slice bl len bc ∧ Row v bl len (fun k => (prt (nat f) y k : Nat)) ∧ q = .slice lq y.length cq ∧ Row v lq y.length (fun k => (nth y k : Nat)))
theorem R1.hb {c : Int} {len : Nat} {f : Nat → Int} {v w : World} {x0 x1 q : Value} (h : R1 c len f v x0 x1 q) (hw : HB v w) : R1 c len f w x0 x1 q := by
  rcases h with h | ⟨h1, h2, y, bl, bc, lq, cq, h3, h4, h5, h6, h7, h8⟩
  · exact .inl h
  · exact .inr ⟨h1, h2, y, bl, bc, lq, cq, h3, h4, h5, hw.row h6, h7, hw.row h8⟩
theorem f_r0 (tm : Array Value) (v : World) (hs : tm.size = 39) (n : Int) (a : Option Addr) (len cap : Nat) (h0 : tm[0]? = some (.agg #[.int .i64 n, .slice a len cap])) : (atc [0] (Tryd.f3.body.getD .skip)).wp Tryd.prog (fun e s w => e = .normal ∧ s.defers = [] ∧ HB v w ∧ s.tmps.size = 39 ∧ ∃ B, s.tmps[1]? = some (.pointer (some ⟨B, 0, none⟩)) ∧ w.cell? ⟨B, 0, none⟩ = some (.int .i64 n) ∧ w.cell? ⟨B, 1, none⟩ = some (.slice a len cap)) ⟨tm, []⟩ v := by
  have HS : Hid (tm.size = 39) := hs
  have s1 : 1 < tm.size := by omega
  have s2 : 2 < tm.size := by omega
  clear hs
  simp only [Tryd.f3, Option.getD_some, atc]
  go_wp2_with fail
  exact ⟨hb_alloc _ _, HS.out⟩
theorem f_r1 (tm : Array Value) (v : World) (hs : tm.size = 39) (n : Int) (a : Option Addr) (len cap : Nat) (f : Nat → Int) (B : Nat) (hl : len ≤ maxLen) (hr : Row v a len f) (hT : Tab v) (h1 : tm[1]? = some (.pointer (some ⟨B, 0, none⟩))) (b0 : v.cell? ⟨B, 0, none⟩ = some (.int .i64 n)) (b1 : v.cell? ⟨B, 1, none⟩ = some (.slice a len cap)) : (atc [1, 0] (Tryd.f3.body.getD .skip)).wp Tryd.prog (fun e s w => e = .normal ∧ s.defers = [] ∧ HB v w ∧ s.tmps.size = 39 ∧ (∃ c q B x0 x1, s.tmps[5]? = some (.int .i64 c) ∧ s.tmps[4]? = some q ∧ s.tmps[3]? = some (.pointer (some ⟨B, 0, none⟩)) ∧ w.cell? ⟨B, 0, none⟩ = some x0 ∧ w.cell? ⟨B, 1, none⟩ = some x1 ∧ FCk n len f c ∧ R1 c len f w x0 x1 q) ∧ ∀ j, j < 3 → s.tmps[j]? = tm[j]?) ⟨tm, []⟩ v := by
  have HS : Hid (tm.size = 39) := hs
  have s3 : 3 < tm.size := by omega
  have s4 : 4 < tm.size := by omega
  have s5 : 5 < tm.size := by omega
  have s9 : 9 < tm.size := by omega
  have s10 : 10 < tm.size := by omega
  have s11 : 11 < tm.size := by omega
  have s12 : 12 < tm.size := by omega
  have s13 : 13 < tm.size := by omega
  have s14 : 14 < tm.size := by omega
  clear hs
  simp only [Tryd.f3, Option.getD_some, atc]
  have HM := (show Hid _ from form2_any n a len cap f v hl hr hT)
  clear hr hT
  go_wp2_with fail
  refine Calls.mono HM.out ?_
  rintro e w1 ⟨⟨c, hc, h⟩, hb⟩
  have HC : Hid (FCk n len f c) := hc
  have HB1 : Hid (Below v.heap.size v w1) := hb
  rcases h with ⟨h0, rfl⟩ | ⟨rfl, y, bl, bv, hy, rfl, hO, _, hbl, hbv⟩
  · have HR : Hid (∀ w, R1 c len f w (.int .i64 0) (.slice none 0 0) (.slice none 0 0)) := fun w => .inl ⟨h0, rfl, rfl, _, _, rfl⟩
    clear hc hb HM h0
    unfold noOrder
    go_wp2_with fail
    refine ⟨(below_hb HB1.out).trans (hb_alloc _ _), HS.out, ⟨HC.out, HR.out _⟩, fun j hj => ?_⟩
    repeat rw [Array.getElem?_setIfInBounds_ne (by omega)]
  · have hlen := hc.good.2.1
    obtain ⟨lq, cq, rfl, hrq⟩ := owns_nats hbv
    have HR : Hid (R1 0 len f w1 (.int .i64 (len : Nat)) (.slice (some ⟨bl, 0, none⟩) len len) (.slice lq y.length cq)) := .inr ⟨rfl, hlen, y, _, _, _, _, hy, rfl, rfl, hO.row, rfl, hrq⟩
    clear hc hb HM hO hbl hbv hrq hy
    go_wp2_with fail
    refine ⟨(below_hb HB1.out).trans (hb_alloc _ _), HS.out, ⟨HC.out, HR.out.hb (hb_alloc _ _)⟩, fun j hj => ?_⟩
    repeat rw [Array.getElem?_setIfInBounds_ne (by omega)]
theorem f_r2 (tm : Array Value) (v : World) (hs : tm.size = 39) (n : Int) (a : Option Addr) (len cap : Nat) (f : Nat → Int) (B : Nat) (hl : len ≤ maxLen) (hr : Row v a len f) (h1 : tm[1]? = some (.pointer (some ⟨B, 0, none⟩))) (b0 : v.cell? ⟨B, 0, none⟩ = some (.int .i64 n)) (b1 : v.cell? ⟨B, 1, none⟩ = some (.slice a len cap)) : (atc [1, 1, 0] (Tryd.f3.body.getD .skip)).wp Tryd.prog (fun e s w => e = .normal ∧ s.defers = [] ∧ HB v w ∧ s.tmps.size = 39 ∧ (∃ c, s.tmps[6]? = some (.int .i64 c) ∧ FCk n len f c) ∧ ∀ j, j < 6 → s.tmps[j]? = tm[j]?) ⟨tm, []⟩ v := by
  have HS : Hid (tm.size = 39) := hs
  have s6 : 6 < tm.size := by omega
  have s15 : 15 < tm.size := by omega
  have s16 : 16 < tm.size := by omega
  clear hs
  simp only [Tryd.f3, Option.getD_some, atc]
  have HC := (show Hid _ from formed_any n a len cap f v hl hr)
  clear hr
  go_wp2_with (go_at_call 10; refine Calls.mono HC.out ?_; rintro e w' ⟨⟨c, rfl, hc⟩, hb⟩)
  refine ⟨below_hb hb, HS.out, fun j hj => ?_⟩
  repeat rw [Array.getElem?_setIfInBounds_ne (by omega)]
theorem f_r3 (tm : Array Value) (v : World) (hs : tm.size = 39)  : (atc [1, 1, 1, 0] (Tryd.f3.body.getD .skip)).wp Tryd.prog (fun e s w => e = .normal ∧ s.defers = [] ∧ HB v w ∧ s.tmps.size = 39 ∧ (∃ B p c, s.tmps[7]? = some (.pointer (some ⟨B, 0, none⟩)) ∧ w.cell? ⟨B, 0, none⟩ = some (.int .i64 0) ∧ w.cell? ⟨B, 1, none⟩ = some (.slice none 0 0) ∧ v.heap.size ≤ B ∧ w.frozen? ⟨B, 0, none⟩ = false ∧ w.frozen? ⟨B, 1, none⟩ = false ∧ s.tmps[8]? = some (.slice p 0 c)) ∧ ∀ j, j < 7 → s.tmps[j]? = tm[j]?) ⟨tm, []⟩ v := by
  have HS : Hid (tm.size = 39) := hs
  have s7 : 7 < tm.size := by omega
  have s8 : 8 < tm.size := by omega
  have s17 : 17 < tm.size := by omega
  have s18 : 18 < tm.size := by omega
  clear hs
  simp only [Tryd.f3, Option.getD_some, atc]
  go_wp2_with fail
  refine ⟨(hb_alloc _ _).trans (hb_alloc _ _), HS.out, fun j hj => ?_⟩
  repeat rw [Array.getElem?_setIfInBounds_ne (by omega)]
theorem f_r4 (tm : Array Value) (v : World) (hs : tm.size = 39) (c : Int) (h6 : tm[6]? = some (.int .i64 c)) : (atc [1, 1, 1, 1, 0, 0] (Tryd.f3.body.getD .skip)).wp Tryd.prog (fun e s w => e = .normal ∧ s.defers = [] ∧ HB v w ∧ s.tmps.size = 39 ∧ s.tmps[20]? = some (.bool (c == 0)) ∧ ∀ j, j < 9 → s.tmps[j]? = tm[j]?) ⟨tm, []⟩ v := by
  have HS : Hid (tm.size = 39) := hs
  have s19 : 19 < tm.size := by omega
  have s20 : 20 < tm.size := by omega
  clear hs
  simp only [Tryd.f3, Option.getD_some, atc]
  go_wp2_with fail
  refine ⟨HB.refl _, HS.out, fun j hj => ?_⟩
  repeat rw [Array.getElem?_setIfInBounds_ne (by omega)]
set_option maxHeartbeats 1000000 in
theorem f_r5 (tm : Array Value) (v : World) (hs : tm.size = 39) (v2 : World) (hv2 : HB v2 v) (a : Option Addr) (len cap : Nat) (f : Nat → Int) (B B7 : Nat) (hB : v2.heap.size ≤ B7) (hr : Row v a len f) (hc : FCk len len f 0) (h1 : tm[1]? = some (.pointer (some ⟨B, 0, none⟩))) (b0 : v.cell? ⟨B, 0, none⟩ = some (.int .i64 (len : Nat))) (b1 : v.cell? ⟨B, 1, none⟩ = some (.slice a len cap)) (h7 : tm[7]? = some (.pointer (some ⟨B7, 0, none⟩))) (z0 : v.cell? ⟨B7, 0, none⟩ = some (.int .i64 0)) (z1 : v.cell? ⟨B7, 1, none⟩ = some (.slice none 0 0)) (y0 : v.frozen? ⟨B7, 0, none⟩ = false) (y1 : v.frozen? ⟨B7, 1, none⟩ = false) :
    (thenT (atc [1, 1, 1, 1, 0] (Tryd.f3.body.getD .skip))).wp Tryd.prog (fun e s w => e = .normal ∧ s.defers = [] ∧ HB v2 w ∧ s.tmps.size = 39 ∧ (∃ q x0 x1, s.tmps[8]? = some q ∧ w.cell? ⟨B7, 0, none⟩ = some x0 ∧ w.cell? ⟨B7, 1, none⟩ = some x1 ∧ R1 0 len f w x0 x1 q) ∧ ∀ j, j < 8 → s.tmps[j]? = tm[j]?) ⟨tm, []⟩ v := by
  have HS : Hid (tm.size = 39) := hs
  have s8 : 8 < tm.size := by omega
  have s21 : 21 < tm.size := by omega
  have s22 : 22 < tm.size := by omega
  have s23 : 23 < tm.size := by omega
  have s24 : 24 < tm.size := by omega
  have s25 : 25 < tm.size := by omega
  obtain ⟨_, h6', hck⟩ := hc.good
  obtain ⟨_, h10, hrng, hord⟩ := hck.good
  have HFO := (show Hid _ from fofR_any len a cap (nat f) v h6' (hrng.small2 h10) (hrng.row hr))
  have hBv : B7 < v.heap.size := World.block_lt_of_cell? _ _ z0
  have HZ : Hid (∀ w', Below v.heap.size v w' → (w'.cell? ⟨B7, 0, none⟩ = some (.int .i64 0) ∧ w'.cell? ⟨B7, 1, none⟩ = some (.slice none 0 0)) ∧ w'.frozen? ⟨B7, 0, none⟩ = false ∧ w'.frozen? ⟨B7, 1, none⟩ = false) := fun w' hb => ⟨⟨cell_stp hb z0, cell_stp hb z1⟩, (hb.frozen hBv).trans y0, (hb.frozen hBv).trans y1⟩
  have HV2 : Hid (HB v2 v) := hv2
  clear hck hrng hord hr hc z0 z1 y0 y1 hv2 hs
  simp only [Tryd.f3, Option.getD_some, atc, thenT]
  go_wp2_with fail
  refine Calls.mono HFO.out ?_
  rintro e w1 ⟨⟨y, bl, bc, bv, hy, rfl, hrow, hbv, hfr⟩, hb⟩
  obtain ⟨⟨z0, z1⟩, y0, y1⟩ := HZ.out w1 hb
  obtain ⟨lq, cq, rfl, hrq⟩ := owns_nats hbv
  have HYY : Hid (bst (nat f) len (per len [] (pw len - 1)) = some y) := hy
  have HRW : Hid (Row w1 bl len (fun k => (prt (nat f) y k : Nat))) := hrow
  have HRQ : Hid (Row w1 lq y.length (fun k => (nth y k : Nat))) := hrq
  have HB1 : Hid (Below v.heap.size v w1) := hb
  have HFR : Hid (Fresh (B7 + 1) bl len) := hfr.mono hBv
  have HFQ : Hid (Fresh (B7 + 1) lq y.length) := fun hp => by
    obtain ⟨g, cap', e⟩ := owns_form hbv hp
    cases e
    exact ⟨g, 0, rfl, Nat.le_trans hBv (owns_block hbv g rfl)⟩
  clear hy hrow hrq hb hbv HFO HZ hfr
  go_wp2_with fail
  refine ⟨⟨by rw [World.size_setCell, World.size_setCell]; exact Nat.le_trans HV2.out.1 HB1.out.size, fun b hb => ?_⟩, HS.out, .inr ⟨rfl, h6', y, bl, bc, lq, cq, HYY.out, rfl, rfl, row_set2 HRW.out HFR.out, rfl, row_set2 HRQ.out HFQ.out⟩, fun j hj => ?_⟩
  · have hne : b ≠ B7 := by omega
    rw [Below.heap_setCell _ _ _ _ hne, Below.heap_setCell _ _ _ _ hne]
    exact ((below_hb HB1.out).2 b (Nat.lt_of_lt_of_le hb HV2.out.1)).trans (HV2.out.2 b hb)
  · repeat rw [Array.getElem?_setIfInBounds_ne (by omega)]
theorem r1_form {c : Int} {len : Nat} {f : Nat → Int} {v : World} {x0 x1 q : Value} (h : R1 c len f v x0 x1 q) : (∃ k a n cp, x0 = .int .i64 k ∧ x1 = .slice a n cp) := by
  rcases h with ⟨_, rfl, rfl, _⟩ | ⟨_, _, _, _, _, _, _, _, rfl, rfl, _⟩
  · exact ⟨_, _, _, _, rfl, rfl⟩
  · exact ⟨_, _, _, _, rfl, rfl⟩
theorem r1_given {c : Int} {len : Nat} {f : Nat → Int} {v : World} {x0 x1 q y0 y1 q2 : Value} (hl : len ≤ maxLen) (h : R1 c len f v x0 x1 q) (h2 : R1 c len f v y0 y1 q2) :
    (Calls Tryd.prog 13 #[.agg #[x0, x1], .int .i64 c, .int .i64 c, .agg #[y0, y1]] v fun e w' => e = .returned (.bool true) ∧ Below v.heap.size v w') ∧
    (∀ w, Below v.heap.size v w → Calls Tryd.prog 14 #[q, q2] w fun e w' => e = .returned (.bool true) ∧ Below w.heap.size w w') ∧ (∃ k a n cp, x0 = .int .i64 k ∧ x1 = .slice a n cp) ∧ (∃ k a n cp, y0 = .int .i64 k ∧ y1 = .slice a n cp) := by
  refine ⟨?_, fun w hw => ?_, r1_form h, r1_form h2⟩
  · rcases h with ⟨e0, rfl, rfl, _⟩ | ⟨e0, h6, y, bl, bc, lq, cq, hy, rfl, rfl, hrow, _, _⟩
    · rcases h2 with ⟨_, rfl, rfl, _⟩ | ⟨e1, _⟩
      · exact given_any c 0 0 (fun _ => 0) _ _ v (by unfold maxLen; omega) (.inl ⟨e0, rfl⟩) (.inl (.inl ⟨e0, rfl⟩))
      · exact absurd e1 e0
    · rcases h2 with ⟨e1, _⟩ | ⟨_, _, y', bl', bc', lq', cq', hy', rfl, rfl, hrow', _, _⟩
      · exact absurd e0 e1
      · obtain rfl : y = y' := Option.some.inj (hy.symm.trans hy')
        exact given_any c len len _ _ _ v hl (.inr ⟨e0, _, _, rfl, hrow⟩) (.inl (.inr ⟨e0, _, _, rfl, hrow'⟩))
  · rcases h with ⟨e0, _, _, lq, cq, rfl⟩ | ⟨e0, h6, y, bl, bc, lq, cq, hy, _, _, _, rfl, hrq⟩
    · rcases h2 with ⟨_, _, _, lq', cq', rfl⟩ | ⟨e1, _⟩
      · refine (same_any lq lq' 0 cq 0 cq' (fun _ => 0) (fun _ => 0) w (by unfold maxLen; omega) (by unfold maxLen; omega) (fun k hk => absurd hk (Nat.not_lt_zero _)) (fun k hk => absurd hk (Nat.not_lt_zero _))).mono ?_
        rintro e w2 ⟨⟨b, rfl, hb1⟩, hb2⟩
        rw [hb1.2 ⟨rfl, fun _ _ => rfl⟩]
        exact ⟨rfl, hb2⟩
      · exact absurd e1 e0
    · rcases h2 with ⟨e1, _⟩ | ⟨_, _, y', bl', bc', lq', cq', hy', _, _, _, rfl, hrq'⟩
      · exact absurd e0 e1
      · obtain rfl : y = y' := Option.some.inj (hy.symm.trans hy')
        have hyl : y.length = len := (per_good (by omega) (bst_mem hy)).1
        refine (same_any lq lq' y.length cq y.length cq' _ _ w (by omega) (by omega) (hrq.below hw) (hrq'.below hw)).mono ?_
        rintro e w2 ⟨⟨b, rfl, hb1⟩, hb2⟩
        rw [hb1.2 ⟨rfl, fun _ _ => rfl⟩]
        exact ⟨rfl, hb2⟩
set_option maxHeartbeats 1000000 in
theorem f_t6 (tm : Array Value) (v : World) (hs : tm.size = 39) (len : Nat) (f : Nat → Int) (c : Int) (B3 B7 : Nat) (x0 x1 q y0 y1 q2 : Value) (hl : len ≤ maxLen) (h26 : tm[26]? = some (.bool true)) (h3 : tm[3]? = some (.pointer (some ⟨B3, 0, none⟩))) (h4 : tm[4]? = some q) (h5 : tm[5]? = some (.int .i64 c)) (h6 : tm[6]? = some (.int .i64 c)) (h7 : tm[7]? = some (.pointer (some ⟨B7, 0, none⟩))) (h8 : tm[8]? = some q2) (a0 : v.cell? ⟨B3, 0, none⟩ = some x0) (a1 : v.cell? ⟨B3, 1, none⟩ = some x1) (b0 : v.cell? ⟨B7, 0, none⟩ = some y0) (b1 : v.cell? ⟨B7, 1, none⟩ = some y1) (hR : R1 c len f v x0 x1 q) (hR2 : R1 c len f v y0 y1 q2) : wpList Tryd.prog (opsOf (atc [1, 1, 1, 1, 1, 0] (Tryd.f3.body.getD .skip))) (fun e s w => e = .normal ∧ s.defers = [] ∧ HB v w ∧ s.tmps[2]? = some (.bool true)) ((opsOf (atc [1, 1, 1, 1, 1, 0] (Tryd.f3.body.getD .skip))).toList.drop 1) ⟨tm, []⟩ v := by
  have HS : Hid (tm.size = 39) := hs
  have s2 : 2 < tm.size := by omega
  have s27 : 27 < tm.size := by omega
  have s28 : 28 < tm.size := by omega
  have s29 : 29 < tm.size := by omega
  have s30 : 30 < tm.size := by omega
  have s31 : 31 < tm.size := by omega
  have s32 : 32 < tm.size := by omega
  have s33 : 33 < tm.size := by omega
  have s34 : 34 < tm.size := by omega
  have s35 : 35 < tm.size := by omega
  have s36 : 36 < tm.size := by omega
  have s37 : 37 < tm.size := by omega
  have s38 : 38 < tm.size := by omega
  clear hs
  simp only [Tryd.f3, Option.getD_some, atc, opsOf, List.drop_succ_cons, List.drop_zero]
  obtain ⟨HG, HSM, hx0, hy0⟩ := r1_given hl hR hR2
  obtain ⟨lq, nq, cq, rfl⟩ : ∃ lq nq cq, q = .slice lq nq cq := by
    rcases hR with ⟨_, _, _, _, _, rfl⟩ | ⟨_, _, _, _, _, _, _, _, _, _, _, rfl, _⟩ <;> exact ⟨_, _, _, rfl⟩
  obtain ⟨lq2, nq2, cq2, rfl⟩ : ∃ lq nq cq, q2 = .slice lq nq cq := by
    rcases hR2 with ⟨_, _, _, _, _, rfl⟩ | ⟨_, _, _, _, _, _, _, _, _, _, _, rfl, _⟩ <;> exact ⟨_, _, _, rfl⟩
  obtain ⟨k0, ax, nx, cx, rfl, rfl⟩ := hx0
  obtain ⟨k1, ay, ny, cy, rfl, rfl⟩ := hy0
  have HGG := (show Hid _ from HG)
  have HSS := (show Hid _ from HSM)
  clear hR hR2 HG HSM
  go_wp2_with (first
    | (go_at_call 13; refine Calls.mono HGG.out ?_; rintro e w1 ⟨rfl, hb1⟩; have HB1 : Hid (Below v.heap.size v w1) := hb1; clear hb1)
    | (go_at_call 14; refine Calls.mono (HSS.out _ HB1.out) ?_; rintro e w2 ⟨rfl, hb2⟩))
  exact below_hb (Below.then HB1.out hb2)
end Go.Proofs.YtfbdgdphpdhcpaaDoor
namespace Go.Proofs.YtfbdgdphpdhcpaaDoor
open Go Go.Conc Go.RowKit Sm
set_option maxRecDepth 100000

section
variable {Fin : Value → World → Prop} {K : World} {k : List Item} {rc : List Frame}
set_option maxHeartbeats 2000000 in
theorem f_run {C : Code} (hC : IsF C) {n : Int} {a : Option Addr} {len cap : Nat} {f : Nat → Int} (hl : len ≤ maxLen) {r : Nat → Nat → Prop} {v : World} {tm tm' : Array Value} (hx : XR (Rg Tryd.prog afs cgs r) tm tm') (hg : ∀ g ∈ cgs, r g g) (hs : tm.size = 39) (t0 : tm[0]? = some (.agg #[.int .i64 n, .slice a len cap])) (hr : Row v a len f) (hT : Tab v) (hlow : Tryd.prog.globals.size ≤ v.heap.size) (hp0 : PureB v 0) (hp1 : PureB v 1)
    (hk : ∀ r' v' tm1 tm1', XR (Rg Tryd.prog afs cgs r') tm1 tm1' → tm1[2]? = some (.bool true) → Mc Fin K r' v' (fun _ => none) none (G (fF GF tm1' (.code .ret :: k) [] .normal) rc)) :
    Mc Fin K r v (fun _ => none) none (G (fF GF tm' (.code C :: k) [] .normal) rc) := by
  rw [gf_shape hC]
  refine mmv (mv_seq _ _) ?_
  refine mpiece gf_in (gf_ok hC (by simp)) hg hx (Q := fun s w => HB v w ∧ s.tmps.size = 39 ∧ ∃ B, s.tmps[1]? = some (.pointer (some ⟨B, 0, none⟩)) ∧ w.cell? ⟨B, 0, none⟩ = some (.int .i64 n) ∧ w.cell? ⟨B, 1, none⟩ = some (.slice a len cap)) (fun τ => ?_) fun r1 v1 tm1 tm1' hr1 hx1 hq => ?_
  · rw [hC]; exact f_r0 tm (tap τ v) hs n a len cap t0
  obtain ⟨hb1, s1, B1, p1, q10, q11⟩ := hq
  have g1 : ∀ g ∈ cgs, r1 g g := fun g h => hr1 _ _ (hg g h)
  -- Form
  refine mmv (mv_seq _ _) ?_
  refine mpiece gf_in (gf_ok hC (by simp)) g1 hx1 (Q := fun s w => HB v1 w ∧ s.tmps.size = 39 ∧ (∃ c q B x0 x1, s.tmps[5]? = some (.int .i64 c) ∧ s.tmps[4]? = some q ∧ s.tmps[3]? = some (.pointer (some ⟨B, 0, none⟩)) ∧ w.cell? ⟨B, 0, none⟩ = some x0 ∧ w.cell? ⟨B, 1, none⟩ = some x1 ∧ FCk n len f c ∧ R1 c len f w x0 x1 q) ∧ ∀ j, j < 3 → s.tmps[j]? = tm1[j]?) (fun τ => ?_) fun r2 v2 tm2 tm2' hr2 hx2 hq => ?_
  · rw [hC]; exact f_r1 tm1 (tap τ v1) s1 n a len cap f B1 hl (hb1.row hr) (hb1.tab hT) p1 q10 q11
  obtain ⟨hb2, s2, ⟨c, q, B3, x0, x1, c5, c4, c3, a0, a1, hck, hR⟩, e2⟩ := hq
  have g2 : ∀ g ∈ cgs, r2 g g := fun g h => hr2 _ _ (g1 g h)
  -- what is wrong with it
  refine mmv (mv_seq _ _) ?_
  refine mpiece gf_in (gf_ok hC (by simp)) g2 hx2 (Q := fun s w => HB v2 w ∧ s.tmps.size = 39 ∧ (∃ c, s.tmps[6]? = some (.int .i64 c) ∧ FCk n len f c) ∧ ∀ j, j < 6 → s.tmps[j]? = tm2[j]?) (fun τ => ?_) fun r3 v3 tm3 tm3' hr3 hx3 hq => ?_
  · rw [hC]; exact f_r2 tm2 (tap τ v2) s2 n a len cap f B1 hl ((hb1.trans hb2).row hr) ((e2 1 (by decide)).trans p1) (hb2.cell q10) (hb2.cell q11)
  obtain ⟨hb3, s3, ⟨c', c6, hck'⟩, e3⟩ := hq
  obtain rfl : c' = c := hck'.one hck
  have g3 : ∀ g ∈ cgs, r3 g g := fun g h => hr3 _ _ (g2 g h)
  -- the zero order
  refine mmv (mv_seq _ _) ?_
  refine mpiece gf_in (gf_ok hC (by simp)) g3 hx3 (Q := fun s w => HB v3 w ∧ s.tmps.size = 39 ∧ (∃ B p c, s.tmps[7]? = some (.pointer (some ⟨B, 0, none⟩)) ∧ w.cell? ⟨B, 0, none⟩ = some (.int .i64 0) ∧ w.cell? ⟨B, 1, none⟩ = some (.slice none 0 0) ∧ v3.heap.size ≤ B ∧ w.frozen? ⟨B, 0, none⟩ = false ∧ w.frozen? ⟨B, 1, none⟩ = false ∧ s.tmps[8]? = some (.slice p 0 c)) ∧ ∀ j, j < 7 → s.tmps[j]? = tm3[j]?) (fun τ => ?_) fun r4 v4 tm4 tm4' hr4 hx4 hq => ?_
  · rw [hC]; exact f_r3 tm3 (tap τ v3) s3
  obtain ⟨hb4, s4, ⟨B7, pz, cz, d7, z0, z1, hB7, y0, y1, d8⟩, e4⟩ := hq
  have g4 : ∀ g ∈ cgs, r4 g g := fun g h => hr4 _ _ (g3 g h)
  have k1 : tm4[1]? = some (.pointer (some ⟨B1, 0, none⟩)) := (e4 1 (by decide)).trans ((e3 1 (by decide)).trans ((e2 1 (by decide)).trans p1))
  have k3 : tm4[3]? = some (.pointer (some ⟨B3, 0, none⟩)) := (e4 3 (by decide)).trans ((e3 3 (by decide)).trans c3)
  have k4 : tm4[4]? = some q := (e4 4 (by decide)).trans ((e3 4 (by decide)).trans c4)
  have k5 : tm4[5]? = some (.int .i64 c') := (e4 5 (by decide)).trans ((e3 5 (by decide)).trans c5)
  have k6 : tm4[6]? = some (.int .i64 c') := (e4 6 (by decide)).trans c6
  have h03 : HB v v3 := (hb1.trans hb2).trans hb3
  -- no error?
  refine mmv (mv_seq _ _) ?_
  refine mmv (mv_seq _ _) ?_
  refine mpiece gf_in (gf_ok hC (by simp)) g4 hx4 (Q := fun s w => HB v4 w ∧ s.tmps.size = 39 ∧ s.tmps[20]? = some (.bool (c' == 0)) ∧ ∀ j, j < 9 → s.tmps[j]? = tm4[j]?) (fun τ => ?_) fun r5 v5 tm5 tm5' hr5 hx5 hq => ?_
  · rw [hC]; exact f_r4 tm4 (tap τ v4) s4 c' k6
  obtain ⟨hb5, s5, m20, e5⟩ := hq
  have g5 : ∀ g ∈ cgs, r5 g g := fun g h => hr5 _ _ (g4 g h)
  have h35 : HB v3 v5 := hb4.trans hb5
  refine mmv (mv_cond (b := (c' == 0)) (eval_tmp (D := []) (vr_bool hx5 m20))) ?_
  -- the rest
  have fin : ∀ r6 v6 tm6 tm6' x q2 y0' y1', XR (Rg Tryd.prog afs cgs r6) tm6 tm6' → (∀ g ∈ cgs, r6 g g) → HB v3 v6 → tm6.size = 39 → tm6[8]? = some q2 → v6.cell? ⟨B7, 0, none⟩ = some y0' → v6.cell? ⟨B7, 1, none⟩ = some y1' → R1 c' len f v6 y0' y1' q2 → (∀ j, j < 8 → tm6[j]? = tm5[j]?) → x = () →
      Mc Fin K r6 v6 (fun _ => none) none (G (fF GF tm6' (.code (.seq (atc [1, 1, 1, 1, 1, 0] C) .ret) :: k) [] .normal) rc) := by
    intro r6 v6 tm6 tm6' _ q2 y0' y1' hx6 g6 h36 s6 d8' z0' z1' hR2 e6 _
    refine mmv (mv_seq _ _) ?_
    rw [gf6_shape hC]
    refine mmv (mv_region _ _) ?_
    obtain ⟨hops, z, hB⟩ := gf6_ops hC
    rw [show List.range (opsOf (atc [1, 1, 1, 1, 1, 0] C)).size = 0 :: List.range' 1 13 by rw [z]; rfl]
    obtain ⟨o0, j1, j2, j3, j4⟩ := op_take hops 0 rfl
    have h06 := h03.trans h36
    refine begun_call j1 j2 j3 j4 hx6 g6 (h06.tab hT) (Nat.le_trans hlow h06.1) (h06.pure hp0) (h06.pure hp1) fun r7 v7 tm7' hr7 hb7 g7 hx7 T7 l7 p07 p17 => ?_
    have e6' : ∀ j, j < 8 → (tm6.setIfInBounds 26 (.bool true))[j]? = tm4[j]? := fun j hj => (set_ne (by omega) _).trans ((e6 j hj).trans (e5 j (by omega)))
    refine mtail 1 rfl (n := 13) (by rw [List.length_drop, Array.length_toList, z]) gf_in hB g7 hx7 (Q := fun s w => HB v7 w ∧ s.tmps[2]? = some (.bool true)) (fun τ => ?_) fun r8 v8 tm8 tm8' hr8 hx8 hq => ?_
    · rw [hC]
      exact f_t6 (tm6.setIfInBounds 26 (.bool true)) (tap τ v7) (by simp [s6]) len f c' B3 B7 x0 x1 q y0' y1' q2 hl (set_at (by rw [s6]; decide) _) ((e6' 3 (by decide)).trans k3) ((e6' 4 (by decide)).trans k4) ((e6' 5 (by decide)).trans k5) ((e6' 6 (by decide)).trans k6) ((e6' 7 (by decide)).trans d7) ((set_ne (by decide) _).trans d8')
        (hb7.cell (h36.cell (hb3.cell a0))) (hb7.cell (h36.cell (hb3.cell a1))) (hb7.cell z0') (hb7.cell z1') (((hR.hb hb3).hb h36).hb hb7) (hR2.hb hb7)
    exact hk r8 v8 tm8 tm8' hx8 hq.2
  by_cases e0 : c' = 0
  · subst e0
    obtain ⟨rfl, _, _⟩ := hck.good
    show Mc Fin K r5 v5 (fun _ => none) none (G (fF GF tm5' (.code (thenT (atc [1, 1, 1, 1, 0] C)) :: _) [] .normal) rc)
    have hf0 := hb5.cell z0
    have hf1 := hb5.cell z1
    have hB4 : B7 < v4.heap.size := World.block_lt_of_cell? _ _ z0
    have fz : ∀ o, v5.frozen? ⟨B7, o, none⟩ = v4.frozen? ⟨B7, o, none⟩ := fun o => by
      unfold World.frozen?
      rw [show v5.heap[B7]? = v4.heap[B7]? from hb5.2 B7 hB4]
    refine mpiece gf_in (gf5_ok hC) g5 hx5 (Q := fun s w => HB v3 w ∧ s.tmps.size = 39 ∧ (∃ q x0 x1, s.tmps[8]? = some q ∧ w.cell? ⟨B7, 0, none⟩ = some x0 ∧ w.cell? ⟨B7, 1, none⟩ = some x1 ∧ R1 0 len f w x0 x1 q) ∧ ∀ j, j < 8 → s.tmps[j]? = tm5[j]?) (fun τ => ?_) fun r6 v6 tm6 tm6' hr6 hx6 hq => ?_
    · rw [hC]
      exact f_r5 tm5 (tap τ v5) s5 v3 h35 a len cap f B1 B7 hB7 ((h03.trans h35).row hr) hck ((e5 1 (by decide)).trans k1) (h35.cell (hb3.cell (hb2.cell q10))) (h35.cell (hb3.cell (hb2.cell q11))) ((e5 7 (by decide)).trans d7) hf0 hf1 ((fz 0).trans y0) ((fz 1).trans y1)
    obtain ⟨h36, s6, ⟨q2, y0', y1', d8', z0', z1', hR2⟩, e6⟩ := hq
    exact fin r6 v6 tm6 tm6' () q2 y0' y1' hx6 (fun g h => hr6 _ _ (g5 g h)) h36 s6 d8' z0' z1' hR2 e6 rfl
  · have hne : (c' == 0) = false := by simpa using e0
    rw [hne]
    refine mmv mv_skip ?_
    exact fin r5 v5 tm5 tm5' () (.slice pz 0 cz) _ _ hx5 g5 h35 s5 ((e5 8 (by decide)).trans d8) (hb5.cell z0) (hb5.cell z1) (.inl ⟨e0, rfl, rfl, _, _, rfl⟩) (fun _ _ => rfl) rfl
end
end Go.Proofs.YtfbdgdphpdhcpaaDoor
namespace Go.Proofs.YtfbdgdphpdhcpaaDoor
open Go Go.Conc Go.RowKit Sm
set_option maxRecDepth 100000

/-- The blocks of a slice. -/
def blkA : Option Addr → List Nat
  | none => []
  | some a => [a.block]
/-- A slice that lies in cells, or nowhere. -/
def InC (W : World) (a : Option Addr) : Prop := a = none ∨ ∃ b off, a = some ⟨b, off, none⟩ ∧ ∃ c t fr, W.heap[b]? = some (.cells c t fr)
theorem InC.blk {W : World} {a : Option Addr} (h : InC W a) : ∀ b ∈ blkA a, ∃ c t fr, W.heap[b]? = some (.cells c t fr) := fun b hb => by
  rcases h with rfl | ⟨b', off, rfl, h⟩
  · cases hb
  · obtain rfl : b = b' := by simpa [blkA] using hb
    exact h
theorem seen_row {S : List Nat} {W v0 : World} {a : Option Addr} {len : Nat} {f : Nat → Int} (hs : ∀ b, b ∈ 0 :: 1 :: S → ∀ j k m, W.cell? ⟨b, j, none⟩ = some (.int k m) → v0.cell? ⟨b, j, none⟩ = some (.int k m)) (hS : ∀ b ∈ blkA a, b ∈ S) (hr : Row W a len f) : Row v0 a len f := fun k hk => by
  obtain ⟨b, off, rfl, hc⟩ := hr k hk
  exact ⟨b, off, rfl, hs b (List.mem_cons_of_mem _ (List.mem_cons_of_mem _ (hS b (by simp [blkA])))) _ _ _ hc⟩
theorem seen_tab {S : List Nat} {W v0 : World} (hs : ∀ b, b ∈ 0 :: 1 :: S → ∀ j k m, W.cell? ⟨b, j, none⟩ = some (.int k m) → v0.cell? ⟨b, j, none⟩ = some (.int k m)) (hT : Tab W) : Tab v0 := fun j hj => hs 1 (by simp) _ _ _ (hT j hj)
theorem vr_row {S : List Nat} {W : World} {a : Option Addr} {len cap : Nat} (h : InC W a) (hS : ∀ b ∈ blkA a, b ∈ S) : VR (Rg Tryd.prog afs cgs fun b b' => b = b' ∧ b ∈ 0 :: 1 :: S) (.slice a len cap) (.slice a len cap) := by
  rcases h with rfl | ⟨b, off, rfl, _⟩
  · exact VR.slice (a := none) (a' := none) trivial _ _
  · have har : AR (Rg Tryd.prog afs cgs fun b b' => b = b' ∧ b ∈ 0 :: 1 :: S) ⟨b, off, none⟩ ⟨b, off, none⟩ := ⟨⟨rfl, List.mem_cons_of_mem _ (List.mem_cons_of_mem _ (hS b (by simp [blkA])))⟩, rfl, rfl, Nat.zero_le _⟩
    exact VR.slice (a := some _) (a' := some _) har _ _
theorem vr_ord1 {S : List Nat} {W : World} {n : Int} {a : Option Addr} {len cap : Nat} (h : InC W a) (hS : ∀ b ∈ blkA a, b ∈ S) : VR (Rg Tryd.prog afs cgs fun b b' => b = b' ∧ b ∈ 0 :: 1 :: S) (.agg #[.int .i64 n, .slice a len cap]) (.agg #[.int .i64 n, .slice a len cap]) :=
  VR.agg (xr2 (VR.int _ _ _) (vr_row h hS))
theorem forms_win (W : World) (hT : Tab W) (h0 : NumB W 0) (h1 : NumB W 1) {n : Int} {a : Option Addr} {len cap : Nat} {f : Nat → Int} (hl : len ≤ maxLen) (hr : Row W a len f) (ha : InC W a) :
    Win Tryd.prog (fun y w => y = .bool true ∧ Kp W w) (solo (G (Frame.enter Tryd.prog GF #[.agg #[.int .i64 n, .slice a len cap]] .normal) []) W) #[] := by
  obtain ⟨v0, gs, hs, p0, p1, hwin⟩ := start_view W h0 h1 (blkA a) ha.blk
  have h2w : 2 ≤ W.heap.size := by
    obtain ⟨c, t, fr, h, _⟩ := h1
    have := (Array.getElem?_eq_some_iff.1 h).1
    omega
  obtain ⟨C, hC⟩ : ∃ C, IsF C := ⟨_, rfl⟩
  have hbK : Tryd.f3.body = some C := by rw [hC]; rfl
  have hen : Frame.enter Tryd.prog GF #[.agg #[.int .i64 n, .slice a len cap]] .normal = fF GF (#[.agg #[.int .i64 n, .slice a len cap]] ++ Array.replicate 38 undef) [.code C] [] .normal := by
    rw [enter_at _ Tryd.func3 hbK]
    have hsz2 : Tryd.f3.ntmps - (#[Value.agg #[.int .i64 n, .slice a len cap]]).size = 38 := by rw [Tryd.ntmps3]; rfl
    rw [hsz2]
    rfl
  rw [hen]
  refine hwin _ _ ?_
  refine f_run hC hl (xr_init1 (vr_ord1 ha fun _ h => h) 38) (fun g hg => ⟨rfl, by simp [cgs] at hg; rcases hg with rfl | rfl <;> simp⟩) (by simp) (by rw [Array.getElem?_append_left (by simp)]; rfl) (seen_row hs (fun _ h => h) hr) (seen_tab hs hT) (by rw [glob2', gs]; omega) p0 p1 fun r' v' tm1 tm1' hx1 q => ?_
  have hret := ret_one (F := Tryd.f3) (t := 2) rfl (vr_bool hx1 q)
  exact MV.last Tryd.func3 (by kernel_rfl) (fun w => (hret w).1) (fun w => (hret w).2) (fun _ => rfl) fun w hk _ => ⟨rfl, hk⟩
end Go.Proofs.YtfbdgdphpdhcpaaDoor
namespace Go.Proofs.YtfbdgdphpdhcpaaDoor
open Go.ChangeShapes Go.WideShapes Go.ChangeAt Go.RowKit Go.Joins

theorem cells24 : Tryd.prog.cellsOf 24 = 2 := by kernel_rfl
theorem cells3 : Tryd.prog.cellsOf 3 = 1 := by kernel_rfl
/-- A slice of numbers that came in is a row. -/
theorem row_of_trod {H : Type} {enc : TypeId × Value → H} {w : World} {base : Nat} {spare : Nat → Bool} {held : Bool} {fuel : Nat} {v : Value} {x : DataW H × List MemPlace}
    (h : DataW.trod enc Tryd.prog w base spare held fuel 22 [v] = some x) : ∃ a len cap f, v = .slice a len cap ∧ len ≤ maxLen ∧ Row w a len f := by
  rcases open_ints Tryd.underlying22 Tryd.underlying3 cells3 h with ⟨hcs, _⟩ | ⟨a, len, cap, zs, hcs, _, hl, hm, hz, _, hcell, _⟩
  · simp at hcs
    exact ⟨none, 0, 0, fun _ => 0, hcs, by unfold maxLen; omega, fun k hk => absurd hk (Nat.not_lt_zero _)⟩
  · simp at hcs
    refine ⟨some a, len, cap, fun k => zs.getD k 0, hcs, by omega, fun k hk => ?_⟩
    have hlen : len ≤ zs.length := by rw [hz]; split <;> omega
    have hc := hcell k (by omega)
    obtain ⟨b, off, spot⟩ := a
    have hspot : spot = none := by simpa [Addr.add] using World.cell?_spot (hcell 0 (by omega))
    subst hspot
    refine ⟨b, off, rfl, ?_⟩
    by_cases e : k = 0
    · subst e; simpa [Addr.add] using hc
    · simpa [Addr.add, e] using hc
set_option maxRecDepth 100000 in
theorem types24 : Tryd.prog.cellTypes Tryd.prog.depth 24 = some [3, 22] := by kernel_rfl
set_option maxRecDepth 100000 in
/-- An order that came in: its slice lies in cells, or nowhere. -/
theorem order_cells {W : World} {r : Reach} {base : Nat} {n : Int} {a : Option Addr} {len cap : Nat} (h : Value.okWide Tryd.prog W r base 24 (.agg #[.int .i64 n, .slice a len cap])) : InC W a := by
  unfold Value.okWide at h
  rw [Tryd.underlying24] at h
  obtain ⟨cs, e, _, hrow⟩ := h
  cases e
  obtain ⟨ts, hts, _, hc⟩ := hrow
  rw [types24] at hts
  cases hts
  obtain ⟨u, hu, hok⟩ := hc 1 (.slice a len cap) rfl
  have hu : some 22 = some u := hu
  cases hu
  exact slice_cells hok
end Go.Proofs.YtfbdgdphpdhcpaaDoor
