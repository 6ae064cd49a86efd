/-
  CanonMoves' pieces, alone. Conditions: as told.
  CanonMoves, from its start to its return; whoever is picked. Conditions: the slice reads as a slice of numbers, and lies in cells; the library's tables.
-/
import Derived.Test.YtfbdgdphpdhcpaaDoorCbH
import Derived.Test.YtfbdgdphpdhcpaaDoorMoR
import Derived.Test.YtfbdgdphpdhcpaaDoorFrameC
namespace Go.Proofs.YtfbdgdphpdhcpaaDoor
open Go Go.Conc Go.RowKit Sm
set_option maxRecDepth 100000

abbrev GM : FuncId := 5
def IsM (C : Code) : Prop := C = Tryd.f5.body.getD .skip
theorem gm_shape {C : Code} (hC : IsM C) : C = .seq (atc [0] C) (.seq (atc [1, 0] C) (.seq (atc [1, 1, 0] C) (.seq (atc [1, 1, 1, 0] C) (.seq (.seq (atc [1, 1, 1, 1, 0, 0] C) (.cond (.tmp 15) (thenT (atc [1, 1, 1, 1, 0] C)) .skip)) (.seq (atc [1, 1, 1, 1, 1, 0] C) .ret))))) := by
  rw [hC]
  kernel_rfl
abbrev gml : List (List Nat) := [[0], [1, 0], [1, 1, 0], [1, 1, 1, 0], [1, 1, 1, 1, 0, 0]]
theorem gm_item : (gml.all fun l => itemB Tryd.prog afs cgs (.code (atc l (Tryd.f5.body.getD .skip)))) = true := by kernel_rfl
theorem gm_ok {C : Code} (hC : IsM C) {l : List Nat} (h : l ∈ gml) : itemB Tryd.prog afs cgs (.code (atc l C)) = true := by
  rw [hC]
  exact List.all_eq_true.1 gm_item l h
theorem gm5_ok {C : Code} (hC : IsM C) : itemB Tryd.prog afs cgs (.code (thenT (atc [1, 1, 1, 1, 0] C))) = true := by
  rw [hC]
  kernel_rfl
theorem gm_in : ∃ f, Tryd.prog.funcs[GM]? = some f := ⟨_, Tryd.func5⟩
theorem gm6_shape {C : Code} (hC : IsM C) : atc [1, 1, 1, 1, 1, 0] C = .region 6 (opsOf (atc [1, 1, 1, 1, 1, 0] C)) false := by
  rw [hC]
  kernel_rfl
theorem gm6_ops {C : Code} (hC : IsM C) : (((opsOf (atc [1, 1, 1, 1, 1, 0] C)).map fun o => (o.dst, o.op, o.guard)).toList.take 1) = [(some 18, .call { callee := .value (.func GB), args := #[], argTypes := #[] }, none)] ∧ (opsOf (atc [1, 1, 1, 1, 1, 0] C)).size = 9 ∧ itemB Tryd.prog afs cgs (.inRegion (opsOf (atc [1, 1, 1, 1, 1, 0] C)) (List.range' 1 8)) = true := by
  rw [hC]
  exact ⟨by kernel_rfl, by kernel_rfl, by kernel_rfl⟩
theorem HB.src {v w : World} (h : HB v w) {x : Value} {y : List Nat} (hs : Src2 v x y) : Src2 w x y := hs.imp id fun ⟨b, c, e, hc⟩ => ⟨b, c, e, fun j u hj => h.cell (hc j u hj)⟩
theorem HB.lrd {v w : World} (h : HB v w) {a : Option Addr} {ys : List (List Nat)} (hr : LRd v a ys) : LRd w a ys := fun i y hy => by
  obtain ⟨g, x, e, hc, hs⟩ := hr i y hy
  exact ⟨g, x, e, h.cell hc, h.src hs⟩
abbrev mvs (f : Nat → Int) (len : Nat) : List (List Nat) := mvL (nat f) len (per len [] (pw len - 1))
theorem mvs_le {f : Nat → Int} {len : Nat} (h : len ≤ 6) : (mvs f len).length ≤ maxLen ∧ ∀ y ∈ mvs f len, y.length ≤ maxLen := by
  have h1 : (mvs f len).length ≤ (per len [] (pw len - 1)).length := List.length_filter_le _ _
  have h2 := per_bound h
  refine ⟨by unfold maxLen; omega, fun y hy => ?_⟩
  have := (per_good (n := len) (by omega) (List.mem_filter.1 hy).1).1
  unfold maxLen
  omega
/-- What Moves, or the reference, has handed back. -/
def M1 (c : Int) (len : Nat) (f : Nat → Int) (v : World) (q : Value) : Prop :=
  (c ≠ 0 ∧ q = .slice none 0 0) ∨ (c = 0 ∧ len ≤ 6 ∧ ∃ z cz, q = .slice z (mvs f len).length cz ∧ LRd v z (mvs f len))
theorem M1.hb {c : Int} {len : Nat} {f : Nat → Int} {v w : World} {q : Value} (h : M1 c len f v q) (hw : HB v w) : M1 c len f w q :=
  h.imp id fun ⟨h1, h2, z, cz, e, hr⟩ => ⟨h1, h2, z, cz, e, hw.lrd hr⟩
theorem m1_lists {c : Int} {len : Nat} {f : Nat → Int} {v : World} {q q2 : Value} (h : M1 c len f v q) (h2 : M1 c len f v q2) : Calls Tryd.prog 21 #[q, .int .i64 c, .int .i64 c, q2] v fun e w' => e = .returned (.bool true) ∧ Below v.heap.size v w' := by
  rcases h with ⟨e0, rfl⟩ | ⟨e0, h6, z, cz, rfl, hr⟩
  · rcases h2 with ⟨_, rfl⟩ | ⟨e1, _⟩
    · exact listsAre_no c v e0
    · exact absurd e1 e0
  · rcases h2 with ⟨e1, _⟩ | ⟨_, _, z', cz', rfl, hr'⟩
    · exact absurd e0 e1
    · rw [e0]
      exact lists_same z z' cz cz' _ v (mvs_le h6).1 (mvs_le h6).2 hr hr'
theorem m_r0 (tm : Array Value) (v : World) (hs : tm.size = 26) (n : Int) (a : Option Addr) (len cap : Nat) (h0 : tm[0]? = some (.agg #[.int .i64 n, .slice a len cap])) : (atc [0] (Tryd.f5.body.getD .skip)).wp Tryd.prog (fun e s w => e = .normal ∧ s.defers = [] ∧ HB v w ∧ s.tmps.size = 26 ∧ ∃ B, s.tmps[1]? = some (.pointer (some ⟨B, 0, none⟩)) ∧ w.cell? ⟨B, 0, none⟩ = some (.int .i64 n) ∧ w.cell? ⟨B, 1, none⟩ = some (.slice a len cap)) ⟨tm, []⟩ v := by
  have HS : Hid (tm.size = 26) := hs
  have s1 : 1 < tm.size := by omega
  have s2 : 2 < tm.size := by omega
  clear hs
  simp only [Tryd.f5, Option.getD_some, atc]
  go_wp2_with fail
  exact ⟨hb_alloc _ _, HS.out⟩
theorem m_r1 (tm : Array Value) (v : World) (hs : tm.size = 26) (n : Int) (a : Option Addr) (len cap : Nat) (f : Nat → Int) (B : Nat) (hl : len ≤ maxLen) (hr : Row v a len f) (hT : Tab v) (h1 : tm[1]? = some (.pointer (some ⟨B, 0, none⟩))) (b0 : v.cell? ⟨B, 0, none⟩ = some (.int .i64 n)) (b1 : v.cell? ⟨B, 1, none⟩ = some (.slice a len cap)) : (atc [1, 0] (Tryd.f5.body.getD .skip)).wp Tryd.prog (fun e s w => e = .normal ∧ s.defers = [] ∧ HB v w ∧ s.tmps.size = 26 ∧ (∃ c q, s.tmps[4]? = some (.int .i64 c) ∧ s.tmps[3]? = some q ∧ FCk n len f c ∧ M1 c len f w q) ∧ ∀ j, j < 3 → s.tmps[j]? = tm[j]?) ⟨tm, []⟩ v := by
  have HS : Hid (tm.size = 26) := hs
  have s3 : 3 < tm.size := by omega
  have s4 : 4 < tm.size := by omega
  have s7 : 7 < tm.size := by omega
  have s8 : 8 < tm.size := by omega
  have s9 : 9 < tm.size := by omega
  have s10 : 10 < tm.size := by omega
  have s11 : 11 < tm.size := by omega
  clear hs
  simp only [Tryd.f5, Option.getD_some, atc]
  have HM := (show Hid _ from moves_any n a len cap f v hl hr hT)
  clear hr hT
  go_wp2_with fail
  refine Calls.mono HM.out ?_
  rintro e w1 ⟨⟨c, hc, h⟩, hb⟩
  have HC : Hid (FCk n len f c) := hc
  have HB1 : Hid (Below v.heap.size v w1) := hb
  rcases h with ⟨h0, rfl⟩ | ⟨rfl, z, rfl, hz⟩
  · have HR : Hid (M1 c len f w1 (.slice none 0 0)) := .inl ⟨h0, rfl⟩
    clear hc hb HM h0
    go_wp2_with fail
    refine ⟨below_hb HB1.out, HS.out, ⟨HC.out, HR.out⟩, fun j hj => ?_⟩
    repeat rw [Array.getElem?_setIfInBounds_ne (by omega)]
  · have hlen := hc.good.2.1
    obtain ⟨az, cz, rfl, hrd⟩ := hz.rd
    have HR : Hid (M1 0 len f w1 (.slice az (mvs f len).length cz)) := .inr ⟨rfl, hlen, _, _, rfl, hrd⟩
    clear hc hb HM hz hrd
    go_wp2_with fail
    refine ⟨below_hb HB1.out, HS.out, ⟨HC.out, HR.out⟩, fun j hj => ?_⟩
    repeat rw [Array.getElem?_setIfInBounds_ne (by omega)]
theorem m_r2 (tm : Array Value) (v : World) (hs : tm.size = 26) (n : Int) (a : Option Addr) (len cap : Nat) (f : Nat → Int) (B : Nat) (hl : len ≤ maxLen) (hr : Row v a len f) (h1 : tm[1]? = some (.pointer (some ⟨B, 0, none⟩))) (b0 : v.cell? ⟨B, 0, none⟩ = some (.int .i64 n)) (b1 : v.cell? ⟨B, 1, none⟩ = some (.slice a len cap)) : (atc [1, 1, 0] (Tryd.f5.body.getD .skip)).wp Tryd.prog (fun e s w => e = .normal ∧ s.defers = [] ∧ HB v w ∧ s.tmps.size = 26 ∧ (∃ c, s.tmps[5]? = some (.int .i64 c) ∧ FCk n len f c) ∧ ∀ j, j < 5 → s.tmps[j]? = tm[j]?) ⟨tm, []⟩ v := by
  have HS : Hid (tm.size = 26) := hs
  have s5 : 5 < tm.size := by omega
  have s12 : 12 < tm.size := by omega
  have s13 : 13 < tm.size := by omega
  clear hs
  simp only [Tryd.f5, Option.getD_some, atc]
  have HC := (show Hid _ from formed_any n a len cap f v hl hr)
  clear hr
  go_wp2_with (go_at_call 10; refine Calls.mono HC.out ?_; rintro e w' ⟨⟨c, rfl, hc⟩, hb⟩)
  refine ⟨below_hb hb, HS.out, fun j hj => ?_⟩
  repeat rw [Array.getElem?_setIfInBounds_ne (by omega)]
theorem m_r3 (tm : Array Value) (v : World) (hs : tm.size = 26)  : (atc [1, 1, 1, 0] (Tryd.f5.body.getD .skip)).wp Tryd.prog (fun e s w => e = .normal ∧ s.defers = [] ∧ HB v w ∧ s.tmps.size = 26 ∧ s.tmps[6]? = some (.slice none 0 0) ∧ ∀ j, j < 6 → s.tmps[j]? = tm[j]?) ⟨tm, []⟩ v := by
  have HS : Hid (tm.size = 26) := hs
  have s6 : 6 < tm.size := by omega
  clear hs
  simp only [Tryd.f5, Option.getD_some, atc]
  go_wp2_with fail
  refine ⟨HB.refl _, HS.out, fun j hj => ?_⟩
  repeat rw [Array.getElem?_setIfInBounds_ne (by omega)]
theorem m_r4 (tm : Array Value) (v : World) (hs : tm.size = 26) (c : Int) (h5 : tm[5]? = some (.int .i64 c)) : (atc [1, 1, 1, 1, 0, 0] (Tryd.f5.body.getD .skip)).wp Tryd.prog (fun e s w => e = .normal ∧ s.defers = [] ∧ HB v w ∧ s.tmps.size = 26 ∧ s.tmps[15]? = some (.bool (c == 0)) ∧ ∀ j, j < 9 → s.tmps[j]? = tm[j]?) ⟨tm, []⟩ v := by
  have HS : Hid (tm.size = 26) := hs
  have s14 : 14 < tm.size := by omega
  have s15 : 15 < tm.size := by omega
  clear hs
  simp only [Tryd.f5, Option.getD_some, atc]
  go_wp2_with fail
  refine ⟨HB.refl _, HS.out, fun j hj => ?_⟩
  repeat rw [Array.getElem?_setIfInBounds_ne (by omega)]
theorem m_r5 (tm : Array Value) (v : World) (hs : tm.size = 26) (a : Option Addr) (len cap : Nat) (f : Nat → Int) (B : Nat) (hr : Row v a len f) (hc : FCk len len f 0) (h1 : tm[1]? = some (.pointer (some ⟨B, 0, none⟩))) (b0 : v.cell? ⟨B, 0, none⟩ = some (.int .i64 (len : Nat))) (b1 : v.cell? ⟨B, 1, none⟩ = some (.slice a len cap)) :
    (thenT (atc [1, 1, 1, 1, 0] (Tryd.f5.body.getD .skip))).wp Tryd.prog (fun e s w => e = .normal ∧ s.defers = [] ∧ HB v w ∧ s.tmps.size = 26 ∧ (∃ q, s.tmps[6]? = some q ∧ M1 0 len f w q) ∧ ∀ j, j < 6 → s.tmps[j]? = tm[j]?) ⟨tm, []⟩ v := by
  have HS : Hid (tm.size = 26) := hs
  have s6 : 6 < tm.size := by omega
  have s16 : 16 < tm.size := by omega
  have s17 : 17 < tm.size := by omega
  obtain ⟨_, h6', hck⟩ := hc.good
  obtain ⟨_, h10, hrng, hord⟩ := hck.good
  have HMO := (show Hid _ from movesR_any len a cap (nat f) v h6' (hrng.small2 h10) (hrng.row hr))
  clear hck hrng hord hr hc hs
  simp only [Tryd.f5, Option.getD_some, atc, thenT]
  go_wp2_with fail
  refine Calls.mono HMO.out ?_
  rintro e w1 ⟨⟨z, cz, rfl, hrd⟩, hb⟩
  have HR : Hid (M1 0 len f w1 (.slice z (mvs f len).length cz)) := .inr ⟨rfl, h6', _, _, rfl, hrd⟩
  have HB1 : Hid (Below v.heap.size v w1) := hb
  clear hrd hb HMO
  go_wp2_with fail
  refine ⟨below_hb HB1.out, HS.out, HR.out, fun j hj => ?_⟩
  repeat rw [Array.getElem?_setIfInBounds_ne (by omega)]
theorem m_t6 (tm : Array Value) (v : World) (hs : tm.size = 26) (len : Nat) (f : Nat → Int) (c : Int) (q q2 : Value) (h18 : tm[18]? = some (.bool true)) (h3 : tm[3]? = some q) (h4 : tm[4]? = some (.int .i64 c)) (h5 : tm[5]? = some (.int .i64 c)) (h6 : tm[6]? = some q2) (hR : M1 c len f v q) (hR2 : M1 c len f v q2) : wpList Tryd.prog (opsOf (atc [1, 1, 1, 1, 1, 0] (Tryd.f5.body.getD .skip))) (fun e s w => e = .normal ∧ s.defers = [] ∧ HB v w ∧ s.tmps[2]? = some (.bool true)) ((opsOf (atc [1, 1, 1, 1, 1, 0] (Tryd.f5.body.getD .skip))).toList.drop 1) ⟨tm, []⟩ v := by
  have HS : Hid (tm.size = 26) := hs
  have s2 : 2 < tm.size := by omega
  have s19 : 19 < tm.size := by omega
  have s20 : 20 < tm.size := by omega
  have s21 : 21 < tm.size := by omega
  have s22 : 22 < tm.size := by omega
  have s23 : 23 < tm.size := by omega
  have s24 : 24 < tm.size := by omega
  have s25 : 25 < tm.size := by omega
  clear hs
  simp only [Tryd.f5, Option.getD_some, atc, opsOf, List.drop_succ_cons, List.drop_zero]
  have HG := (show Hid _ from m1_lists hR hR2)
  clear hR hR2
  go_wp2_with (go_at_call 21; refine Calls.mono HG.out ?_; rintro e w1 ⟨rfl, hb1⟩)
  exact below_hb hb1
end Go.Proofs.YtfbdgdphpdhcpaaDoor
namespace Go.Proofs.YtfbdgdphpdhcpaaDoor
open Go Go.Conc Go.RowKit Sm
set_option maxRecDepth 100000

section
variable {Fin : Value → World → Prop} {K : World} {k : List Item} {rc : List Frame}
set_option maxHeartbeats 2000000 in
theorem m_run {C : Code} (hC : IsM C) {n : Int} {a : Option Addr} {len cap : Nat} {f : Nat → Int} (hl : len ≤ maxLen) {r : Nat → Nat → Prop} {v : World} {tm tm' : Array Value} (hx : XR (Rg Tryd.prog afs cgs r) tm tm') (hg : ∀ g ∈ cgs, r g g) (hs : tm.size = 26) (t0 : tm[0]? = some (.agg #[.int .i64 n, .slice a len cap])) (hr : Row v a len f) (hT : Tab v) (hlow : Tryd.prog.globals.size ≤ v.heap.size) (hp0 : PureB v 0) (hp1 : PureB v 1)
    (hk : ∀ r' v' tm1 tm1', XR (Rg Tryd.prog afs cgs r') tm1 tm1' → tm1[2]? = some (.bool true) → Mc Fin K r' v' (fun _ => none) none (G (fF GM tm1' (.code .ret :: k) [] .normal) rc)) :
    Mc Fin K r v (fun _ => none) none (G (fF GM tm' (.code C :: k) [] .normal) rc) := by
  rw [gm_shape hC]
  refine mmv (mv_seq _ _) ?_
  refine mpiece gm_in (gm_ok hC (by simp)) hg hx (Q := fun s w => HB v w ∧ s.tmps.size = 26 ∧ ∃ B, s.tmps[1]? = some (.pointer (some ⟨B, 0, none⟩)) ∧ w.cell? ⟨B, 0, none⟩ = some (.int .i64 n) ∧ w.cell? ⟨B, 1, none⟩ = some (.slice a len cap)) (fun τ => ?_) fun r1 v1 tm1 tm1' hr1 hx1 hq => ?_
  · rw [hC]; exact m_r0 tm (tap τ v) hs n a len cap t0
  obtain ⟨hb1, s1, B1, p1, q10, q11⟩ := hq
  have g1 : ∀ g ∈ cgs, r1 g g := fun g h => hr1 _ _ (hg g h)
  refine mmv (mv_seq _ _) ?_
  refine mpiece gm_in (gm_ok hC (by simp)) g1 hx1 (Q := fun s w => HB v1 w ∧ s.tmps.size = 26 ∧ (∃ c q, s.tmps[4]? = some (.int .i64 c) ∧ s.tmps[3]? = some q ∧ FCk n len f c ∧ M1 c len f w q) ∧ ∀ j, j < 3 → s.tmps[j]? = tm1[j]?) (fun τ => ?_) fun r2 v2 tm2 tm2' hr2 hx2 hq => ?_
  · rw [hC]; exact m_r1 tm1 (tap τ v1) s1 n a len cap f B1 hl (hb1.row hr) (hb1.tab hT) p1 q10 q11
  obtain ⟨hb2, s2, ⟨c, q, c4, c3, hck, hR⟩, e2⟩ := hq
  have g2 : ∀ g ∈ cgs, r2 g g := fun g h => hr2 _ _ (g1 g h)
  refine mmv (mv_seq _ _) ?_
  refine mpiece gm_in (gm_ok hC (by simp)) g2 hx2 (Q := fun s w => HB v2 w ∧ s.tmps.size = 26 ∧ (∃ c, s.tmps[5]? = some (.int .i64 c) ∧ FCk n len f c) ∧ ∀ j, j < 5 → s.tmps[j]? = tm2[j]?) (fun τ => ?_) fun r3 v3 tm3 tm3' hr3 hx3 hq => ?_
  · rw [hC]; exact m_r2 tm2 (tap τ v2) s2 n a len cap f B1 hl ((hb1.trans hb2).row hr) ((e2 1 (by decide)).trans p1) (hb2.cell q10) (hb2.cell q11)
  obtain ⟨hb3, s3, ⟨c', c5, hck'⟩, e3⟩ := hq
  obtain rfl : c' = c := hck'.one hck
  have g3 : ∀ g ∈ cgs, r3 g g := fun g h => hr3 _ _ (g2 g h)
  refine mmv (mv_seq _ _) ?_
  refine mpiece gm_in (gm_ok hC (by simp)) g3 hx3 (Q := fun s w => HB v3 w ∧ s.tmps.size = 26 ∧ s.tmps[6]? = some (.slice none 0 0) ∧ ∀ j, j < 6 → s.tmps[j]? = tm3[j]?) (fun τ => ?_) fun r4 v4 tm4 tm4' hr4 hx4 hq => ?_
  · rw [hC]; exact m_r3 tm3 (tap τ v3) s3
  obtain ⟨hb4, s4, d6, e4⟩ := hq
  have g4 : ∀ g ∈ cgs, r4 g g := fun g h => hr4 _ _ (g3 g h)
  have k1 : tm4[1]? = some (.pointer (some ⟨B1, 0, none⟩)) := (e4 1 (by decide)).trans ((e3 1 (by decide)).trans ((e2 1 (by decide)).trans p1))
  have k3 : tm4[3]? = some q := (e4 3 (by decide)).trans ((e3 3 (by decide)).trans c3)
  have k4 : tm4[4]? = some (.int .i64 c') := (e4 4 (by decide)).trans ((e3 4 (by decide)).trans c4)
  have k5 : tm4[5]? = some (.int .i64 c') := (e4 5 (by decide)).trans c5
  have h04 : HB v v4 := ((hb1.trans hb2).trans hb3).trans hb4
  refine mmv (mv_seq _ _) ?_
  refine mmv (mv_seq _ _) ?_
  refine mpiece gm_in (gm_ok hC (by simp)) g4 hx4 (Q := fun s w => HB v4 w ∧ s.tmps.size = 26 ∧ s.tmps[15]? = some (.bool (c' == 0)) ∧ ∀ j, j < 9 → s.tmps[j]? = tm4[j]?) (fun τ => ?_) fun r5 v5 tm5 tm5' hr5 hx5 hq => ?_
  · rw [hC]; exact m_r4 tm4 (tap τ v4) s4 c' k5
  obtain ⟨hb5, s5, m15, e5⟩ := hq
  have g5 : ∀ g ∈ cgs, r5 g g := fun g h => hr5 _ _ (g4 g h)
  have h05 := h04.trans hb5
  have hR5 : M1 c' len f v5 q := ((hR.hb hb3).hb hb4).hb hb5
  refine mmv (mv_cond (b := (c' == 0)) (eval_tmp (D := []) (vr_bool hx5 m15))) ?_
  have fin : ∀ r6 v6 tm6 tm6' q2, XR (Rg Tryd.prog afs cgs r6) tm6 tm6' → (∀ g ∈ cgs, r6 g g) → HB v5 v6 → tm6.size = 26 → tm6[6]? = some q2 → M1 c' len f v6 q2 → (∀ j, j < 6 → tm6[j]? = tm5[j]?) →
      Mc Fin K r6 v6 (fun _ => none) none (G (fF GM tm6' (.code (.seq (atc [1, 1, 1, 1, 1, 0] C) .ret) :: k) [] .normal) rc) := by
    intro r6 v6 tm6 tm6' q2 hx6 g6 h56 s6 d6' hR2 e6
    refine mmv (mv_seq _ _) ?_
    rw [gm6_shape hC]
    refine mmv (mv_region _ _) ?_
    obtain ⟨hops, z, hB⟩ := gm6_ops hC
    rw [show List.range (opsOf (atc [1, 1, 1, 1, 1, 0] C)).size = 0 :: List.range' 1 8 by rw [z]; rfl]
    obtain ⟨o0, j1, j2, j3, j4⟩ := op_take hops 0 rfl
    have h06 := h05.trans h56
    refine begun_call j1 j2 j3 j4 hx6 g6 (h06.tab hT) (Nat.le_trans hlow h06.1) (h06.pure hp0) (h06.pure hp1) fun r7 v7 tm7' hr7 hb7 g7 hx7 T7 l7 p07 p17 => ?_
    have e6' : ∀ j, j < 6 → (tm6.setIfInBounds 18 (.bool true))[j]? = tm4[j]? := fun j hj => (set_ne (by omega) _).trans ((e6 j hj).trans (e5 j (by omega)))
    refine mtail 1 rfl (n := 8) (by rw [List.length_drop, Array.length_toList, z]) gm_in hB g7 hx7 (Q := fun s w => HB v7 w ∧ s.tmps[2]? = some (.bool true)) (fun τ => ?_) fun r8 v8 tm8 tm8' hr8 hx8 hq => ?_
    · rw [hC]
      exact m_t6 (tm6.setIfInBounds 18 (.bool true)) (tap τ v7) (by simp [s6]) len f c' q q2 (set_at (by rw [s6]; decide) _) ((e6' 3 (by decide)).trans k3) ((e6' 4 (by decide)).trans k4) ((e6' 5 (by decide)).trans k5) ((set_ne (by decide) _).trans d6') ((hR5.hb h56).hb hb7) (hR2.hb hb7)
    exact hk r8 v8 tm8 tm8' hx8 hq.2
  by_cases e0 : c' = 0
  · subst e0
    obtain ⟨rfl, _, _⟩ := hck.good
    show Mc Fin K r5 v5 (fun _ => none) none (G (fF GM tm5' (.code (thenT (atc [1, 1, 1, 1, 0] C)) :: _) [] .normal) rc)
    refine mpiece gm_in (gm5_ok hC) g5 hx5 (Q := fun s w => HB v5 w ∧ s.tmps.size = 26 ∧ (∃ q, s.tmps[6]? = some q ∧ M1 0 len f w q) ∧ ∀ j, j < 6 → s.tmps[j]? = tm5[j]?) (fun τ => ?_) fun r6 v6 tm6 tm6' hr6 hx6 hq => ?_
    · rw [hC]
      exact m_r5 tm5 (tap τ v5) s5 a len cap f B1 (h05.row hr) hck ((e5 1 (by decide)).trans k1) (hb5.cell (hb4.cell (hb3.cell (hb2.cell q10)))) (hb5.cell (hb4.cell (hb3.cell (hb2.cell q11))))
    obtain ⟨h56, s6, ⟨q2, d6', hR2⟩, e6⟩ := hq
    exact fin r6 v6 tm6 tm6' q2 hx6 (fun g h => hr6 _ _ (g5 g h)) h56 s6 d6' hR2 e6
  · have hne : (c' == 0) = false := by simpa using e0
    rw [hne]
    refine mmv mv_skip ?_
    exact fin r5 v5 tm5 tm5' (.slice none 0 0) hx5 g5 (HB.refl _) s5 ((e5 6 (by decide)).trans d6) (.inl ⟨e0, rfl⟩) (fun _ _ => rfl)
end
theorem moves_win (W : World) (hT : Tab W) (h0 : NumB W 0) (h1 : NumB W 1) {n : Int} {a : Option Addr} {len cap : Nat} {f : Nat → Int} (hl : len ≤ maxLen) (hr : Row W a len f) (ha : InC W a) :
    Win Tryd.prog (fun y w => y = .bool true ∧ Kp W w) (solo (G (Frame.enter Tryd.prog GM #[.agg #[.int .i64 n, .slice a len cap]] .normal) []) W) #[] := by
  obtain ⟨v0, gs, hs, p0, p1, hwin⟩ := start_view W h0 h1 (blkA a) ha.blk
  have h2w : 2 ≤ W.heap.size := by
    obtain ⟨c, t, fr, h, _⟩ := h1
    have := (Array.getElem?_eq_some_iff.1 h).1
    omega
  obtain ⟨C, hC⟩ : ∃ C, IsM C := ⟨_, rfl⟩
  have hbK : Tryd.f5.body = some C := by rw [hC]; rfl
  have hen : Frame.enter Tryd.prog GM #[.agg #[.int .i64 n, .slice a len cap]] .normal = fF GM (#[.agg #[.int .i64 n, .slice a len cap]] ++ Array.replicate 25 undef) [.code C] [] .normal := by
    rw [enter_at _ Tryd.func5 hbK]
    have hsz2 : Tryd.f5.ntmps - (#[Value.agg #[.int .i64 n, .slice a len cap]]).size = 25 := by rw [Tryd.ntmps5]; rfl
    rw [hsz2]
    rfl
  rw [hen]
  refine hwin _ _ ?_
  refine m_run hC hl (xr_init1 (vr_ord1 ha fun _ h => h) 25) (fun g hg => ⟨rfl, by simp [cgs] at hg; rcases hg with rfl | rfl <;> simp⟩) (by simp) (by rw [Array.getElem?_append_left (by simp)]; rfl) (seen_row hs (fun _ h => h) hr) (seen_tab hs hT) (by rw [glob2', gs]; omega) p0 p1 fun r' v' tm1 tm1' hx1 q => ?_
  have hret := ret_one (F := Tryd.f5) (t := 2) rfl (vr_bool hx1 q)
  exact MV.last Tryd.func5 (by kernel_rfl) (fun w => (hret w).1) (fun w => (hret w).2) (fun _ => rfl) fun w hk _ => ⟨rfl, hk⟩
end Go.Proofs.YtfbdgdphpdhcpaaDoor
