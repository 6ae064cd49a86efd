/-
  canonBegun, from its start to its return. No condition but the library's table.
  CanonCounts' pieces, alone. Conditions: as told.
-/
import Derived.Test.YtfbdgdphpdhcpaaDoorMvA
import Derived.Test.YtfbdgdphpdhcpaaDoorMvB
namespace Go.Proofs.YtfbdgdphpdhcpaaDoor
open Go Go.Conc Go.RowKit Sm
set_option maxRecDepth 100000

abbrev GB : FuncId := 12
def IsB (C : Code) : Prop := C = Tryd.f12.body.getD .skip
theorem gb_shape {C : Code} (hC : IsB C) : C = .seq (atc [0] C) (.seq (atc [1, 0] C) (.seq (atc [1, 1, 0] C) (.seq (atc [1, 1, 1, 0] C) .ret))) := by
  rw [hC]
  kernel_rfl
abbrev gbl : List (List Nat) := [[0], [1, 1, 0], [1, 1, 1, 0]]
theorem gb_item : (gbl.all fun l => itemB Tryd.prog afs cgs (.code (atc l (Tryd.f12.body.getD .skip)))) = true := by kernel_rfl
theorem gb_ok {C : Code} (hC : IsB C) {l : List Nat} (h : l ∈ gbl) : itemB Tryd.prog afs cgs (.code (atc l C)) = true := by
  rw [hC]
  exact List.all_eq_true.1 gb_item l h
theorem gb_in : ∃ f, Tryd.prog.funcs[GB]? = some f := ⟨_, Tryd.func12⟩
theorem gb1_shape {C : Code} (hC : IsB C) : atc [1, 0] C = .region 1 (opsOf (atc [1, 0] C)) false := by
  rw [hC]
  kernel_rfl
theorem gb1_ops {C : Code} (hC : IsB C) : ((opsOf (atc [1, 0] C)).map fun o => (o.dst, o.op, o.guard)).toList = [(some 6, .call { callee := .value (.func GA), args := #[.const (.int .i64 3)], argTypes := #[3] }, none), (some 5, .move (.tmp 6), none), (some 7, .extract (.tmp 5) 0, none), (some 8, .extract (.tmp 5) 1, none), (some 1, .assign (.tmp 7), none), (some 2, .assign (.tmp 8), none)] := by
  rw [hC]
  kernel_rfl
theorem below_hb {v w : World} (h : Below v.heap.size v w) : HB v w := ⟨h.size, h.block⟩
theorem moves_two (b : Nat) (fr : Nat × Nat) (w : World) (h : w.heap[b]? = some (.cells #[.int .i64 0, .int .i64 0] 3 fr)) (hT : Tab w) :
    Calls Tryd.prog 19 #[.agg #[.int .i64 2, .slice (some ⟨b, 0, none⟩) 2 2]] w fun e w' => (∃ q cap, e = .returned (.tuple #[.slice q 2 cap, .int .i64 0])) ∧ HB w w' := by
  have hr : Row w (some ⟨b, 0, none⟩) 2 (fun _ => 0) := fun k hk => ⟨b, 0, rfl, by
    unfold World.cell?
    rw [h]
    match k, hk with
    | 0, _ => rfl
    | 1, _ => rfl⟩
  refine (moves_any 2 (some ⟨b, 0, none⟩) 2 2 (fun _ => 0) w (by decide) hr hT).mono ?_
  rintro e w' ⟨⟨c, hc, hp⟩, hb⟩
  have hf : FOk [0, 0] := fok_of (by decide)
  have h0 : FCk 2 2 (fun _ => 0) 0 := by
    refine ⟨0, ?_, by decide⟩
    have h1 := hf.2.2
    refine .inr ⟨2, rfl, by decide, .inr ⟨rfl, .inr ⟨fun k hk => by simp [pw], .inr ⟨rfl, fun u hu => ?_⟩⟩⟩⟩
    exact ⟨by simp [nat], fun p hp hb => by simp [nat] at hb⟩
  have ec : c = 0 := hc.one h0
  rcases hp with ⟨h1, _⟩ | ⟨_, z, rfl, vs, hz, _⟩
  · exact absurd ec h1
  · have hl : (mvL (nat fun _ => 0) 2 (per 2 [] (pw 2 - 1))).length = 2 := by
      show (mvL (fun _ => 0) 2 (per 2 [] (pw 2 - 1))).length = 2
      decide +kernel
    rw [hl] at hz
    obtain ⟨g, cap, rfl⟩ := owns_form hz (by decide)
    subst ec
    exact ⟨⟨_, cap, rfl⟩, below_hb hb⟩
theorem gb_r0 (tm : Array Value) (v : World) : (atc [0] (Tryd.f12.body.getD .skip)).wp Tryd.prog (fun e s w => e = .normal ∧ s.defers = [] ∧ HB v w ∧ s.tmps = tm.setIfInBounds 0 (.bool false)) ⟨tm, []⟩ v := by
  simp only [Tryd.f12, Option.getD_some, atc]
  go_wp2_with fail
  exact HB.refl _
theorem gb_r2 (tm : Array Value) (v : World) (hs : tm.size = 31) (hT : Tab v) : (atc [1, 1, 0] (Tryd.f12.body.getD .skip)).wp Tryd.prog (fun e s w => e = .normal ∧ s.defers = [] ∧ HB v w ∧ s.tmps.size = 31 ∧ (∃ q cap, s.tmps[3]? = some (.slice q 2 cap)) ∧ s.tmps[4]? = some (.int .i64 0) ∧ ∀ j, j < 3 → s.tmps[j]? = tm[j]?) ⟨tm, []⟩ v := by
  have HS : Hid (tm.size = 31) := hs
  have s3 : 3 < tm.size := by omega
  have s4 : 4 < tm.size := by omega
  have s9 : 9 < tm.size := by omega
  have s10 : 10 < tm.size := by omega
  have s11 : 11 < tm.size := by omega
  have s12 : 12 < tm.size := by omega
  have s13 : 13 < tm.size := by omega
  have s14 : 14 < tm.size := by omega
  obtain ⟨w1, HW1⟩ : ∃ w1, Hid (w1 = v.alloc (.cells #[.int .i64 0, .int .i64 0] 3)) := ⟨_, rfl⟩
  have hb1 : HB v w1 := by rw [HW1.out]; exact HB.of (B := v.heap.size) ((Below.refl _ v).alloc (Nat.le_refl _) _) (Nat.le_refl _)
  have HB1 : Hid (HB v w1) := hb1
  have HM := (show Hid _ from moves_two v.heap.size (0, 0) w1 (by rw [HW1.out]; exact heap_new v _) (hb1.tab hT))
  clear hs hb1 hT
  simp only [Tryd.f12, Option.getD_some, atc]
  go_wp2_with (go_at_call 19; rw [← HW1.out]; refine Calls.mono HM.out ?_; rintro e w' ⟨⟨q, cap, rfl⟩, hb⟩)
  refine ⟨HB1.out.trans hb, HS.out, fun j hj => ?_⟩
  repeat rw [Array.getElem?_setIfInBounds_ne (by omega)]
theorem gb_r3 (tm : Array Value) (v : World) (a1 a3 : Option Addr) (c1 c3 : Nat) (hs : tm.size = 31) (h1 : tm[1]? = some (.slice a1 5 c1)) (h2 : tm[2]? = some (.int .i64 0)) (h3 : tm[3]? = some (.slice a3 2 c3)) (h4 : tm[4]? = some (.int .i64 0)) : (atc [1, 1, 1, 0] (Tryd.f12.body.getD .skip)).wp Tryd.prog (fun e s w => e = .normal ∧ s.defers = [] ∧ HB v w ∧ s.tmps.size = 31 ∧ s.tmps[0]? = some (.bool true)) ⟨tm, []⟩ v := by
  have HS : Hid (tm.size = 31) := hs
  have s0 : 0 < tm.size := by omega
  have s15 : 15 < tm.size := by omega
  have s16 : 16 < tm.size := by omega
  have s17 : 17 < tm.size := by omega
  have s18 : 18 < tm.size := by omega
  have s19 : 19 < tm.size := by omega
  have s20 : 20 < tm.size := by omega
  have s21 : 21 < tm.size := by omega
  have s22 : 22 < tm.size := by omega
  have s23 : 23 < tm.size := by omega
  have s24 : 24 < tm.size := by omega
  have s25 : 25 < tm.size := by omega
  have s26 : 26 < tm.size := by omega
  have s27 : 27 < tm.size := by omega
  have s28 : 28 < tm.size := by omega
  have s29 : 29 < tm.size := by omega
  have s30 : 30 < tm.size := by omega
  clear hs
  simp only [Tryd.f12, Option.getD_some, atc]
  go_wp2_with fail
  exact ⟨HB.refl _, HS.out⟩
section
variable {Fin : Value → World → Prop} {K : World} {k : List Item} {rc : List Frame}
/-- canonBegun, from its start to its return. -/
theorem begun_run {C : Code} (hC : IsB C) {r : Nat → Nat → Prop} {v : World} {tm tm' : Array Value} (hx : XR (Rg Tryd.prog afs cgs r) tm tm') (hg : ∀ g ∈ cgs, r g g) (hs : tm.size = 31) (hT : Tab v) (hlow : Tryd.prog.globals.size ≤ v.heap.size) (hp0 : PureB v 0) (hp1 : PureB v 1)
    (hk : ∀ r' v' tm1 tm1', (∀ b b', r b b' → r' b b') → HB v v' → (∀ g ∈ cgs, r' g g) → XR (Rg Tryd.prog afs cgs r') tm1 tm1' → tm1[0]? = some (.bool true) → Tab v' → Tryd.prog.globals.size ≤ v'.heap.size → PureB v' 0 → PureB v' 1 →
      Mc Fin K r' v' (fun _ => none) none (G (fF GB tm1' (.code .ret :: k) [] .normal) rc)) :
    Mc Fin K r v (fun _ => none) none (G (fF GB tm' (.code C :: k) [] .normal) rc) := by
  rw [gb_shape hC]
  refine mmv (mv_seq _ _) ?_
  refine mpiece gb_in (gb_ok hC (by simp)) hg hx (Q := fun s w => HB v w ∧ s.tmps = tm.setIfInBounds 0 (.bool false)) (fun τ => ?_) fun r1 v1 tm1 tm1' hr1 hx1 hq => ?_
  · rw [hC]; exact gb_r0 tm (tap τ v)
  obtain ⟨hb1, e1⟩ := hq
  have e1 : tm1 = _ := e1
  have s1 : tm1.size = 31 := by rw [e1]; simp [hs]
  have g1 : ∀ g ∈ cgs, r1 g g := fun g h => hr1 _ _ (hg g h)
  clear e1
  -- the call of All
  refine mmv (mv_seq _ _) ?_
  rw [gb1_shape hC]
  refine mmv (mv_region _ _) ?_
  have z1 : (opsOf (atc [1, 0] C)).size = 6 := by
    have := congrArg List.length (gb1_ops hC)
    simpa using this
  rw [show List.range (opsOf (atc [1, 0] C)).size = [0, 1, 2, 3, 4, 5] by rw [z1]; rfl]
  obtain ⟨o0, a1, a2, a3, a4⟩ := op_at (gb1_ops hC) 0 rfl
  obtain ⟨o1, b1, b2, b3, b4⟩ := op_at (gb1_ops hC) 1 rfl
  obtain ⟨o2, c1, c2, c3, c4⟩ := op_at (gb1_ops hC) 2 rfl
  obtain ⟨o3, d1, d2, d3, d4⟩ := op_at (gb1_ops hC) 3 rfl
  obtain ⟨o4, f1, f2, f3, f4⟩ := op_at (gb1_ops hC) 4 rfl
  obtain ⟨o5, i1, i2, i3, i4⟩ := op_at (gb1_ops hC) 5 rfl
  generalize opsOf (atc [1, 0] C) = ops at a1 b1 c1 d1 f1 i1 ⊢
  obtain ⟨CA, hCA⟩ : ∃ C, IsA C := ⟨_, rfl⟩
  have hbA : Tryd.f22.body = some CA := by rw [hCA]; rfl
  refine MV.call (by decide) a1 (by unfold Region.wanted; rw [a4]) a3 Tryd.func22 (by decide) hbA ?_
  have eargs : (#[Operand.const (.int .i64 3)].map (Act.eval ⟨tm1', []⟩)) = #[.int .i64 3] := by
    simp [Act.eval]
  rw [eargs]
  show Mc Fin K r1 v1 (fun _ => none) none (G (fF GA (#[.int .i64 3] ++ Array.replicate 19 undef) [.code CA] [] .normal) (fF GB tm1' (.inRegion ops [0, 1, 2, 3, 4, 5] :: _) [] .normal :: rc))
  have ht0 := xr_init1 (VR.int (Rg Tryd.prog afs cgs r1) .i64 3) 19
  have hz : (#[Value.int .i64 3] ++ Array.replicate 19 undef).size = 20 := by simp
  have h0 : (#[Value.int .i64 3] ++ Array.replicate 19 undef)[0]? = some (.int .i64 ((3 : Nat) : Int)) := by rw [Array.getElem?_append_left (by simp)]; rfl
  refine all_run hCA (n := 3) (by decide) (L := lvl) rfl lvl_three ht0 g1 hz h0 (hb1.tab hT) (Nat.le_trans hlow hb1.1) (hb1.pure hp0) (hb1.pure hp1) fun r2 v2 tm2 tm2' gv cv hr2 hb2 g2 hx2 sz2 q2 q3 _ hT2 hlow2 p02 p12 => ?_
  rw [lvl3_len] at q2
  obtain ⟨y', q2', hy'⟩ := hx2.at q2
  have q3' := hx2.same q3
  have hret := ret_two (F := Tryd.f22) (t := 2) (u := 3) rfl q2' q3'
  refine MV.ret Tryd.func22 (fun w => (hret w).1) (fun w => (hret w).2) a1 ?_
  rw [a2]
  have hx3 : XR (Rg Tryd.prog afs cgs r2) (tm1.setIfInBounds 6 (.tuple #[.slice (some ⟨gv, 0, none⟩) 5 cv, .int .i64 0])) (tm1'.setIfInBounds 6 (.tuple #[y', .int .i64 0])) := (hx1.mono (rg_le hr2)).set 6 (VR.tuple (xr2 hy' (VR.int _ _ _)))
  show Mc Fin K r2 v2 (fun _ => none) none (G (fF GB (tm1'.setIfInBounds 6 (.tuple #[y', .int .i64 0])) (.inRegion ops [1, 2, 3, 4, 5] :: _) [] .normal) rc)
  have u6 : (tm1.setIfInBounds 6 (.tuple #[.slice (some ⟨gv, 0, none⟩) 5 cv, .int .i64 0]))[6]? = some (.tuple #[.slice (some ⟨gv, 0, none⟩) 5 cv, .int .i64 0]) := set_at (by rw [s1]; decide) _
  have s3 : (tm1.setIfInBounds 6 (.tuple #[.slice (some ⟨gv, 0, none⟩) 5 cv, .int .i64 0])).size = 31 := by simp [s1]
  generalize (tm1.setIfInBounds 6 (.tuple #[.slice (some ⟨gv, 0, none⟩) 5 cv, .int .i64 0])) = tm3 at *
  generalize (tm1'.setIfInBounds 6 (.tuple #[y', .int .i64 0])) = tm3' at *
  -- what it answers is taken apart
  refine mval g2 b1 (by rw [b3]; rfl) b4 hx3 (.inl rfl) (x := .tuple #[.slice (some ⟨gv, 0, none⟩) 5 cv, .int .i64 0]) (v1 := v2) (fun τ => by
    unfold execOp
    rw [b3]
    simp only [eval_tmp u6]
    rfl) fun r4 tm4' hr4 hx4 => ?_
  rw [b2] at hx4
  have hx4 : XR (Rg Tryd.prog afs cgs r4) (tm3.setIfInBounds 5 (.tuple #[.slice (some ⟨gv, 0, none⟩) 5 cv, .int .i64 0])) tm4' := hx4
  have u5 : (tm3.setIfInBounds 5 (.tuple #[.slice (some ⟨gv, 0, none⟩) 5 cv, .int .i64 0]))[5]? = some (.tuple #[.slice (some ⟨gv, 0, none⟩) 5 cv, .int .i64 0]) := set_at (by rw [s3]; decide) _
  have s4 : (tm3.setIfInBounds 5 (.tuple #[.slice (some ⟨gv, 0, none⟩) 5 cv, .int .i64 0])).size = 31 := by simp [s3]
  generalize (tm3.setIfInBounds 5 (.tuple #[.slice (some ⟨gv, 0, none⟩) 5 cv, .int .i64 0])) = tm4 at *
  have g4 : ∀ g ∈ cgs, r4 g g := fun g h => hr4 _ _ (g2 g h)
  refine mval g4 c1 (by rw [c3]; rfl) c4 hx4 (.inl rfl) (x := .slice (some ⟨gv, 0, none⟩) 5 cv) (v1 := v2) (fun τ => by
    unfold execOp
    rw [c3]
    simp only [eval_tmp u5]
    go_simp) fun r5 tm5' hr5 hx5 => ?_
  rw [c2] at hx5
  have hx5 : XR (Rg Tryd.prog afs cgs r5) (tm4.setIfInBounds 7 (.slice (some ⟨gv, 0, none⟩) 5 cv)) tm5' := hx5
  have v7 : (tm4.setIfInBounds 7 (.slice (some ⟨gv, 0, none⟩) 5 cv))[7]? = some (.slice (some ⟨gv, 0, none⟩) 5 cv) := set_at (by rw [s4]; decide) _
  have v5 : (tm4.setIfInBounds 7 (.slice (some ⟨gv, 0, none⟩) 5 cv))[5]? = some (.tuple #[.slice (some ⟨gv, 0, none⟩) 5 cv, .int .i64 0]) := (set_ne (by decide) _).trans u5
  have s5 : (tm4.setIfInBounds 7 (.slice (some ⟨gv, 0, none⟩) 5 cv)).size = 31 := by simp [s4]
  generalize (tm4.setIfInBounds 7 (.slice (some ⟨gv, 0, none⟩) 5 cv)) = tm5 at *
  have g5 : ∀ g ∈ cgs, r5 g g := fun g h => hr5 _ _ (g4 g h)
  refine mval g5 d1 (by rw [d3]; rfl) d4 hx5 (.inl rfl) (x := .int .i64 0) (v1 := v2) (fun τ => by
    unfold execOp
    rw [d3]
    simp only [eval_tmp v5]
    go_simp) fun r6 tm6' hr6 hx6 => ?_
  rw [d2] at hx6
  have hx6 : XR (Rg Tryd.prog afs cgs r6) (tm5.setIfInBounds 8 (.int .i64 0)) tm6' := hx6
  have w8 : (tm5.setIfInBounds 8 (.int .i64 0))[8]? = some (.int .i64 0) := set_at (by rw [s5]; decide) _
  have w7 : (tm5.setIfInBounds 8 (.int .i64 0))[7]? = some (.slice (some ⟨gv, 0, none⟩) 5 cv) := (set_ne (by decide) _).trans v7
  have s6 : (tm5.setIfInBounds 8 (.int .i64 0)).size = 31 := by simp [s5]
  generalize (tm5.setIfInBounds 8 (.int .i64 0)) = tm6 at *
  have g6 : ∀ g ∈ cgs, r6 g g := fun g h => hr6 _ _ (g5 g h)
  refine mval g6 f1 (by rw [f3]; rfl) f4 hx6 (.inl rfl) (x := .slice (some ⟨gv, 0, none⟩) 5 cv) (v1 := v2) (fun τ => by
    unfold execOp
    rw [f3]
    simp only [eval_tmp w7]
    rfl) fun r7 tm7' hr7 hx7 => ?_
  rw [f2] at hx7
  have hx7 : XR (Rg Tryd.prog afs cgs r7) (tm6.setIfInBounds 1 (.slice (some ⟨gv, 0, none⟩) 5 cv)) tm7' := hx7
  have x1 : (tm6.setIfInBounds 1 (.slice (some ⟨gv, 0, none⟩) 5 cv))[1]? = some (.slice (some ⟨gv, 0, none⟩) 5 cv) := set_at (by rw [s6]; decide) _
  have x8 : (tm6.setIfInBounds 1 (.slice (some ⟨gv, 0, none⟩) 5 cv))[8]? = some (.int .i64 0) := (set_ne (by decide) _).trans w8
  have s7 : (tm6.setIfInBounds 1 (.slice (some ⟨gv, 0, none⟩) 5 cv)).size = 31 := by simp [s6]
  generalize (tm6.setIfInBounds 1 (.slice (some ⟨gv, 0, none⟩) 5 cv)) = tm7 at *
  have g7 : ∀ g ∈ cgs, r7 g g := fun g h => hr7 _ _ (g6 g h)
  refine mval g7 i1 (by rw [i3]; rfl) i4 hx7 (.inl rfl) (x := .int .i64 0) (v1 := v2) (fun τ => by
    unfold execOp
    rw [i3]
    simp only [eval_tmp x8]
    rfl) fun r8 tm8' hr8 hx8 => ?_
  rw [i2] at hx8
  have hx8 : XR (Rg Tryd.prog afs cgs r8) (tm7.setIfInBounds 2 (.int .i64 0)) tm8' := hx8
  have y1 : (tm7.setIfInBounds 2 (.int .i64 0))[1]? = some (.slice (some ⟨gv, 0, none⟩) 5 cv) := (set_ne (by decide) _).trans x1
  have y2 : (tm7.setIfInBounds 2 (.int .i64 0))[2]? = some (.int .i64 0) := set_at (by rw [s7]; decide) _
  have s8 : (tm7.setIfInBounds 2 (.int .i64 0)).size = 31 := by simp [s7]
  generalize (tm7.setIfInBounds 2 (.int .i64 0)) = tm8 at *
  have g8 : ∀ g ∈ cgs, r8 g g := fun g h => hr8 _ _ (g7 g h)
  refine mmv (mv_done _) ?_
  -- the call of Moves
  refine mmv (mv_seq _ _) ?_
  refine mpiece gb_in (gb_ok hC (by simp)) g8 hx8 (Q := fun s w => HB v2 w ∧ s.tmps.size = 31 ∧ (∃ q cap, s.tmps[3]? = some (.slice q 2 cap)) ∧ s.tmps[4]? = some (.int .i64 0) ∧ ∀ j, j < 3 → s.tmps[j]? = tm8[j]?) (fun τ => ?_) fun r9 v9 tm9 tm9' hr9 hx9 hq => ?_
  · rw [hC]; exact gb_r2 tm8 (tap τ v2) s8 hT2
  obtain ⟨hb9, s9, ⟨q, cap, k3⟩, k4, e9⟩ := hq
  refine mmv (mv_seq _ _) ?_
  refine mpiece gb_in (gb_ok hC (by simp)) (fun g h => hr9 _ _ (g8 g h)) hx9 (Q := fun s w => HB v9 w ∧ s.tmps.size = 31 ∧ s.tmps[0]? = some (.bool true)) (fun τ => ?_) fun r10 v10 tm10 tm10' hr10 hx10 hq => ?_
  · rw [hC]; exact gb_r3 tm9 (tap τ v9) _ _ _ _ s9 ((e9 1 (by decide)).trans y1) ((e9 2 (by decide)).trans y2) k3 k4
  obtain ⟨hb10, s10, t0⟩ := hq
  have hbl : HB v2 v10 := hb9.trans hb10
  exact hk r10 v10 tm10 tm10' (fun b b' z => hr10 _ _ (hr9 _ _ (hr8 _ _ (hr7 _ _ (hr6 _ _ (hr5 _ _ (hr4 _ _ (hr2 _ _ (hr1 _ _ z))))))))) ((hb1.trans hb2).trans hbl) (fun g h => hr10 _ _ (hr9 _ _ (g8 g h))) hx10 t0 (hbl.tab hT2) (Nat.le_trans hlow2 hbl.1) (hbl.pure p02) (hbl.pure p12)
end
end Go.Proofs.YtfbdgdphpdhcpaaDoor
namespace Go.Proofs.YtfbdgdphpdhcpaaDoor
open Go Go.Conc Go.RowKit Sm
set_option maxRecDepth 100000

/-- How many lists leave a form as it is. -/
def cntL (o : List Nat) : Nat := (mvL (nth o) o.length (per o.length [] (pw o.length - 1))).length
def facL : Nat → Nat
  | 0 => 1
  | n + 1 => (n + 1) * facL n
abbrev GK : FuncId := 7
def IsK (C : Code) : Prop := C = Tryd.f7.body.getD .skip
abbrev kbody (C : Code) : Code := .seq (.seq (atc [1, 1, 1, 1, 1, 1, 0, 1, 2, 2, 0, 0] C) (.cond (.tmp 23) .skip (.exit 0))) (.seq (.block 1 (.seq (atc [1, 1, 1, 1, 1, 1, 0, 1, 2, 2, 1, 0, 2, 0] C) (.seq (.seq (atc [1, 1, 1, 1, 1, 1, 0, 1, 2, 2, 1, 0, 2, 1, 0, 0] C) (.cond (.tmp 48) (thenT (atc [1, 1, 1, 1, 1, 1, 0, 1, 2, 2, 1, 0, 2, 1, 0] C)) .skip)) (atc [1, 1, 1, 1, 1, 1, 0, 1, 2, 2, 1, 0, 2, 1, 1] C)))) (atc [1, 1, 1, 1, 1, 1, 0, 1, 2, 2, 1, 1] C))
theorem gk_shape {C : Code} (hC : IsK C) : C = .seq (atc [0] C) (.seq (.seq (atc [1, 0, 0] C) (.cond (.tmp 10) (thenT (atc [1, 0] C)) .skip)) (.seq (atc [1, 1, 0] C) (.seq (atc [1, 1, 1, 0] C) (.seq (.seq (atc [1, 1, 1, 1, 0, 0] C) (.cond (.tmp 19) (thenT (atc [1, 1, 1, 1, 0] C)) .skip)) (.seq (atc [1, 1, 1, 1, 1, 0] C) (.seq (.seq (atc [1, 1, 1, 1, 1, 1, 0, 0] C) (.block 0 (.loop (kbody C)))) (.seq (atc [1, 1, 1, 1, 1, 1, 1, 0] C) .ret))))))) := by
  rw [hC]
  kernel_rfl
abbrev gkl : List (List Nat) := [[0], [1, 1, 0], [1, 1, 1, 1, 0, 0], [1, 1, 1, 1, 1, 0], [1, 1, 1, 1, 1, 1, 0, 0], [1, 1, 1, 1, 1, 1, 0, 1, 2, 2, 0, 0], [1, 1, 1, 1, 1, 1, 0, 1, 2, 2, 1, 0, 2, 0], [1, 1, 1, 1, 1, 1, 0, 1, 2, 2, 1, 0, 2, 1, 0, 0], [1, 1, 1, 1, 1, 1, 0, 1, 2, 2, 1, 0, 2, 1, 1], [1, 1, 1, 1, 1, 1, 0, 1, 2, 2, 1, 1], [1, 1, 1, 1, 1, 1, 1, 0]]
theorem gk_item : (gkl.all fun l => itemB Tryd.prog afs cgs (.code (atc l (Tryd.f7.body.getD .skip)))) = true := by kernel_rfl
theorem gk_ok {C : Code} (hC : IsK C) {l : List Nat} (h : l ∈ gkl) : itemB Tryd.prog afs cgs (.code (atc l C)) = true := by
  rw [hC]
  exact List.all_eq_true.1 gk_item l h
theorem gk_in : ∃ f, Tryd.prog.funcs[GK]? = some f := ⟨_, Tryd.func7⟩
theorem gk1_shape {C : Code} (hC : IsK C) : atc [1, 0, 0] C = .region 1 (opsOf (atc [1, 0, 0] C)) false := by
  rw [hC]
  kernel_rfl
theorem gk1_ops {C : Code} (hC : IsK C) : ((opsOf (atc [1, 0, 0] C)).map fun o => (o.dst, o.op, o.guard)).toList = [(some 9, .call { callee := .value (.func GB), args := #[], argTypes := #[] }, none), (some 10, .unOp .not 4 (.tmp 9), none)] := by
  rw [hC]
  kernel_rfl
theorem gk4_shape {C : Code} (hC : IsK C) : atc [1, 1, 1, 0] C = .region 4 (opsOf (atc [1, 1, 1, 0] C)) false := by
  rw [hC]
  kernel_rfl
theorem gk4_ops {C : Code} (hC : IsK C) : ((opsOf (atc [1, 1, 1, 0] C)).map fun o => (o.dst, o.op, o.guard)).toList = [(some 14, .move (.tmp 0), none), (some 15, .call { callee := .value (.func GA), args := #[.tmp 14], argTypes := #[3] }, none), (some 13, .move (.tmp 15), none), (some 16, .extract (.tmp 13) 0, none), (some 17, .extract (.tmp 13) 1, none), (some 3, .assign (.tmp 16), none), (some 4, .assign (.tmp 17), none)] := by
  rw [hC]
  kernel_rfl
theorem choose_any (c : Int) (n : Nat) (w : World) (hn : 0 < n) (hn2 : n ≤ 10000000000) (h1 : -9223372036854775808 ≤ c) (h2 : c ≤ 9223372036854775807) :
    Calls Tryd.prog 25 #[.int .i64 c, .int .i64 (n : Nat)] w fun e w' => (∃ k : Nat, k < n ∧ e = .returned (.int .i64 (k : Nat))) ∧ w = w' := by
  have hz : ((n : Nat) : Int) ≠ 0 := by omega
  by_cases hc : c < 0
  · have HQ : Hid (∃ k : Nat, k < n ∧ -(c + 1).tmod n = (k : Nat)) := by
      have e : -(c + 1).tmod n = (-(c + 1)) % n := by rw [← Int.neg_tmod, Int.tmod_eq_emod_of_nonneg (by omega)]
      have g1 := Int.emod_nonneg (-(c + 1)) hz
      have g2 := Int.emod_lt_of_pos (-(c + 1)) (show (0 : Int) < n by omega)
      exact ⟨((-(c + 1)) % n).toNat, by omega, by omega⟩
    go_enter Tryd.func25, Tryd.ntmps25
    go_wp2_with fail
    go_ret
    obtain ⟨k, h3, h4⟩ := HQ.out
    exact ⟨⟨k, h3, ret_int h4⟩, rfl⟩
  · have HQ : Hid (∃ k : Nat, k < n ∧ c % n = (k : Nat)) := by
      have g1 := Int.emod_nonneg c hz
      have g2 := Int.emod_lt_of_pos c (show (0 : Int) < n by omega)
      exact ⟨(c % n).toNat, by omega, by omega⟩
    go_enter Tryd.func25, Tryd.ntmps25
    go_wp2_with fail
    go_ret
    obtain ⟨k, h3, h4⟩ := HQ.out
    exact ⟨⟨k, h3, ret_int h4⟩, rfl⟩
theorem fac_any : ∀ (n : Nat) (w : World), n ≤ 5 → Calls Tryd.prog 26 #[.int .i64 (n : Nat)] w fun e w' => e = .returned (.int .i64 (facL n : Nat)) ∧ w = w'
  | 0, w, _ => by
    go_enter Tryd.func26, Tryd.ntmps26
    go_wp2_with fail
    go_ret
    exact ⟨rfl, rfl⟩
  | n + 1, w, h => by
    have ih := fac_any n w (by omega)
    have hb : facL n ≤ 120 := by
      match n, h with
      | 0, _ => decide
      | 1, _ => decide
      | 2, _ => decide
      | 3, _ => decide
      | 4, _ => decide
    have hne : (((n + 1 : Nat) : Int) == 0) = false := by simp; omega
    have hw : IntKind.i64.wrap (((n + 1 : Nat) : Int) - 1) = (n : Nat) := by rw [IntKind.wrap_i64]; omega
    have HF : Hid ((((n : Nat) : Int) + 1) * (facL n : Nat) = (facL (n + 1) : Nat)) := by show _ = _; rw [facL]; push_cast; rfl
    go_enter Tryd.func26, Tryd.ntmps26
    go_wp2_with (go_at_call 26; refine ih.mono ?_; rintro e w' ⟨rfl, rfl⟩)
    go_ret
    refine ⟨ret_int ?_, rfl⟩
    rw [HF.out]
    have hb2 : facL (n + 1) ≤ 120 := by
      match n, h with
      | 0, _ => decide
      | 1, _ => decide
      | 2, _ => decide
      | 3, _ => decide
      | 4, _ => decide
    unfold wrap64
    omega
theorem moves_form {o : List Nat} {x : Value} {v : World} (hO : OVal v o x) (hF : FOk o) (hc : 0 < cntL o) (hT : Tab v) : Calls Tryd.prog 19 #[x] v fun e w' => (∃ q cap, e = .returned (.tuple #[.slice q (cntL o) cap, .int .i64 0])) ∧ HB v w' := by
  have hrow : ∃ a cap, x = .agg #[.int .i64 (o.length : Nat), .slice a o.length cap] ∧ Row v a o.length (fun k => (nth o k : Nat)) := by
    rcases hO with ⟨rfl, rfl⟩ | ⟨bl, f, h1, h2, h3, rfl⟩
    · exact ⟨none, 0, rfl, fun k hk => absurd hk (Nat.not_lt_zero _)⟩
    · exact ⟨_, _, rfl, rowC_row h3⟩
  obtain ⟨a, cap, rfl, hr⟩ := hrow
  have hl := hF.1
  refine (moves_any (o.length : Nat) a o.length cap (fun k => (nth o k : Nat)) v (by unfold maxLen; omega) hr hT).mono ?_
  rintro e w' ⟨⟨c, hck, hp⟩, hb⟩
  have h0 : FCk (o.length : Nat) o.length (fun k => (nth o k : Nat)) 0 := ⟨0, hF.2.2, by rw [if_pos rfl, if_neg (by omega)]⟩
  have ec : c = 0 := hck.one h0
  rcases hp with ⟨h1, _⟩ | ⟨_, z, rfl, vs, hz, _⟩
  · exact absurd ec h1
  · obtain ⟨g, cap', rfl⟩ := owns_form hz hc
    subst ec
    exact ⟨⟨_, cap', rfl⟩, below_hb hb⟩
theorem k_r0 (tm : Array Value) (v : World) (hs : tm.size = 62) : (atc [0] (Tryd.f7.body.getD .skip)).wp Tryd.prog (fun e s w => e = .normal ∧ s.defers = [] ∧ HB v w ∧ s.tmps = tm.setIfInBounds 2 (.bool false)) ⟨tm, []⟩ v := by
  have HS : Hid (tm.size = 62) := hs
  clear hs
  simp only [Tryd.f7, Option.getD_some, atc]
  go_wp2_with fail
  exact HB.refl _
theorem k_r3 (tm : Array Value) (n : Int) (v : World) (hs : tm.size = 62) (h0 : tm[0]? = some (.int .i64 n)) (h1 : -9223372036854775808 ≤ n) (h2 : n ≤ 9223372036854775807) : (atc [1, 1, 0] (Tryd.f7.body.getD .skip)).wp Tryd.prog (fun e s w => e = .normal ∧ s.defers = [] ∧ HB v w ∧ ∃ k : Nat, k ≤ 5 ∧ s.tmps.size = 62 ∧ s.tmps[0]? = some (.int .i64 (k : Nat))) ⟨tm, []⟩ v := by
  have HS : Hid (tm.size = 62) := hs
  have s11 : 11 < tm.size := by omega
  have s12 : 12 < tm.size := by omega
  have HC := (show Hid _ from choose_any n 6 v (by decide) (by decide) h1 h2)
  clear hs
  simp only [Tryd.f7, Option.getD_some, atc]
  go_wp2_with (go_at_call 25; refine Calls.mono HC.out ?_; rintro e w' ⟨⟨k, hk, rfl⟩, rfl⟩)
  exact ⟨HB.refl _, k, by omega, HS.out, set_at (by have := HS.out; simp; omega) _⟩
theorem k_r5 (tm : Array Value) (v : World) (hs : tm.size = 62) (h4 : tm[4]? = some (.int .i64 0)) : (atc [1, 1, 1, 1, 0, 0] (Tryd.f7.body.getD .skip)).wp Tryd.prog (fun e s w => e = .normal ∧ s.defers = [] ∧ HB v w ∧ s.tmps.size = 62 ∧ s.tmps[19]? = some (.bool false) ∧ ∀ j, j < 18 → s.tmps[j]? = tm[j]?) ⟨tm, []⟩ v := by
  have HS : Hid (tm.size = 62) := hs
  have s18 : 18 < tm.size := by omega
  have s19 : 19 < tm.size := by omega
  clear hs
  simp only [Tryd.f7, Option.getD_some, atc]
  go_wp2_with fail
  refine ⟨HB.refl _, HS.out, fun j hj => ?_⟩
  repeat rw [Array.getElem?_setIfInBounds_ne (by omega)]
theorem k_r7 (tm : Array Value) (v : World) (hs : tm.size = 62) : (atc [1, 1, 1, 1, 1, 0] (Tryd.f7.body.getD .skip)).wp Tryd.prog (fun e s w => e = .normal ∧ s.defers = [] ∧ HB v w ∧ s.tmps = tm.setIfInBounds 5 (.int .i64 0)) ⟨tm, []⟩ v := by
  have HS : Hid (tm.size = 62) := hs
  clear hs
  simp only [Tryd.f7, Option.getD_some, atc]
  go_wp2_with fail
  exact HB.refl _
theorem k_r8 (tm : Array Value) (v : World) (hs : tm.size = 62) : (atc [1, 1, 1, 1, 1, 1, 0, 0] (Tryd.f7.body.getD .skip)).wp Tryd.prog (fun e s w => e = .normal ∧ s.defers = [] ∧ HB v w ∧ s.tmps = tm.setIfInBounds 6 (.int .i64 0)) ⟨tm, []⟩ v := by
  have HS : Hid (tm.size = 62) := hs
  clear hs
  simp only [Tryd.f7, Option.getD_some, atc]
  go_wp2_with fail
  exact HB.refl _
theorem k_r9 (tm : Array Value) (a : Option Addr) (i m c : Nat) (v : World) (hs : tm.size = 62) (h6 : tm[6]? = some (.int .i64 (i : Nat))) (h3 : tm[3]? = some (.slice a m c)) : (atc [1, 1, 1, 1, 1, 1, 0, 1, 2, 2, 0, 0] (Tryd.f7.body.getD .skip)).wp Tryd.prog (fun e s w => e = .normal ∧ s.defers = [] ∧ HB v w ∧ s.tmps.size = 62 ∧ s.tmps[23]? = some (.bool (decide ((i : Int) < (m : Int)))) ∧ ∀ j, j < 9 → s.tmps[j]? = tm[j]?) ⟨tm, []⟩ v := by
  have HS : Hid (tm.size = 62) := hs
  have s20 : 20 < tm.size := by omega
  have s21 : 21 < tm.size := by omega
  have s22 : 22 < tm.size := by omega
  have s23 : 23 < tm.size := by omega
  clear hs
  simp only [Tryd.f7, Option.getD_some, atc]
  go_wp2_with fail
  refine ⟨HB.refl _, HS.out, fun j hj => ?_⟩
  repeat rw [Array.getElem?_setIfInBounds_ne (by omega)]
theorem k_r10 (tm : Array Value) (i : Nat) (v : World) (hs : tm.size = 62) (h6 : tm[6]? = some (.int .i64 (i : Nat))) (hi : i < 1000) : (atc [1, 1, 1, 1, 1, 1, 0, 1, 2, 2, 1, 1] (Tryd.f7.body.getD .skip)).wp Tryd.prog (fun e s w => e = .normal ∧ s.defers = [] ∧ HB v w ∧ s.tmps.size = 62 ∧ s.tmps[6]? = some (.int .i64 ((i + 1 : Nat) : Int)) ∧ ∀ j, j < 9 → j ≠ 6 → s.tmps[j]? = tm[j]?) ⟨tm, []⟩ v := by
  have HS : Hid (tm.size = 62) := hs
  have s24 : 24 < tm.size := by omega
  have s25 : 25 < tm.size := by omega
  clear hs
  simp only [Tryd.f7, Option.getD_some, atc]
  go_wp2_with fail
  refine ⟨HB.refl _, HS.out, set_at (by have := HS.out; simp; omega) _, fun j hj h6 => ?_⟩
  repeat rw [Array.getElem?_setIfInBounds_ne (by omega)]
theorem k_r14 (tm : Array Value) (n c m : Nat) (a : Option Addr) (s0 : Nat) (v : World) (hs : tm.size = 62) (hn : n ≤ 5) (h5 : tm[5]? = some (.int .i64 (s0 : Nat))) (h0 : tm[0]? = some (.int .i64 (n : Nat))) (h7 : tm[7]? = some (.slice a m c)) (hm : 0 < m) (hb : s0 ≤ 100000) : (atc [1, 1, 1, 1, 1, 1, 0, 1, 2, 2, 1, 0, 2, 1, 1] (Tryd.f7.body.getD .skip)).wp Tryd.prog (fun e s w => e = .normal ∧ s.defers = [] ∧ HB v w ∧ s.tmps.size = 62 ∧ s.tmps[5]? = some (.int .i64 ((s0 + facL n / m : Nat) : Int)) ∧ ∀ j, j < 9 → j ≠ 5 → s.tmps[j]? = tm[j]?) ⟨tm, []⟩ v := by
  have HS : Hid (tm.size = 62) := hs
  have s49 : 49 < tm.size := by omega
  have s50 : 50 < tm.size := by omega
  have s51 : 51 < tm.size := by omega
  have s52 : 52 < tm.size := by omega
  have s53 : 53 < tm.size := by omega
  have s54 : 54 < tm.size := by omega
  have s55 : 55 < tm.size := by omega
  have HF := (show Hid _ from fac_any n v hn)
  have hf1 : facL n ≤ 120 := by
    match n, hn with
    | 0, _ => decide
    | 1, _ => decide
    | 2, _ => decide
    | 3, _ => decide
    | 4, _ => decide
    | 5, _ => decide
  have hdi : 0 ≤ ((facL n : Nat) : Int) / (m : Int) ∧ ((facL n : Nat) : Int) / (m : Int) ≤ 120 := by
    have h1 : facL n / m ≤ 120 := Nat.le_trans (Nat.div_le_self _ _) hf1
    rw [← Int.natCast_ediv]
    exact ⟨Int.natCast_nonneg _, Int.ofNat_le.2 h1⟩
  have hq : wrap64 (((facL n : Nat) : Int) / (m : Int)) = ((facL n : Nat) : Int) / (m : Int) := by
    generalize ((facL n : Nat) : Int) / (m : Int) = g at hdi ⊢
    unfold wrap64; omega
  have hq2 : wrap64 ((s0 : Int) + ((facL n : Nat) : Int) / (m : Int)) = (s0 : Int) + ((facL n : Nat) : Int) / (m : Int) := by
    generalize ((facL n : Nat) : Int) / (m : Int) = g at hdi ⊢
    unfold wrap64; omega
  clear hs
  simp only [Tryd.f7, Option.getD_some, atc]
  go_wp2_with (go_at_call 26; refine Calls.mono HF.out ?_; rintro e w' ⟨rfl, rfl⟩)
  refine ⟨HB.refl _, HS.out, set_at (by have := HS.out; simp; omega) _, fun j hj h5 => ?_⟩
  repeat rw [Array.getElem?_setIfInBounds_ne (by omega)]
theorem k_r12 (tm : Array Value) (n c m : Nat) (a : Option Addr) (v : World) (hs : tm.size = 62) (hn : n ≤ 5) (h0 : tm[0]? = some (.int .i64 (n : Nat))) (h8 : tm[8]? = some (.int .i64 0)) (h7 : tm[7]? = some (.slice a m c)) (hm : 0 < m) (hd : facL n % m = 0) : (atc [1, 1, 1, 1, 1, 1, 0, 1, 2, 2, 1, 0, 2, 1, 0, 0] (Tryd.f7.body.getD .skip)).wp Tryd.prog (fun e s w => e = .normal ∧ s.defers = [] ∧ HB v w ∧ s.tmps.size = 62 ∧ s.tmps[48]? = some (.bool false) ∧ ∀ j, j < 9 → s.tmps[j]? = tm[j]?) ⟨tm, []⟩ v := by
  have HS : Hid (tm.size = 62) := hs
  have s34 : 34 < tm.size := by omega
  have s35 : 35 < tm.size := by omega
  have s36 : 36 < tm.size := by omega
  have s37 : 37 < tm.size := by omega
  have s38 : 38 < tm.size := by omega
  have s39 : 39 < tm.size := by omega
  have s40 : 40 < tm.size := by omega
  have s41 : 41 < tm.size := by omega
  have s42 : 42 < tm.size := by omega
  have s43 : 43 < tm.size := by omega
  have s44 : 44 < tm.size := by omega
  have s45 : 45 < tm.size := by omega
  have s46 : 46 < tm.size := by omega
  have s47 : 47 < tm.size := by omega
  have s48 : 48 < tm.size := by omega
  have HF := (show Hid _ from fac_any n v hn)
  have hmz : ¬ ((m : Int) = 0) := by omega
  have hme : ((m : Int) == 0) = false := by simp; omega
  clear hs
  simp only [Tryd.f7, Option.getD_some, atc]
  go_wp2_with (go_at_call 26; refine Calls.mono HF.out ?_; rintro e w' ⟨rfl, rfl⟩)
  refine ⟨HB.refl _, HS.out, by rw [← Int.natCast_emod, hd]; rfl, fun j hj => ?_⟩
  repeat rw [Array.getElem?_setIfInBounds_ne (by omega)]
theorem k_r11 (tm : Array Value) (bf m c i : Nat) (o : List Nat) (pn : Int) (qa : Option Addr) (ql qc : Nat) (v : World) (hs : tm.size = 62) (h3 : tm[3]? = some (.slice (some ⟨bf, 0, none⟩) m c)) (h6 : tm[6]? = some (.int .i64 (i : Nat))) (hi : i < m) (hO : OVal v o (.agg #[.int .i64 pn, .slice qa ql qc])) (c0 : v.cell? ⟨bf, 2 * i, none⟩ = some (.int .i64 pn)) (c1 : v.cell? ⟨bf, 2 * i + 1, none⟩ = some (.slice qa ql qc)) (hF : FOk o) (hc : 0 < cntL o) (hT : Tab v) : (atc [1, 1, 1, 1, 1, 1, 0, 1, 2, 2, 1, 0, 2, 0] (Tryd.f7.body.getD .skip)).wp Tryd.prog (fun e s w => e = .normal ∧ s.defers = [] ∧ HB v w ∧ s.tmps.size = 62 ∧ (∃ q cap, s.tmps[7]? = some (.slice q (cntL o) cap)) ∧ s.tmps[8]? = some (.int .i64 0) ∧ ∀ j, j < 7 → s.tmps[j]? = tm[j]?) ⟨tm, []⟩ v := by
  have HS : Hid (tm.size = 62) := hs
  have s7 : 7 < tm.size := by omega
  have s8 : 8 < tm.size := by omega
  have s26 : 26 < tm.size := by omega
  have s27 : 27 < tm.size := by omega
  have s28 : 28 < tm.size := by omega
  have s29 : 29 < tm.size := by omega
  have s30 : 30 < tm.size := by omega
  have s31 : 31 < tm.size := by omega
  have s32 : 32 < tm.size := by omega
  have s33 : 33 < tm.size := by omega
  have HM := (show Hid _ from moves_form hO hF hc hT)
  have c0' : v.cell? ⟨bf, i * 2, none⟩ = some (.int .i64 pn) := by rw [Nat.mul_comm]; exact c0
  have c1' : v.cell? ⟨bf, i * 2 + 1, none⟩ = some (.slice qa ql qc) := by rw [Nat.mul_comm]; exact c1
  clear c0 c1 hO
  clear hs
  simp only [Tryd.f7, Option.getD_some, atc]
  go_wp2_with (go_at_call 19; refine Calls.mono HM.out ?_; rintro e w' ⟨⟨q, cap, rfl⟩, hb⟩)
  refine ⟨HS.out, fun j hj => ?_⟩
  repeat rw [Array.getElem?_setIfInBounds_ne (by omega)]
theorem k_r15 (tm : Array Value) (n : Nat) (s0 : Nat) (v : World) (hs : tm.size = 62) (hn : n ≤ 5) (h5 : tm[5]? = some (.int .i64 (s0 : Nat))) (h0 : tm[0]? = some (.int .i64 (n : Nat))) (hs0 : [1, 1, 3, 19, 219, 4231][n]? = some s0) : (atc [1, 1, 1, 1, 1, 1, 1, 0] (Tryd.f7.body.getD .skip)).wp Tryd.prog (fun e s w => e = .normal ∧ s.defers = [] ∧ HB v w ∧ s.tmps[2]? = some (.bool true)) ⟨tm, []⟩ v := by
  have s2 : 2 < tm.size := by omega
  have s56 : 56 < tm.size := by omega
  have s57 : 57 < tm.size := by omega
  have s58 : 58 < tm.size := by omega
  have s59 : 59 < tm.size := by omega
  have s60 : 60 < tm.size := by omega
  have s61 : 61 < tm.size := by omega
  have HB1 : Hid (∀ o, HB v (v.alloc o)) := fun o => HB.of (B := v.heap.size) ((Below.refl _ v).alloc (Nat.le_refl _) _) (Nat.le_refl _)
  clear hs
  have hcase : (n = 0 ∧ s0 = 1) ∨ (n = 1 ∧ s0 = 1) ∨ (n = 2 ∧ s0 = 3) ∨ (n = 3 ∧ s0 = 19) ∨ (n = 4 ∧ s0 = 219) ∨ (n = 5 ∧ s0 = 4231) := by
    match n, hn with
    | 0, _ => simp at hs0; omega
    | 1, _ => simp at hs0; omega
    | 2, _ => simp at hs0; omega
    | 3, _ => simp at hs0; omega
    | 4, _ => simp at hs0; omega
    | 5, _ => simp at hs0; omega
  clear hs0 hn
  simp only [Tryd.f7, Option.getD_some, atc]
  rcases hcase with ⟨rfl, rfl⟩ | ⟨rfl, rfl⟩ | ⟨rfl, rfl⟩ | ⟨rfl, rfl⟩ | ⟨rfl, rfl⟩ | ⟨rfl, rfl⟩
  all_goals (go_wp2_with fail; exact HB1.out _)
end Go.Proofs.YtfbdgdphpdhcpaaDoor
