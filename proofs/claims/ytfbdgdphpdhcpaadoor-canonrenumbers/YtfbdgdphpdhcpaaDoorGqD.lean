/-
  canonBegun, from its start to its return. No condition but the library's table.
-/
import Derived.Test.YtfbdgdphpdhcpaaDoorMvA
import Derived.Test.YtfbdgdphpdhcpaaDoorMvB
namespace Go.Proofs.YtfbdgdphpdhcpaaDoor
open Go Go.Conc Go.RowKit Sm
set_option maxRecDepth 100000

abbrev GB : FuncId := 12
def IsB (C : Code) : Prop := C = Tryd.f12.body.getD .skip
theorem gb_shape {C : Code} (hC : IsB C) : C = .seq (atc [0] C) (.seq (atc [1, 0] C) (.seq (atc [1, 1, 0] C) (.seq (atc [1, 1, 1, 0] C) .ret))) := by
  rw [hC]
  kernel_rfl
abbrev gbl : List (List Nat) := [[0], [1, 1, 0], [1, 1, 1, 0]]
theorem gb_item : (gbl.all fun l => itemB Tryd.prog afs cgs (.code (atc l (Tryd.f12.body.getD .skip)))) = true := by kernel_rfl
theorem gb_ok {C : Code} (hC : IsB C) {l : List Nat} (h : l ∈ gbl) : itemB Tryd.prog afs cgs (.code (atc l C)) = true := by
  rw [hC]
  exact List.all_eq_true.1 gb_item l h
theorem gb_in : ∃ f, Tryd.prog.funcs[GB]? = some f := ⟨_, Tryd.func12⟩
theorem gb1_shape {C : Code} (hC : IsB C) : atc [1, 0] C = .region 1 (opsOf (atc [1, 0] C)) false := by
  rw [hC]
  kernel_rfl
theorem gb1_ops {C : Code} (hC : IsB C) : ((opsOf (atc [1, 0] C)).map fun o => (o.dst, o.op, o.guard)).toList = [(some 6, .call { callee := .value (.func GA), args := #[.const (.int .i64 3)], argTypes := #[3] }, none), (some 5, .move (.tmp 6), none), (some 7, .extract (.tmp 5) 0, none), (some 8, .extract (.tmp 5) 1, none), (some 1, .assign (.tmp 7), none), (some 2, .assign (.tmp 8), none)] := by
  rw [hC]
  kernel_rfl
theorem below_hb {v w : World} (h : Below v.heap.size v w) : HB v w := ⟨h.size, h.block⟩
theorem moves_two (b : Nat) (fr : Nat × Nat) (w : World) (h : w.heap[b]? = some (.cells #[.int .i64 0, .int .i64 0] 3 fr)) (hT : Tab w) :
    Calls Tryd.prog 19 #[.agg #[.int .i64 2, .slice (some ⟨b, 0, none⟩) 2 2]] w fun e w' => (∃ q cap, e = .returned (.tuple #[.slice q 2 cap, .int .i64 0])) ∧ HB w w' := by
  have hr : Row w (some ⟨b, 0, none⟩) 2 (fun _ => 0) := fun k hk => ⟨b, 0, rfl, by
    unfold World.cell?
    rw [h]
    match k, hk with
    | 0, _ => rfl
    | 1, _ => rfl⟩
  refine (moves_any 2 (some ⟨b, 0, none⟩) 2 2 (fun _ => 0) w (by decide) hr hT).mono ?_
  rintro e w' ⟨⟨c, hc, hp⟩, hb⟩
  have hf : FOk [0, 0] := fok_of (by decide)
  have h0 : FCk 2 2 (fun _ => 0) 0 := by
    refine ⟨0, ?_, by decide⟩
    have h1 := hf.2.2
    refine .inr ⟨2, rfl, by decide, .inr ⟨rfl, .inr ⟨fun k hk => by simp [pw], .inr ⟨rfl, fun u hu => ?_⟩⟩⟩⟩
    exact ⟨by simp [nat], fun p hp hb => by simp [nat] at hb⟩
  have ec : c = 0 := hc.one h0
  rcases hp with ⟨h1, _⟩ | ⟨_, z, rfl, vs, hz, _⟩
  · exact absurd ec h1
  · have hl : (mvL (nat fun _ => 0) 2 (per 2 [] (pw 2 - 1))).length = 2 := by
      show (mvL (fun _ => 0) 2 (per 2 [] (pw 2 - 1))).length = 2
      decide +kernel
    rw [hl] at hz
    obtain ⟨g, cap, rfl⟩ := owns_form hz (by decide)
    subst ec
    exact ⟨⟨_, cap, rfl⟩, below_hb hb⟩
theorem gb_r0 (tm : Array Value) (v : World) : (atc [0] (Tryd.f12.body.getD .skip)).wp Tryd.prog (fun e s w => e = .normal ∧ s.defers = [] ∧ HB v w ∧ s.tmps = tm.setIfInBounds 0 (.bool false)) ⟨tm, []⟩ v := by
  simp only [Tryd.f12, Option.getD_some, atc]
  go_wp2_with fail
  exact HB.refl _
theorem gb_r2 (tm : Array Value) (v : World) (hs : tm.size = 31) (hT : Tab v) : (atc [1, 1, 0] (Tryd.f12.body.getD .skip)).wp Tryd.prog (fun e s w => e = .normal ∧ s.defers = [] ∧ HB v w ∧ s.tmps.size = 31 ∧ (∃ q cap, s.tmps[3]? = some (.slice q 2 cap)) ∧ s.tmps[4]? = some (.int .i64 0) ∧ ∀ j, j < 3 → s.tmps[j]? = tm[j]?) ⟨tm, []⟩ v := by
  have HS : Hid (tm.size = 31) := hs
  have s3 : 3 < tm.size := by omega
  have s4 : 4 < tm.size := by omega
  have s9 : 9 < tm.size := by omega
  have s10 : 10 < tm.size := by omega
  have s11 : 11 < tm.size := by omega
  have s12 : 12 < tm.size := by omega
  have s13 : 13 < tm.size := by omega
  have s14 : 14 < tm.size := by omega
  obtain ⟨w1, HW1⟩ : ∃ w1, Hid (w1 = v.alloc (.cells #[.int .i64 0, .int .i64 0] 3)) := ⟨_, rfl⟩
  have hb1 : HB v w1 := by rw [HW1.out]; exact HB.of (B := v.heap.size) ((Below.refl _ v).alloc (Nat.le_refl _) _) (Nat.le_refl _)
  have HB1 : Hid (HB v w1) := hb1
  have HM := (show Hid _ from moves_two v.heap.size (0, 0) w1 (by rw [HW1.out]; exact heap_new v _) (hb1.tab hT))
  clear hs hb1 hT
  simp only [Tryd.f12, Option.getD_some, atc]
  go_wp2_with (go_at_call 19; rw [← HW1.out]; refine Calls.mono HM.out ?_; rintro e w' ⟨⟨q, cap, rfl⟩, hb⟩)
  refine ⟨HB1.out.trans hb, HS.out, fun j hj => ?_⟩
  repeat rw [Array.getElem?_setIfInBounds_ne (by omega)]
theorem gb_r3 (tm : Array Value) (v : World) (a1 a3 : Option Addr) (c1 c3 : Nat) (hs : tm.size = 31) (h1 : tm[1]? = some (.slice a1 5 c1)) (h2 : tm[2]? = some (.int .i64 0)) (h3 : tm[3]? = some (.slice a3 2 c3)) (h4 : tm[4]? = some (.int .i64 0)) : (atc [1, 1, 1, 0] (Tryd.f12.body.getD .skip)).wp Tryd.prog (fun e s w => e = .normal ∧ s.defers = [] ∧ HB v w ∧ s.tmps.size = 31 ∧ s.tmps[0]? = some (.bool true)) ⟨tm, []⟩ v := by
  have HS : Hid (tm.size = 31) := hs
  have s0 : 0 < tm.size := by omega
  have s15 : 15 < tm.size := by omega
  have s16 : 16 < tm.size := by omega
  have s17 : 17 < tm.size := by omega
  have s18 : 18 < tm.size := by omega
  have s19 : 19 < tm.size := by omega
  have s20 : 20 < tm.size := by omega
  have s21 : 21 < tm.size := by omega
  have s22 : 22 < tm.size := by omega
  have s23 : 23 < tm.size := by omega
  have s24 : 24 < tm.size := by omega
  have s25 : 25 < tm.size := by omega
  have s26 : 26 < tm.size := by omega
  have s27 : 27 < tm.size := by omega
  have s28 : 28 < tm.size := by omega
  have s29 : 29 < tm.size := by omega
  have s30 : 30 < tm.size := by omega
  clear hs
  simp only [Tryd.f12, Option.getD_some, atc]
  go_wp2_with fail
  exact ⟨HB.refl _, HS.out⟩
section
variable {Fin : Value → World → Prop} {K : World} {k : List Item} {rc : List Frame}
/-- canonBegun, from its start to its return. -/
theorem begun_run {C : Code} (hC : IsB C) {r : Nat → Nat → Prop} {v : World} {tm tm' : Array Value} (hx : XR (Rg Tryd.prog afs cgs r) tm tm') (hg : ∀ g ∈ cgs, r g g) (hs : tm.size = 31) (hT : Tab v) (hlow : Tryd.prog.globals.size ≤ v.heap.size) (hp0 : PureB v 0) (hp1 : PureB v 1)
    (hk : ∀ r' v' tm1 tm1', (∀ b b', r b b' → r' b b') → HB v v' → (∀ g ∈ cgs, r' g g) → XR (Rg Tryd.prog afs cgs r') tm1 tm1' → tm1[0]? = some (.bool true) → Tab v' → Tryd.prog.globals.size ≤ v'.heap.size → PureB v' 0 → PureB v' 1 →
      Mc Fin K r' v' (fun _ => none) none (G (fF GB tm1' (.code .ret :: k) [] .normal) rc)) :
    Mc Fin K r v (fun _ => none) none (G (fF GB tm' (.code C :: k) [] .normal) rc) := by
  rw [gb_shape hC]
  refine mmv (mv_seq _ _) ?_
  refine mpiece gb_in (gb_ok hC (by simp)) hg hx (Q := fun s w => HB v w ∧ s.tmps = tm.setIfInBounds 0 (.bool false)) (fun τ => ?_) fun r1 v1 tm1 tm1' hr1 hx1 hq => ?_
  · rw [hC]; exact gb_r0 tm (tap τ v)
  obtain ⟨hb1, e1⟩ := hq
  have e1 : tm1 = _ := e1
  have s1 : tm1.size = 31 := by rw [e1]; simp [hs]
  have g1 : ∀ g ∈ cgs, r1 g g := fun g h => hr1 _ _ (hg g h)
  clear e1
  -- the call of All
  refine mmv (mv_seq _ _) ?_
  rw [gb1_shape hC]
  refine mmv (mv_region _ _) ?_
  have z1 : (opsOf (atc [1, 0] C)).size = 6 := by
    have := congrArg List.length (gb1_ops hC)
    simpa using this
  rw [show List.range (opsOf (atc [1, 0] C)).size = [0, 1, 2, 3, 4, 5] by rw [z1]; rfl]
  obtain ⟨o0, a1, a2, a3, a4⟩ := op_at (gb1_ops hC) 0 rfl
  obtain ⟨o1, b1, b2, b3, b4⟩ := op_at (gb1_ops hC) 1 rfl
  obtain ⟨o2, c1, c2, c3, c4⟩ := op_at (gb1_ops hC) 2 rfl
  obtain ⟨o3, d1, d2, d3, d4⟩ := op_at (gb1_ops hC) 3 rfl
  obtain ⟨o4, f1, f2, f3, f4⟩ := op_at (gb1_ops hC) 4 rfl
  obtain ⟨o5, i1, i2, i3, i4⟩ := op_at (gb1_ops hC) 5 rfl
  generalize opsOf (atc [1, 0] C) = ops at a1 b1 c1 d1 f1 i1 ⊢
  obtain ⟨CA, hCA⟩ : ∃ C, IsA C := ⟨_, rfl⟩
  have hbA : Tryd.f22.body = some CA := by rw [hCA]; rfl
  refine MV.call (by decide) a1 (by unfold Region.wanted; rw [a4]) a3 Tryd.func22 (by decide) hbA ?_
  have eargs : (#[Operand.const (.int .i64 3)].map (Act.eval ⟨tm1', []⟩)) = #[.int .i64 3] := by
    simp [Act.eval]
  rw [eargs]
  show Mc Fin K r1 v1 (fun _ => none) none (G (fF GA (#[.int .i64 3] ++ Array.replicate 19 undef) [.code CA] [] .normal) (fF GB tm1' (.inRegion ops [0, 1, 2, 3, 4, 5] :: _) [] .normal :: rc))
  have ht0 := xr_init1 (VR.int (Rg Tryd.prog afs cgs r1) .i64 3) 19
  have hz : (#[Value.int .i64 3] ++ Array.replicate 19 undef).size = 20 := by simp
  have h0 : (#[Value.int .i64 3] ++ Array.replicate 19 undef)[0]? = some (.int .i64 ((3 : Nat) : Int)) := by rw [Array.getElem?_append_left (by simp)]; rfl
  refine all_run hCA (n := 3) (by decide) (L := lvl) rfl lvl_three ht0 g1 hz h0 (hb1.tab hT) (Nat.le_trans hlow hb1.1) (hb1.pure hp0) (hb1.pure hp1) fun r2 v2 tm2 tm2' gv cv hr2 hb2 g2 hx2 sz2 q2 q3 _ hT2 hlow2 p02 p12 => ?_
  rw [lvl3_len] at q2
  obtain ⟨y', q2', hy'⟩ := hx2.at q2
  have q3' := hx2.same q3
  have hret := ret_two (F := Tryd.f22) (t := 2) (u := 3) rfl q2' q3'
  refine MV.ret Tryd.func22 (fun w => (hret w).1) (fun w => (hret w).2) a1 ?_
  rw [a2]
  have hx3 : XR (Rg Tryd.prog afs cgs r2) (tm1.setIfInBounds 6 (.tuple #[.slice (some ⟨gv, 0, none⟩) 5 cv, .int .i64 0])) (tm1'.setIfInBounds 6 (.tuple #[y', .int .i64 0])) := (hx1.mono (rg_le hr2)).set 6 (VR.tuple (xr2 hy' (VR.int _ _ _)))
  show Mc Fin K r2 v2 (fun _ => none) none (G (fF GB (tm1'.setIfInBounds 6 (.tuple #[y', .int .i64 0])) (.inRegion ops [1, 2, 3, 4, 5] :: _) [] .normal) rc)
  have u6 : (tm1.setIfInBounds 6 (.tuple #[.slice (some ⟨gv, 0, none⟩) 5 cv, .int .i64 0]))[6]? = some (.tuple #[.slice (some ⟨gv, 0, none⟩) 5 cv, .int .i64 0]) := set_at (by rw [s1]; decide) _
  have s3 : (tm1.setIfInBounds 6 (.tuple #[.slice (some ⟨gv, 0, none⟩) 5 cv, .int .i64 0])).size = 31 := by simp [s1]
  generalize (tm1.setIfInBounds 6 (.tuple #[.slice (some ⟨gv, 0, none⟩) 5 cv, .int .i64 0])) = tm3 at *
  generalize (tm1'.setIfInBounds 6 (.tuple #[y', .int .i64 0])) = tm3' at *
  -- what it answers is taken apart
  refine mval g2 b1 (by rw [b3]; rfl) b4 hx3 (.inl rfl) (x := .tuple #[.slice (some ⟨gv, 0, none⟩) 5 cv, .int .i64 0]) (v1 := v2) (fun τ => by
    unfold execOp
    rw [b3]
    simp only [eval_tmp u6]
    rfl) fun r4 tm4' hr4 hx4 => ?_
  rw [b2] at hx4
  have hx4 : XR (Rg Tryd.prog afs cgs r4) (tm3.setIfInBounds 5 (.tuple #[.slice (some ⟨gv, 0, none⟩) 5 cv, .int .i64 0])) tm4' := hx4
  have u5 : (tm3.setIfInBounds 5 (.tuple #[.slice (some ⟨gv, 0, none⟩) 5 cv, .int .i64 0]))[5]? = some (.tuple #[.slice (some ⟨gv, 0, none⟩) 5 cv, .int .i64 0]) := set_at (by rw [s3]; decide) _
  have s4 : (tm3.setIfInBounds 5 (.tuple #[.slice (some ⟨gv, 0, none⟩) 5 cv, .int .i64 0])).size = 31 := by simp [s3]
  generalize (tm3.setIfInBounds 5 (.tuple #[.slice (some ⟨gv, 0, none⟩) 5 cv, .int .i64 0])) = tm4 at *
  have g4 : ∀ g ∈ cgs, r4 g g := fun g h => hr4 _ _ (g2 g h)
  refine mval g4 c1 (by rw [c3]; rfl) c4 hx4 (.inl rfl) (x := .slice (some ⟨gv, 0, none⟩) 5 cv) (v1 := v2) (fun τ => by
    unfold execOp
    rw [c3]
    simp only [eval_tmp u5]
    go_simp) fun r5 tm5' hr5 hx5 => ?_
  rw [c2] at hx5
  have hx5 : XR (Rg Tryd.prog afs cgs r5) (tm4.setIfInBounds 7 (.slice (some ⟨gv, 0, none⟩) 5 cv)) tm5' := hx5
  have v7 : (tm4.setIfInBounds 7 (.slice (some ⟨gv, 0, none⟩) 5 cv))[7]? = some (.slice (some ⟨gv, 0, none⟩) 5 cv) := set_at (by rw [s4]; decide) _
  have v5 : (tm4.setIfInBounds 7 (.slice (some ⟨gv, 0, none⟩) 5 cv))[5]? = some (.tuple #[.slice (some ⟨gv, 0, none⟩) 5 cv, .int .i64 0]) := (set_ne (by decide) _).trans u5
  have s5 : (tm4.setIfInBounds 7 (.slice (some ⟨gv, 0, none⟩) 5 cv)).size = 31 := by simp [s4]
  generalize (tm4.setIfInBounds 7 (.slice (some ⟨gv, 0, none⟩) 5 cv)) = tm5 at *
  have g5 : ∀ g ∈ cgs, r5 g g := fun g h => hr5 _ _ (g4 g h)
  refine mval g5 d1 (by rw [d3]; rfl) d4 hx5 (.inl rfl) (x := .int .i64 0) (v1 := v2) (fun τ => by
    unfold execOp
    rw [d3]
    simp only [eval_tmp v5]
    go_simp) fun r6 tm6' hr6 hx6 => ?_
  rw [d2] at hx6
  have hx6 : XR (Rg Tryd.prog afs cgs r6) (tm5.setIfInBounds 8 (.int .i64 0)) tm6' := hx6
  have w8 : (tm5.setIfInBounds 8 (.int .i64 0))[8]? = some (.int .i64 0) := set_at (by rw [s5]; decide) _
  have w7 : (tm5.setIfInBounds 8 (.int .i64 0))[7]? = some (.slice (some ⟨gv, 0, none⟩) 5 cv) := (set_ne (by decide) _).trans v7
  have s6 : (tm5.setIfInBounds 8 (.int .i64 0)).size = 31 := by simp [s5]
  generalize (tm5.setIfInBounds 8 (.int .i64 0)) = tm6 at *
  have g6 : ∀ g ∈ cgs, r6 g g := fun g h => hr6 _ _ (g5 g h)
  refine mval g6 f1 (by rw [f3]; rfl) f4 hx6 (.inl rfl) (x := .slice (some ⟨gv, 0, none⟩) 5 cv) (v1 := v2) (fun τ => by
    unfold execOp
    rw [f3]
    simp only [eval_tmp w7]
    rfl) fun r7 tm7' hr7 hx7 => ?_
  rw [f2] at hx7
  have hx7 : XR (Rg Tryd.prog afs cgs r7) (tm6.setIfInBounds 1 (.slice (some ⟨gv, 0, none⟩) 5 cv)) tm7' := hx7
  have x1 : (tm6.setIfInBounds 1 (.slice (some ⟨gv, 0, none⟩) 5 cv))[1]? = some (.slice (some ⟨gv, 0, none⟩) 5 cv) := set_at (by rw [s6]; decide) _
  have x8 : (tm6.setIfInBounds 1 (.slice (some ⟨gv, 0, none⟩) 5 cv))[8]? = some (.int .i64 0) := (set_ne (by decide) _).trans w8
  have s7 : (tm6.setIfInBounds 1 (.slice (some ⟨gv, 0, none⟩) 5 cv)).size = 31 := by simp [s6]
  generalize (tm6.setIfInBounds 1 (.slice (some ⟨gv, 0, none⟩) 5 cv)) = tm7 at *
  have g7 : ∀ g ∈ cgs, r7 g g := fun g h => hr7 _ _ (g6 g h)
  refine mval g7 i1 (by rw [i3]; rfl) i4 hx7 (.inl rfl) (x := .int .i64 0) (v1 := v2) (fun τ => by
    unfold execOp
    rw [i3]
    simp only [eval_tmp x8]
    rfl) fun r8 tm8' hr8 hx8 => ?_
  rw [i2] at hx8
  have hx8 : XR (Rg Tryd.prog afs cgs r8) (tm7.setIfInBounds 2 (.int .i64 0)) tm8' := hx8
  have y1 : (tm7.setIfInBounds 2 (.int .i64 0))[1]? = some (.slice (some ⟨gv, 0, none⟩) 5 cv) := (set_ne (by decide) _).trans x1
  have y2 : (tm7.setIfInBounds 2 (.int .i64 0))[2]? = some (.int .i64 0) := set_at (by rw [s7]; decide) _
  have s8 : (tm7.setIfInBounds 2 (.int .i64 0)).size = 31 := by simp [s7]
  generalize (tm7.setIfInBounds 2 (.int .i64 0)) = tm8 at *
  have g8 : ∀ g ∈ cgs, r8 g g := fun g h => hr8 _ _ (g7 g h)
  refine mmv (mv_done _) ?_
  -- the call of Moves
  refine mmv (mv_seq _ _) ?_
  refine mpiece gb_in (gb_ok hC (by simp)) g8 hx8 (Q := fun s w => HB v2 w ∧ s.tmps.size = 31 ∧ (∃ q cap, s.tmps[3]? = some (.slice q 2 cap)) ∧ s.tmps[4]? = some (.int .i64 0) ∧ ∀ j, j < 3 → s.tmps[j]? = tm8[j]?) (fun τ => ?_) fun r9 v9 tm9 tm9' hr9 hx9 hq => ?_
  · rw [hC]; exact gb_r2 tm8 (tap τ v2) s8 hT2
  obtain ⟨hb9, s9, ⟨q, cap, k3⟩, k4, e9⟩ := hq
  refine mmv (mv_seq _ _) ?_
  refine mpiece gb_in (gb_ok hC (by simp)) (fun g h => hr9 _ _ (g8 g h)) hx9 (Q := fun s w => HB v9 w ∧ s.tmps.size = 31 ∧ s.tmps[0]? = some (.bool true)) (fun τ => ?_) fun r10 v10 tm10 tm10' hr10 hx10 hq => ?_
  · rw [hC]; exact gb_r3 tm9 (tap τ v9) _ _ _ _ s9 ((e9 1 (by decide)).trans y1) ((e9 2 (by decide)).trans y2) k3 k4
  obtain ⟨hb10, s10, t0⟩ := hq
  have hbl : HB v2 v10 := hb9.trans hb10
  exact hk r10 v10 tm10 tm10' (fun b b' z => hr10 _ _ (hr9 _ _ (hr8 _ _ (hr7 _ _ (hr6 _ _ (hr5 _ _ (hr4 _ _ (hr2 _ _ (hr1 _ _ z))))))))) ((hb1.trans hb2).trans hbl) (fun g h => hr10 _ _ (hr9 _ _ (g8 g h))) hx10 t0 (hbl.tab hT2) (Nat.le_trans hlow2 hbl.1) (hbl.pure p02) (hbl.pure p12)
end
end Go.Proofs.YtfbdgdphpdhcpaaDoor
