/-
  CanonCounts, from its start to its return. Condition: the library's tables.
  CanonCounts, whoever is picked. Condition: the library's tables.
-/
import Derived.Test.YtfbdgdphpdhcpaaDoorGqI
namespace Go.Proofs.YtfbdgdphpdhcpaaDoor
open Go Go.Conc Go.RowKit Sm
set_option maxRecDepth 100000

section
variable {Fin : Value → World → Prop} {K : World} {k : List Item} {rc : List Frame}
set_option maxHeartbeats 2000000 in
theorem k_run {C : Code} (hC : IsK C) {n : Int} (n1 : -9223372036854775808 ≤ n) (n2 : n ≤ 9223372036854775807) {r : Nat → Nat → Prop} {v : World} {tm tm' : Array Value} (hx : XR (Rg Tryd.prog afs cgs r) tm tm') (hg : ∀ g ∈ cgs, r g g) (hs : tm.size = 62) (t0 : tm[0]? = some (.int .i64 n)) (hT : Tab v) (hlow : Tryd.prog.globals.size ≤ v.heap.size) (hp0 : PureB v 0) (hp1 : PureB v 1)
    (hk : ∀ r' v' tm1 tm1', XR (Rg Tryd.prog afs cgs r') tm1 tm1' → tm1[2]? = some (.bool true) → Mc Fin K r' v' (fun _ => none) none (G (fF GK tm1' (.code .ret :: k) [] .normal) rc)) :
    Mc Fin K r v (fun _ => none) none (G (fF GK tm' (.code C :: k) [] .normal) rc) := by
  rw [gk_shape hC]
  refine mmv (mv_seq _ _) ?_
  refine mpiece gk_in (gk_ok hC (by simp)) hg hx (Q := fun s w => HB v w ∧ s.tmps = tm.setIfInBounds 2 (.bool false)) (fun τ => ?_) fun r1 v1 tm1 tm1' hr1 hx1 hq => ?_
  · rw [hC]; exact k_r0 tm (tap τ v) hs
  obtain ⟨hb1, e1⟩ := hq
  have e1 : tm1 = _ := e1
  have s1 : tm1.size = 62 := by rw [e1]; simp [hs]
  have a0 : tm1[0]? = some (.int .i64 n) := by rw [e1, set_ne (by decide)]; exact t0
  have g1 : ∀ g ∈ cgs, r1 g g := fun g h => hr1 _ _ (hg g h)
  clear e1
  -- the call of canonBegun
  refine mmv (mv_seq _ _) ?_
  refine mmv (mv_seq _ _) ?_
  rw [gk1_shape hC]
  refine mmv (mv_region _ _) ?_
  have z1 : (opsOf (atc [1, 0, 0] C)).size = 2 := by
    have := congrArg List.length (gk1_ops hC)
    simpa using this
  rw [show List.range (opsOf (atc [1, 0, 0] C)).size = [0, 1] by rw [z1]; rfl]
  obtain ⟨o0, a1, a2, a3, a4⟩ := op_at (gk1_ops hC) 0 rfl
  obtain ⟨o1, b1, b2, b3, b4⟩ := op_at (gk1_ops hC) 1 rfl
  generalize opsOf (atc [1, 0, 0] C) = ops at a1 b1 ⊢
  obtain ⟨CB, hCB⟩ : ∃ C, IsB C := ⟨_, rfl⟩
  have hbB : Tryd.f12.body = some CB := by rw [hCB]; rfl
  refine MV.call (by decide) a1 (by unfold Region.wanted; rw [a4]) a3 Tryd.func12 (by decide) hbB ?_
  have eargs0 : ((#[] : Array Operand).map (Act.eval ⟨tm1', []⟩)) = #[] := by simp
  rw [eargs0]
  show Mc Fin K r1 v1 (fun _ => none) none (G (fF GB (#[] ++ Array.replicate 31 undef) [.code CB] [] .normal) (fF GK tm1' (.inRegion ops [0, 1] :: _) [] .normal :: rc))
  have ht0 : XR (Rg Tryd.prog afs cgs r1) (#[] ++ Array.replicate 31 undef) (#[] ++ Array.replicate 31 undef) := by
    have := XR.rep (R := Rg Tryd.prog afs cgs r1) 31
    simpa using this
  refine begun_run hCB ht0 g1 (by simp) (hb1.tab hT) (Nat.le_trans hlow hb1.1) (hb1.pure hp0) (hb1.pure hp1) fun r2 v2 tm2 tm2' hr2 hb2 g2 hx2 q0 hT2 hlow2 p02 p12 => ?_
  have q0' := vr_bool hx2 q0
  have hret := ret_one (F := Tryd.f12) (t := 0) rfl q0'
  refine MV.ret Tryd.func12 (fun w => (hret w).1) (fun w => (hret w).2) a1 ?_
  rw [a2]
  have hx3 : XR (Rg Tryd.prog afs cgs r2) (tm1.setIfInBounds 9 (.bool true)) (tm1'.setIfInBounds 9 (.bool true)) := (hx1.mono (rg_le hr2)).set 9 (VR.bool _ _)
  show Mc Fin K r2 v2 (fun _ => none) none (G (fF GK (tm1'.setIfInBounds 9 (.bool true)) (.inRegion ops [1] :: _) [] .normal) rc)
  have u9 : (tm1.setIfInBounds 9 (.bool true))[9]? = some (.bool true) := set_at (by rw [s1]; decide) _
  refine mval g2 b1 (by rw [b3]; rfl) b4 hx3 (.inl rfl) (x := .bool false) (v1 := v2) (fun τ => by
    unfold execOp
    rw [b3]
    simp only [eval_tmp u9]
    go_simp) fun r4 tm4' hr4 hx4 => ?_
  rw [b2] at hx4
  have hx4 : XR (Rg Tryd.prog afs cgs r4) ((tm1.setIfInBounds 9 (.bool true)).setIfInBounds 10 (.bool false)) tm4' := hx4
  have u10 : ((tm1.setIfInBounds 9 (.bool true)).setIfInBounds 10 (.bool false))[10]? = some (.bool false) := set_at (by simp [s1]) _
  have w0 : ((tm1.setIfInBounds 9 (.bool true)).setIfInBounds 10 (.bool false))[0]? = some (.int .i64 n) := by rw [set_ne (by decide), set_ne (by decide)]; exact a0
  have s4 : ((tm1.setIfInBounds 9 (.bool true)).setIfInBounds 10 (.bool false)).size = 62 := by simp [s1]
  generalize ((tm1.setIfInBounds 9 (.bool true)).setIfInBounds 10 (.bool false)) = tm4 at *
  have g4 : ∀ g ∈ cgs, r4 g g := fun g h => hr4 _ _ (g2 g h)
  refine mmv (mv_done _) ?_
  refine mmv (mv_cond (b := false) (eval_tmp (D := []) (vr_bool hx4 u10))) ?_
  refine mmv mv_skip ?_
  -- the number of points
  refine mmv (mv_seq _ _) ?_
  refine mpiece gk_in (gk_ok hC (by simp)) g4 hx4 (Q := fun s w => HB v2 w ∧ ∃ m : Nat, m ≤ 5 ∧ s.tmps.size = 62 ∧ s.tmps[0]? = some (.int .i64 (m : Nat))) (fun τ => ?_) fun r5 v5 tm5 tm5' hr5 hx5 hq => ?_
  · rw [hC]; exact k_r3 tm4 n (tap τ v2) s4 w0 n1 n2
  obtain ⟨hb5, m, hm, s5, c0⟩ := hq
  have c0 : tm5[0]? = _ := c0
  have s5 : tm5.size = 62 := s5
  have g5 : ∀ g ∈ cgs, r5 g g := fun g h => hr5 _ _ (g4 g h)
  have hT5 := hb5.tab hT2
  have hlow5 := Nat.le_trans hlow2 hb5.1
  have p05 := hb5.pure p02
  have p15 := hb5.pure p12
  clear hx1 hx2 hx3 hx4 hT2 hlow2 p02 p12 hT hlow hp0 hp1 a1 b1
  -- the call of All
  refine mmv (mv_seq _ _) ?_
  rw [gk4_shape hC]
  refine mmv (mv_region _ _) ?_
  have z4 : (opsOf (atc [1, 1, 1, 0] C)).size = 7 := by
    have := congrArg List.length (gk4_ops hC)
    simpa using this
  rw [show List.range (opsOf (atc [1, 1, 1, 0] C)).size = [0, 1, 2, 3, 4, 5, 6] by rw [z4]; rfl]
  obtain ⟨o0, a1, a2, a3, a4⟩ := op_at (gk4_ops hC) 0 rfl
  obtain ⟨o1, b1, b2, b3, b4⟩ := op_at (gk4_ops hC) 1 rfl
  obtain ⟨o2, c1, c2, c3, c4⟩ := op_at (gk4_ops hC) 2 rfl
  obtain ⟨o3, d1, d2, d3, d4⟩ := op_at (gk4_ops hC) 3 rfl
  obtain ⟨o4, f1, f2, f3, f4⟩ := op_at (gk4_ops hC) 4 rfl
  obtain ⟨o5, i1, i2, i3, i4⟩ := op_at (gk4_ops hC) 5 rfl
  obtain ⟨o6, j1, j2, j3, j4⟩ := op_at (gk4_ops hC) 6 rfl
  generalize opsOf (atc [1, 1, 1, 0] C) = ops at a1 b1 c1 d1 f1 i1 j1 ⊢
  refine mval g5 a1 (by rw [a3]; rfl) a4 hx5 (.inl rfl) (x := .int .i64 (m : Nat)) (v1 := v5) (fun τ => by
    unfold execOp
    rw [a3]
    simp only [eval_tmp c0]
    rfl) fun r6 tm6' hr6 hx6 => ?_
  rw [a2] at hx6
  have hx6 : XR (Rg Tryd.prog afs cgs r6) (tm5.setIfInBounds 14 (.int .i64 (m : Nat))) tm6' := hx6
  have d14 : (tm5.setIfInBounds 14 (.int .i64 (m : Nat)))[14]? = some (.int .i64 (m : Nat)) := set_at (by rw [s5]; decide) _
  have d0 : (tm5.setIfInBounds 14 (.int .i64 (m : Nat)))[0]? = some (.int .i64 (m : Nat)) := (set_ne (by decide) _).trans c0
  have s6 : (tm5.setIfInBounds 14 (.int .i64 (m : Nat))).size = 62 := by simp [s5]
  generalize (tm5.setIfInBounds 14 (.int .i64 (m : Nat))) = tm6 at *
  have g6 : ∀ g ∈ cgs, r6 g g := fun g h => hr6 _ _ (g5 g h)
  have d14' := hx6.same d14
  obtain ⟨CA, hCA⟩ : ∃ C, IsA C := ⟨_, rfl⟩
  have hbA : Tryd.f22.body = some CA := by rw [hCA]; rfl
  refine MV.call (by decide) b1 (by unfold Region.wanted; rw [b4]) b3 Tryd.func22 (by decide) hbA ?_
  have eargs : (#[Operand.tmp 14].map (Act.eval ⟨tm6', []⟩)) = #[.int .i64 (m : Nat)] := by
    simp [eval_tmp d14']
  rw [eargs]
  have hsz : Tryd.f22.ntmps - (#[Value.int .i64 (m : Nat)]).size = 19 := by rw [Tryd.ntmps22]; rfl
  rw [hsz]
  have ht1 := xr_init1 (VR.int (Rg Tryd.prog afs cgs r6) .i64 (m : Nat)) 19
  have hz : (#[Value.int .i64 (m : Nat)] ++ Array.replicate 19 undef).size = 20 := by simp
  have h0 : (#[Value.int .i64 (m : Nat)] ++ Array.replicate 19 undef)[0]? = some (.int .i64 (m : Nat)) := by rw [Array.getElem?_append_left (by simp)]; rfl
  refine all_run hCA (n := m) hm (L := lvq) rfl (fun i hi => lvq_stp i (by omega)) ht1 g6 hz h0 hT5 hlow5 p05 p15 fun r7 v7 tm7 tm7' gv cv hr7 hb7 g7 hx7 sz7 q2 q3 hlo hT7 hlow7 p07 p17 => ?_
  obtain ⟨y', q2', hy'⟩ := hx7.at q2
  have q3' := hx7.same q3
  have hret := ret_two (F := Tryd.f22) (t := 2) (u := 3) rfl q2' q3'
  refine MV.ret Tryd.func22 (fun w => (hret w).1) (fun w => (hret w).2) b1 ?_
  rw [b2]
  have hx8 : XR (Rg Tryd.prog afs cgs r7) (tm6.setIfInBounds 15 (.tuple #[.slice (some ⟨gv, 0, none⟩) (lvq m).length cv, .int .i64 0])) (tm6'.setIfInBounds 15 (.tuple #[y', .int .i64 0])) := (hx6.mono (rg_le hr7)).set 15 (VR.tuple (xr2 hy' (VR.int _ _ _)))
  show Mc Fin K r7 v7 (fun _ => none) none (G (fF GK (tm6'.setIfInBounds 15 (.tuple #[y', .int .i64 0])) (.inRegion ops [2, 3, 4, 5, 6] :: _) [] .normal) rc)
  have u15 : (tm6.setIfInBounds 15 (.tuple #[.slice (some ⟨gv, 0, none⟩) (lvq m).length cv, .int .i64 0]))[15]? = some (.tuple #[.slice (some ⟨gv, 0, none⟩) (lvq m).length cv, .int .i64 0]) := set_at (by rw [s6]; decide) _
  have e0 : (tm6.setIfInBounds 15 (.tuple #[.slice (some ⟨gv, 0, none⟩) (lvq m).length cv, .int .i64 0]))[0]? = some (.int .i64 (m : Nat)) := (set_ne (by decide) _).trans d0
  have s8 : (tm6.setIfInBounds 15 (.tuple #[.slice (some ⟨gv, 0, none⟩) (lvq m).length cv, .int .i64 0])).size = 62 := by simp [s6]
  generalize (tm6.setIfInBounds 15 (.tuple #[.slice (some ⟨gv, 0, none⟩) (lvq m).length cv, .int .i64 0])) = tm8 at *
  generalize (tm6'.setIfInBounds 15 (.tuple #[y', .int .i64 0])) = tm8' at *
  refine mval g7 c1 (by rw [c3]; rfl) c4 hx8 (.inl rfl) (x := .tuple #[.slice (some ⟨gv, 0, none⟩) (lvq m).length cv, .int .i64 0]) (v1 := v7) (fun τ => by
    unfold execOp
    rw [c3]
    simp only [eval_tmp u15]
    rfl) fun r9 tm9' hr9 hx9 => ?_
  rw [c2] at hx9
  have hx9 : XR (Rg Tryd.prog afs cgs r9) (tm8.setIfInBounds 13 (.tuple #[.slice (some ⟨gv, 0, none⟩) (lvq m).length cv, .int .i64 0])) tm9' := hx9
  have u13 : (tm8.setIfInBounds 13 (.tuple #[.slice (some ⟨gv, 0, none⟩) (lvq m).length cv, .int .i64 0]))[13]? = some (.tuple #[.slice (some ⟨gv, 0, none⟩) (lvq m).length cv, .int .i64 0]) := set_at (by rw [s8]; decide) _
  have f0 : (tm8.setIfInBounds 13 (.tuple #[.slice (some ⟨gv, 0, none⟩) (lvq m).length cv, .int .i64 0]))[0]? = some (.int .i64 (m : Nat)) := (set_ne (by decide) _).trans e0
  have s9 : (tm8.setIfInBounds 13 (.tuple #[.slice (some ⟨gv, 0, none⟩) (lvq m).length cv, .int .i64 0])).size = 62 := by simp [s8]
  generalize (tm8.setIfInBounds 13 (.tuple #[.slice (some ⟨gv, 0, none⟩) (lvq m).length cv, .int .i64 0])) = tm9 at *
  have g9 : ∀ g ∈ cgs, r9 g g := fun g h => hr9 _ _ (g7 g h)
  refine mval g9 d1 (by rw [d3]; rfl) d4 hx9 (.inl rfl) (x := .slice (some ⟨gv, 0, none⟩) (lvq m).length cv) (v1 := v7) (fun τ => by
    unfold execOp
    rw [d3]
    simp only [eval_tmp u13]
    go_simp) fun r10 tm10' hr10 hx10 => ?_
  rw [d2] at hx10
  have hx10 : XR (Rg Tryd.prog afs cgs r10) (tm9.setIfInBounds 16 (.slice (some ⟨gv, 0, none⟩) (lvq m).length cv)) tm10' := hx10
  have v16 : (tm9.setIfInBounds 16 (.slice (some ⟨gv, 0, none⟩) (lvq m).length cv))[16]? = some (.slice (some ⟨gv, 0, none⟩) (lvq m).length cv) := set_at (by rw [s9]; decide) _
  have v13 : (tm9.setIfInBounds 16 (.slice (some ⟨gv, 0, none⟩) (lvq m).length cv))[13]? = some (.tuple #[.slice (some ⟨gv, 0, none⟩) (lvq m).length cv, .int .i64 0]) := (set_ne (by decide) _).trans u13
  have h0' : (tm9.setIfInBounds 16 (.slice (some ⟨gv, 0, none⟩) (lvq m).length cv))[0]? = some (.int .i64 (m : Nat)) := (set_ne (by decide) _).trans f0
  have s10 : (tm9.setIfInBounds 16 (.slice (some ⟨gv, 0, none⟩) (lvq m).length cv)).size = 62 := by simp [s9]
  generalize (tm9.setIfInBounds 16 (.slice (some ⟨gv, 0, none⟩) (lvq m).length cv)) = tm10 at *
  have g10 : ∀ g ∈ cgs, r10 g g := fun g h => hr10 _ _ (g9 g h)
  refine mval g10 f1 (by rw [f3]; rfl) f4 hx10 (.inl rfl) (x := .int .i64 0) (v1 := v7) (fun τ => by
    unfold execOp
    rw [f3]
    simp only [eval_tmp v13]
    go_simp) fun r11 tm11' hr11 hx11 => ?_
  rw [f2] at hx11
  have hx11 : XR (Rg Tryd.prog afs cgs r11) (tm10.setIfInBounds 17 (.int .i64 0)) tm11' := hx11
  have w17 : (tm10.setIfInBounds 17 (.int .i64 0))[17]? = some (.int .i64 0) := set_at (by rw [s10]; decide) _
  have w16 : (tm10.setIfInBounds 17 (.int .i64 0))[16]? = some (.slice (some ⟨gv, 0, none⟩) (lvq m).length cv) := (set_ne (by decide) _).trans v16
  have w0' : (tm10.setIfInBounds 17 (.int .i64 0))[0]? = some (.int .i64 (m : Nat)) := (set_ne (by decide) _).trans h0'
  have s11 : (tm10.setIfInBounds 17 (.int .i64 0)).size = 62 := by simp [s10]
  generalize (tm10.setIfInBounds 17 (.int .i64 0)) = tm11 at *
  have g11 : ∀ g ∈ cgs, r11 g g := fun g h => hr11 _ _ (g10 g h)
  refine mval g11 i1 (by rw [i3]; rfl) i4 hx11 (.inl rfl) (x := .slice (some ⟨gv, 0, none⟩) (lvq m).length cv) (v1 := v7) (fun τ => by
    unfold execOp
    rw [i3]
    simp only [eval_tmp w16]
    rfl) fun r12 tm12' hr12 hx12 => ?_
  rw [i2] at hx12
  have hx12 : XR (Rg Tryd.prog afs cgs r12) (tm11.setIfInBounds 3 (.slice (some ⟨gv, 0, none⟩) (lvq m).length cv)) tm12' := hx12
  have x3 : (tm11.setIfInBounds 3 (.slice (some ⟨gv, 0, none⟩) (lvq m).length cv))[3]? = some (.slice (some ⟨gv, 0, none⟩) (lvq m).length cv) := set_at (by rw [s11]; decide) _
  have x17 : (tm11.setIfInBounds 3 (.slice (some ⟨gv, 0, none⟩) (lvq m).length cv))[17]? = some (.int .i64 0) := (set_ne (by decide) _).trans w17
  have x0 : (tm11.setIfInBounds 3 (.slice (some ⟨gv, 0, none⟩) (lvq m).length cv))[0]? = some (.int .i64 (m : Nat)) := (set_ne (by decide) _).trans w0'
  have s12 : (tm11.setIfInBounds 3 (.slice (some ⟨gv, 0, none⟩) (lvq m).length cv)).size = 62 := by simp [s11]
  generalize (tm11.setIfInBounds 3 (.slice (some ⟨gv, 0, none⟩) (lvq m).length cv)) = tm12 at *
  have g12 : ∀ g ∈ cgs, r12 g g := fun g h => hr12 _ _ (g11 g h)
  refine mval g12 j1 (by rw [j3]; rfl) j4 hx12 (.inl rfl) (x := .int .i64 0) (v1 := v7) (fun τ => by
    unfold execOp
    rw [j3]
    simp only [eval_tmp x17]
    rfl) fun r13 tm13' hr13 hx13 => ?_
  rw [j2] at hx13
  have hx13 : XR (Rg Tryd.prog afs cgs r13) (tm12.setIfInBounds 4 (.int .i64 0)) tm13' := hx13
  have y4 : (tm12.setIfInBounds 4 (.int .i64 0))[4]? = some (.int .i64 0) := set_at (by rw [s12]; decide) _
  have y3 : (tm12.setIfInBounds 4 (.int .i64 0))[3]? = some (.slice (some ⟨gv, 0, none⟩) (lvq m).length cv) := (set_ne (by decide) _).trans x3
  have y0 : (tm12.setIfInBounds 4 (.int .i64 0))[0]? = some (.int .i64 (m : Nat)) := (set_ne (by decide) _).trans x0
  have s13 : (tm12.setIfInBounds 4 (.int .i64 0)).size = 62 := by simp [s12]
  generalize (tm12.setIfInBounds 4 (.int .i64 0)) = tm13 at *
  have g13 : ∀ g ∈ cgs, r13 g g := fun g h => hr13 _ _ (g12 g h)
  refine mmv (mv_done _) ?_
  -- no error
  refine mmv (mv_seq _ _) ?_
  refine mmv (mv_seq _ _) ?_
  refine mpiece gk_in (gk_ok hC (by simp)) g13 hx13 (Q := fun s w => HB v7 w ∧ s.tmps.size = 62 ∧ s.tmps[19]? = some (.bool false) ∧ ∀ j, j < 18 → s.tmps[j]? = tm13[j]?) (fun τ => ?_) fun ra va tma tma' hra hxa hq => ?_
  · rw [hC]; exact k_r5 tm13 (tap τ v7) s13 y4
  obtain ⟨hba, sa, k19, ea⟩ := hq
  refine mmv (mv_cond (b := false) (eval_tmp (D := []) (vr_bool hxa k19))) ?_
  refine mmv mv_skip ?_
  refine mmv (mv_seq _ _) ?_
  refine mpiece gk_in (gk_ok hC (by simp)) (fun g h => hra _ _ (g13 g h)) hxa (Q := fun s w => HB va w ∧ s.tmps = tma.setIfInBounds 5 (.int .i64 0)) (fun τ => ?_) fun rb vb tmb tmb' hrb hxb hq => ?_
  · rw [hC]; exact k_r7 tma (tap τ va) sa
  obtain ⟨hbb, eb⟩ := hq
  have eb : tmb = _ := eb
  have sa : tma.size = 62 := sa
  have sb : tmb.size = 62 := by rw [eb]; simp [sa]
  refine mmv (mv_seq _ _) ?_
  refine mmv (mv_seq _ _) ?_
  refine mpiece gk_in (gk_ok hC (by simp)) (fun g h => hrb _ _ (hra _ _ (g13 g h))) hxb (Q := fun s w => HB vb w ∧ s.tmps = tmb.setIfInBounds 6 (.int .i64 0)) (fun τ => ?_) fun rd vd tmd tmd' hrd hxd hq => ?_
  · rw [hC]; exact k_r8 tmb (tap τ vb) sb
  obtain ⟨hbd, ed⟩ := hq
  have ed : tmd = _ := ed
  have hbl : HB v7 vd := (hba.trans hbb).trans hbd
  refine mmv (mv_block _ _) ?_
  refine mmv (mv_loop _) ?_
  refine k_loop hC (v0 := vd) (bf := gv) (capf := cv) hm (fun re ve tme tme' he => ?_) (lvq m).length 0 (by omega) rd vd tmd tmd' ⟨HB.refl _, hxd, fun g h => hrd _ _ (hrb _ _ (hra _ _ (g13 g h))), by rw [ed]; simp [sb], by rw [ed, set_ne (by decide), eb, set_ne (by decide), ea 0 (by decide)]; exact y0, by rw [ed, set_ne (by decide), eb, set_ne (by decide), ea 3 (by decide)]; exact y3, by rw [ed, set_ne (by decide), eb, set_at (by rw [sa]; decide)]; rfl, by rw [ed, set_at (by rw [sb]; decide)]; rfl, hlo.hn (hbl.hn 70), hbl.tab hT7⟩
  refine mmv (mv_seq _ _) ?_
  have t5 := he.t5
  rw [List.take_length] at t5
  refine mpiece gk_in (gk_ok hC (by simp)) he.rg he.xr (Q := fun s w => HB ve w ∧ s.tmps[2]? = some (.bool true)) (fun τ => ?_) fun rf vf tmf tmf' hrf hxf hq => ?_
  · rw [hC]; exact k_r15 tme m _ (tap τ ve) he.sz hm t5 he.t0 (lvq_sum m hm)
  exact hk rf vf tmf tmf' hxf hq.2
end
end Go.Proofs.YtfbdgdphpdhcpaaDoor
namespace Go.Proofs.YtfbdgdphpdhcpaaDoor
open Go Go.Conc Go.RowKit Sm
set_option maxRecDepth 100000

/-- The world that is seen: two rows of numbers, frozen. -/
def seenW (W : World) (t0 t1 : TypeId) (f0 f1 : Nat) (c1 : Array Value) : World := { W with heap := (W.heap.setIfInBounds 0 (.cells #[] t0 (0, f0))).setIfInBounds 1 (.cells (c1.extract 0 64) t1 (0, max 64 f1)) }
theorem counts_win (W : World) (hT : Tab W) (h0 : ∃ c t fr, W.heap[0]? = some (.cells c t fr)) {n : Int} (n1 : -9223372036854775808 ≤ n) (n2 : n ≤ 9223372036854775807) :
    Win Tryd.prog (fun y w => y = .bool true ∧ Kp W w) (solo (G (Frame.enter Tryd.prog GK #[.int .i64 n] .normal) []) W) #[] := by
  obtain ⟨c0, t0, fr0, hb0⟩ := h0
  obtain ⟨o1, hb1, hc1⟩ := cellsX_of_cell (hT 0 (by decide))
  have hb1 : W.heap[1]? = some o1 := hb1
  cases o1 with
  | cells c1 t1 fr1 =>
    have hlt : 1 < W.heap.size := (Array.getElem?_eq_some_iff.1 hb1).1
    have hcell : ∀ j, j < 64 → ∃ k m, c1[j]? = some (.int k m) := fun j hj => by
      have h := hT j hj
      unfold World.cell? at h
      simp only [hb1, Option.isSome_none, Bool.false_eq_true, if_false] at h
      exact ⟨_, _, h⟩
    have hsz : 64 ≤ c1.size := by
      obtain ⟨k, m, h⟩ := hcell 63 (by decide)
      have := (Array.getElem?_eq_some_iff.1 h).1
      omega
    obtain ⟨v0, hv0⟩ : ∃ v0, v0 = seenW W t0 t1 fr0.2 fr1.2 c1 := ⟨_, rfl⟩
    have g0 : v0.heap[0]? = some (.cells #[] t0 (0, fr0.2)) := by
      rw [hv0]; unfold seenW
      show ((W.heap.setIfInBounds 0 (.cells #[] t0 (0, fr0.2))).setIfInBounds 1 (.cells (c1.extract 0 64) t1 (0, max 64 fr1.2)))[0]? = _
      rw [Array.getElem?_setIfInBounds_ne (by decide), Array.getElem?_setIfInBounds_self_of_lt (by omega)]
    have g1 : v0.heap[1]? = some (.cells (c1.extract 0 64) t1 (0, max 64 fr1.2)) := by
      rw [hv0]; unfold seenW
      show ((W.heap.setIfInBounds 0 (.cells #[] t0 (0, fr0.2))).setIfInBounds 1 (.cells (c1.extract 0 64) t1 (0, max 64 fr1.2)))[1]? = _
      rw [Array.getElem?_setIfInBounds_self_of_lt (by simpa using hlt)]
    have gs : v0.heap.size = W.heap.size := by rw [hv0]; unfold seenW; simp
    have hes : (c1.extract 0 64).size = 64 := by simp; omega
    have hex : ∀ j, j < 64 → (c1.extract 0 64)[j]? = c1[j]? := fun j hj => by
      rw [Array.getElem?_extract]; simp; omega
    have hshut0 : Sm.Shut (Obj.cells #[] t0 (0, fr0.2)) := fun k hk => by simp at hk
    have hshut1 : Sm.Shut (Obj.cells (c1.extract 0 64) t1 (0, max 64 fr1.2)) := fun k hk => ⟨Nat.zero_le _, Nat.lt_of_lt_of_le (by rw [hes] at hk; exact hk) (Nat.le_max_left _ _)⟩
    have p0 : PureB v0 0 := ⟨_, _, _, g0, fun i u hu => by simp at hu, hshut0⟩
    have p1 : PureB v0 1 := ⟨_, _, _, g1, fun i u hu => by
      have hi : i < 64 := by rw [← hes]; exact (Array.getElem?_eq_some_iff.1 hu).1
      obtain ⟨k, m, hk⟩ := hcell i hi
      rw [hex i hi, hk] at hu
      cases hu
      exact ⟨_, _, rfl⟩, hshut1⟩
    have hT0 : Tab v0 := fun j hj => by
      have h := hT j hj
      unfold World.cell? at h ⊢
      simp only [hb1, Option.isSome_none, Bool.false_eq_true, if_false] at h
      simp only [g1, Option.isSome_none, Bool.false_eq_true, if_false]
      rw [hex j hj, h]
    have hno : ∀ b, ¬ Sm.Open (Rg Tryd.prog afs cgs fun b b' => b = b' ∧ b < 2) v0 b := fun b ⟨x, o, hx, h1, h2⟩ => by
      obtain ⟨rfl, hx2⟩ : x = b ∧ x < 2 := hx
      rcases Nat.lt_or_ge x 1 with hx3 | hx3
      · obtain rfl : x = 0 := by omega
        rw [g0] at h1; cases h1; exact h2 hshut0
      · obtain rfl : x = 1 := by omega
        rw [g1] at h1; cases h1; exact h2 hshut1
    have hwr : WR0 (Rg Tryd.prog afs cgs fun b b' => b = b' ∧ b < 2) v0 W := by
      refine ⟨fun b c b' q1 q2 => q1.1.trans q2.1.symm, fun b b' c' q1 q2 => q1.1.symm.trans q2.1, fun b b' q => ?_, fun b b' o q ho => ?_, ⟨⟨by show Tryd.prog.globals.size ≤ _; rw [glob2, gs]; omega, fun _ => rfl⟩, by show Tryd.prog.globals.size ≤ _; rw [glob2]; omega⟩, fun b b' q _ => q.1.symm⟩
      · obtain ⟨rfl, q2⟩ : b = b' ∧ b < 2 := q
        exact ⟨by omega, by omega⟩
      · obtain ⟨rfl, q2⟩ : b = b' ∧ b < 2 := q
        rcases Nat.lt_or_ge b 1 with hx3 | hx3
        · obtain rfl : b = 0 := by omega
          rw [g0] at ho; cases ho
          exact ⟨_, hb0, rfl, ⟨Nat.zero_le _, fun i u u' _ h => by simp at h⟩, fun o h1 h2 => ⟨Nat.zero_le _, h2⟩⟩
        · obtain rfl : b = 1 := by omega
          rw [g1] at ho; cases ho
          refine ⟨_, hb1, rfl, ⟨by rw [hes]; exact hsz, fun i u u' _ h1 h2 => ?_⟩, fun o h1 h2 => ⟨Nat.zero_le _, Nat.lt_of_lt_of_le h2 (Nat.le_max_right _ _)⟩⟩
          have hi : i < 64 := by rw [← hes]; exact (Array.getElem?_eq_some_iff.1 h1).1
          rw [hex i hi, h2] at h1
          cases h1
          obtain ⟨k, m, hk⟩ := hcell i hi
          rw [hk] at h2; cases h2
          exact VR.int _ _ _
    obtain ⟨C, hC⟩ : ∃ C, IsK C := ⟨_, rfl⟩
    have hbK : Tryd.f7.body = some C := by rw [hC]; rfl
    have hen : Frame.enter Tryd.prog GK #[.int .i64 n] .normal = fF GK (#[.int .i64 n] ++ Array.replicate 61 undef) [.code C] [] .normal := by
      rw [enter_at _ Tryd.func7 hbK]
      have hsz2 : Tryd.f7.ntmps - (#[Value.int .i64 n]).size = 61 := by rw [Tryd.ntmps7]; rfl
      rw [hsz2]
      rfl
    rw [hen]
    have hmv : Mc (fun y w => y = .bool true ∧ Kp W w) W (fun b b' => b = b' ∧ b < 2) v0 (fun _ => none) none (G (fF GK (#[.int .i64 n] ++ Array.replicate 61 undef) [.code C] [] .normal) []) := by
      refine k_run hC n1 n2 (xr_init1 (VR.int _ .i64 n) 61) (fun g hg => ⟨rfl, by simp [cgs] at hg; omega⟩) (by simp) (by rw [Array.getElem?_append_left (by simp)]; rfl) hT0 (by rw [glob2, gs]; omega) p0 p1 fun r' v' tm1 tm1' hx1 q => ?_
      have hret := ret_one (F := Tryd.f7) (t := 2) rfl (vr_bool hx1 q)
      exact MV.last Tryd.func7 (by kernel_rfl) (fun w => (hret w).1) (fun w => (hret w).2) (fun _ => rfl) fun w hk _ => ⟨rfl, hk⟩
    have hms := hmv W (Kp.refl W) (fun b hb => absurd hb (hno b)) hwr (fun c q => absurd rfl q) (fun c e => by cases e)
    refine net_start hms (fun b hb => ?_) (fun b hb => ?_)
    · rcases hb with ⟨x, hx⟩ | hb | hb
      · exact (hwr.dom x b hx).2
      · cases hb
      · exact hb
    · rcases hb with hb | hb
      · exact absurd hb (hno b)
      · cases hb
  | _ => cases hc1
end Go.Proofs.YtfbdgdphpdhcpaaDoor
