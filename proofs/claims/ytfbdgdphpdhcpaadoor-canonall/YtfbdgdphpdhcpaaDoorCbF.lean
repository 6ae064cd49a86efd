/-
  CanonAll, from its start to its return. Condition: the library's tables.
  CanonAll, whoever is picked. Condition: the library's tables.
-/
import Derived.Test.YtfbdgdphpdhcpaaDoorCbD
namespace Go.Proofs.YtfbdgdphpdhcpaaDoor
open Go Go.Conc Go.RowKit Sm
set_option maxRecDepth 100000

theorem op_take {ops : Array Oper} {m : Nat} {rows : List (Option Tmp × Op × Option (Nat × Bool))} (h : (ops.map fun o => (o.dst, o.op, o.guard)).toList.take m = rows) (i : Nat) {d : Option Tmp} {p : Op} {g : Option (Nat × Bool)} (hi : rows[i]? = some (d, p, g)) : ∃ o, ops[i]? = some o ∧ o.dst = d ∧ o.op = p ∧ o.guard = g := by
  rw [← h, List.getElem?_take] at hi
  split at hi
  · rw [Array.getElem?_toList, Array.getElem?_map, Option.map_eq_some_iff] at hi
    obtain ⟨o, ho, e⟩ := hi
    cases e
    exact ⟨o, ho, rfl, rfl, rfl⟩
  · cases hi
theorem lvq_size : ∀ n, n ≤ 5 → [1, 1, 2, 5, 16, 63][n]? = some (lvq n).length := by
  intro n hn
  match n, hn with
  | 0, _ => rfl
  | 1, _ => show _ = some (lvl 1).length; rw [l1_is]; rfl
  | 2, _ => show _ = some (lvl 2).length; rw [l2_is]; rfl
  | 3, _ => rfl
  | 4, _ => rfl
  | 5, _ => rfl
theorem tab_is (n m : Nat) (h : [1, 1, 2, 5, 16, 63][n]? = some m) : 0 < m := by
  match n with
  | 0 => simp at h; omega
  | 1 => simp at h; omega
  | 2 => simp at h; omega
  | 3 => simp at h; omega
  | 4 => simp at h; omega
  | 5 => simp at h; omega
  | n + 6 => simp at h
section
variable {Fin : Value → World → Prop} {K : World} {k : List Item} {rc : List Frame}
set_option maxHeartbeats 2000000 in
theorem c_run {C : Code} (hC : IsC C) {n x : Int} (n1 : -9223372036854775808 ≤ n) (n2 : n ≤ 9223372036854775807) (x1 : -9223372036854775808 ≤ x) (x2 : x ≤ 9223372036854775807) {r : Nat → Nat → Prop} {v : World} {tm tm' : Array Value} (hx : XR (Rg Tryd.prog afs cgs r) tm tm') (hg : ∀ g ∈ cgs, r g g) (hs : tm.size = 106) (t0 : tm[0]? = some (.int .i64 n)) (t1 : tm[1]? = some (.int .i64 x)) (hT : Tab v) (hlow : Tryd.prog.globals.size ≤ v.heap.size) (hp0 : PureB v 0) (hp1 : PureB v 1)
    (hk : ∀ r' v' tm1 tm1' k', XR (Rg Tryd.prog afs cgs r') tm1 tm1' → tm1[4]? = some (.bool true) → Mc Fin K r' v' (fun _ => none) none (G (fF GC tm1' (.code .ret :: k') [] .normal) rc)) :
    Mc Fin K r v (fun _ => none) none (G (fF GC tm' (.code C :: k) [] .normal) rc) := by
  rw [gc_shape hC]
  refine mmv (mv_seq _ _) ?_
  refine mpiece gc_in (gc_ok hC (by simp)) hg hx (Q := fun s w => HB v w ∧ s.tmps = tm.setIfInBounds 4 (.bool false)) (fun τ => ?_) fun r1 v1 tm1 tm1' hr1 hx1 hq => ?_
  · rw [hC]; exact c_r0 tm (tap τ v) hs
  obtain ⟨hb1, e1⟩ := hq
  have e1 : tm1 = _ := e1
  have s1 : tm1.size = 106 := by rw [e1]; simp [hs]
  have a0 : tm1[0]? = some (.int .i64 n) := by rw [e1, set_ne (by decide)]; exact t0
  have a1 : tm1[1]? = some (.int .i64 x) := by rw [e1, set_ne (by decide)]; exact t1
  have g1 : ∀ g ∈ cgs, r1 g g := fun g h => hr1 _ _ (hg g h)
  have T1 := hb1.tab hT
  have l1 := Nat.le_trans hlow hb1.1
  have p01 := hb1.pure hp0
  have p11 := hb1.pure hp1
  clear e1 hx hs t0 t1 hT hlow hp0 hp1 hg
  -- the call of All
  refine mmv (mv_seq _ _) ?_
  rw [gc1_shape hC]
  refine mmv (mv_region _ _) ?_
  obtain ⟨hops1, z1, hB1⟩ := gc1_ops hC
  rw [show List.range (opsOf (atc [1, 0] C)).size = 0 :: 1 :: List.range' 2 5 by rw [z1]; rfl]
  obtain ⟨o0, f1, f2, f3, f4⟩ := op_take hops1 0 rfl
  obtain ⟨o1, i1, i2, i3, i4⟩ := op_take hops1 1 rfl
  refine mval g1 f1 (by rw [f3]; rfl) f4 hx1 (.inl rfl) (x := .int .i64 n) (v1 := v1) (fun τ => by
    unfold execOp
    rw [f3]
    simp only [eval_tmp a0]
    rfl) fun r2 tm2' hr2 hy2 => ?_
  rw [f2] at hy2
  have hx2 : XR (Rg Tryd.prog afs cgs r2) (tm1.setIfInBounds 11 (.int .i64 n)) tm2' := hy2
  clear hy2
  have c11 : (tm1.setIfInBounds 11 (.int .i64 n))[11]? = some (.int .i64 n) := set_at (by rw [s1]; decide) _
  have c0 : (tm1.setIfInBounds 11 (.int .i64 n))[0]? = some (.int .i64 n) := (set_ne (by decide) _).trans a0
  have c1 : (tm1.setIfInBounds 11 (.int .i64 n))[1]? = some (.int .i64 x) := (set_ne (by decide) _).trans a1
  have s2 : (tm1.setIfInBounds 11 (.int .i64 n)).size = 106 := by simp [s1]
  generalize (tm1.setIfInBounds 11 (.int .i64 n)) = tm2 at *
  have g2 : ∀ g ∈ cgs, r2 g g := fun g h => hr2 _ _ (g1 g h)
  by_cases hin : 0 ≤ n ∧ n ≤ 5
  · obtain ⟨m, rfl⟩ : ∃ m : Nat, n = m := ⟨n.toNat, by omega⟩
    have hm : m ≤ 5 := by omega
    refine all_call i1 i2 i3 i4 hm hx2 c11 g2 T1 l1 p01 p11 fun r3 v3 tm3' gv cv hr3 hb3 g3 hlo hx3 T3 l3 p03 p13 => ?_
    have d12 : (tm2.setIfInBounds 12 (.tuple #[.slice (some ⟨gv, 0, none⟩) (lvq m).length cv, .int .i64 0]))[12]? = some (.tuple #[.slice (some ⟨gv, 0, none⟩) (lvq m).length cv, .int .i64 0]) := set_at (by rw [s2]; decide) _
    have d0 : (tm2.setIfInBounds 12 (.tuple #[.slice (some ⟨gv, 0, none⟩) (lvq m).length cv, .int .i64 0]))[0]? = some (.int .i64 (m : Nat)) := (set_ne (by decide) _).trans c0
    have d1 : (tm2.setIfInBounds 12 (.tuple #[.slice (some ⟨gv, 0, none⟩) (lvq m).length cv, .int .i64 0]))[1]? = some (.int .i64 x) := (set_ne (by decide) _).trans c1
    have s3 : (tm2.setIfInBounds 12 (.tuple #[.slice (some ⟨gv, 0, none⟩) (lvq m).length cv, .int .i64 0])).size = 106 := by simp [s2]
    generalize (tm2.setIfInBounds 12 (.tuple #[.slice (some ⟨gv, 0, none⟩) (lvq m).length cv, .int .i64 0])) = tm3 at *
    refine mtail 2 rfl (n := 5) (by rw [List.length_drop, Array.length_toList, z1]) gc_in hB1 g3 hx3 (Q := fun s w => HB v3 w ∧ s.tmps.size = 106 ∧ s.tmps[5]? = some (.slice (some ⟨gv, 0, none⟩) (lvq m).length cv) ∧ s.tmps[6]? = some (.int .i64 0) ∧ ∀ j, j < 5 → s.tmps[j]? = tm3[j]?) (fun τ => ?_) fun r4 v4 tm4 tm4' hr4 hx4 hq => ?_
    · rw [hC]; exact c_t1 tm3 (tap τ v3) s3 _ 0 d12
    obtain ⟨hb4, s4, k5, k6, e4⟩ := hq
    have k0 := (e4 0 (by decide)).trans d0
    have k1 := (e4 1 (by decide)).trans d1
    have g4 : ∀ g ∈ cgs, r4 g g := fun g h => hr4 _ _ (g3 g h)
    -- canonBegun
    refine mmv (mv_seq _ _) ?_
    refine mmv (mv_seq _ _) ?_
    rw [gc2_shape hC]
    refine mmv (mv_region _ _) ?_
    obtain ⟨hops2, z2, hB2⟩ := gc2_ops hC
    rw [show List.range (opsOf (atc [1, 1, 0, 0] C)).size = 0 :: List.range' 1 9 by rw [z2]; rfl]
    obtain ⟨o2, j1, j2, j3, j4⟩ := op_take hops2 0 rfl
    refine begun_call j1 j2 j3 j4 hx4 g4 (hb4.tab T3) (Nat.le_trans l3 hb4.1) (hb4.pure p03) (hb4.pure p13) fun r5 v5 tm5' hr5 hb5 g5 hx5 T5 l5 p05 p15 => ?_
    have s4 : tm4.size = 106 := s4
    refine mtail 1 rfl (n := 9) (by rw [List.length_drop, Array.length_toList, z2]) gc_in hB2 g5 hx5 (Q := fun s w => HB v5 w ∧ s.tmps.size = 106 ∧ s.tmps[24]? = some (.bool false) ∧ ∀ j, j < 15 → s.tmps[j]? = (tm4.setIfInBounds 15 (.bool true))[j]?) (fun τ => ?_) fun r6 v6 tm6 tm6' hr6 hx6 hq => ?_
    · rw [hC]; exact c_t2 (tm4.setIfInBounds 15 (.bool true)) (tap τ v5) (by simp [s4]) m (set_at (by rw [s4]; decide) _) ((set_ne (by decide) _).trans k0) hm
    obtain ⟨hb6, s6, m24, e6⟩ := hq
    have e6' : ∀ j, j < 7 → tm6[j]? = tm4[j]? := fun j hj => (e6 j (by omega)).trans (set_ne (by omega) _)
    have g6 : ∀ g ∈ cgs, r6 g g := fun g h => hr6 _ _ (g5 g h)
    refine mmv (mv_cond (b := false) (eval_tmp (D := []) (vr_bool hx6 m24))) ?_
    refine mmv mv_skip ?_
    have hlo6 : LObj v6 gv (lvq m) := ((hlo.hn (hb4.hn 70)).hn (hb5.hn 70)).hn (hb6.hn 70)
    -- how many
    refine mmv (mv_seq _ _) ?_
    refine mmv (mv_seq _ _) ?_
    refine mpiece gc_in (gc_ok hC (by simp)) g6 hx6 (Q := fun s w => HB v6 w ∧ s.tmps.size = 106 ∧ s.tmps[45]? = some (.bool false) ∧ ∀ j, j < 9 → s.tmps[j]? = tm6[j]?) (fun τ => ?_) fun r7 v7 tm7 tm7' hr7 hx7 hq => ?_
    · rw [hC]; exact c_r4 tm6 (tap τ v6) s6 m _ _ cv ((e6' 0 (by decide)).trans k0) ((e6' 5 (by decide)).trans k5) ((e6' 6 (by decide)).trans k6) hm (lvq_size m hm)
    obtain ⟨hb7, s7, m45, e7⟩ := hq
    have e7' : ∀ j, j < 7 → tm7[j]? = tm4[j]? := fun j hj => (e7 j (by omega)).trans (e6' j hj)
    have g7 : ∀ g ∈ cgs, r7 g g := fun g h => hr7 _ _ (g6 g h)
    refine mmv (mv_cond (b := false) (eval_tmp (D := []) (vr_bool hx7 m45))) ?_
    refine mmv mv_skip ?_
    -- the loop
    refine mmv (mv_seq _ _) ?_
    refine mmv (mv_seq _ _) ?_
    have s7 : tm7.size = 106 := s7
    refine mpiece gc_in (gc_ok hC (by simp)) g7 hx7 (Q := fun s w => HB v7 w ∧ s.tmps = tm7.setIfInBounds 7 (.int .i64 0)) (fun τ => ?_) fun r8 v8 tm8 tm8' hr8 hx8 hq => ?_
    · rw [hC]; exact c_r6 tm7 (tap τ v7) s7
    obtain ⟨hb8, e8⟩ := hq
    have e8 : tm8 = _ := e8
    refine mmv (mv_block _ _) ?_
    refine mmv (mv_loop _) ?_
    refine c_loop hC (v0 := v8) (bf := gv) (capf := cv) hm (fun r9 v9 tm9 tm9' he => ?_) (lvq m).length 0 (by omega) r8 v8 tm8 tm8' ⟨HB.refl _, hx8, fun g h => hr8 _ _ (g7 g h), by rw [e8]; simp [s7], by rw [e8, set_ne (by decide)]; exact (e7' 0 (by decide)).trans k0, by rw [e8, set_ne (by decide)]; exact (e7' 1 (by decide)).trans k1, by rw [e8, set_ne (by decide)]; exact (e7' 5 (by decide)).trans k5, by rw [e8, set_at (by rw [s7]; decide)]; rfl, (hlo6.hn (hb7.hn 70)).hn (hb8.hn 70)⟩
    -- its own form
    have hpos := tab_is m _ (lvq_size m hm)
    have hlen := lvq_len m hm
    obtain ⟨o, ho⟩ : ∃ o, (lvq m)[chs x (lvq m).length]? = some o := ⟨_, List.getElem?_eq_getElem (chs_lt x hpos)⟩
    have hmem := List.mem_of_getElem? ho
    have hF := lvq_fok m hm o hmem
    have hol := (lvq_cnt m hm o hmem).1
    obtain ⟨a, ca, b0, b1, hr⟩ := lobj_at he.lv ho
    refine mmv (mv_seq _ _) ?_
    refine mpiece gc_in (gc_ok hC (by simp)) he.rg he.xr (Q := fun s w => HB v9 w ∧ s.tmps.size = 106 ∧ (∃ B y a2 c2, s.tmps[8]? = some (.pointer (some ⟨B, 0, none⟩)) ∧ bst (nth o) m (per m [] (pw m - 1)) = some y ∧ w.cell? ⟨B, 0, none⟩ = some (.int .i64 (m : Nat)) ∧ w.cell? ⟨B, 1, none⟩ = some (.slice a2 m c2) ∧ Row w a2 m (fun k => (prt (nth o) y k : Nat))) ∧ ∀ j, j < 8 → s.tmps[j]? = tm9[j]?) (fun τ => ?_) fun ra va tma tma' hra hxa hq => ?_
    · rw [hC]; exact c_r11 tm9 (tap τ v9) he.sz gv m _ cv _ x o a ca he.t1 he.t5 x1 x2 rfl hpos hlen hm hol hF b0 b1 hr
    obtain ⟨hba, sa, ⟨B, y, a2, c2, q8, hy, qb0, qb1, qr⟩, ea⟩ := hq
    have hse := form_self hm hmem hol hy
    obtain ⟨a', ca', b0', b1', hr'⟩ := lobj_at (he.lv.hn (hba.hn 70)) ho
    refine mmv (mv_seq _ _) ?_
    refine mpiece gc_in (gc_ok hC (by simp)) (fun g h => hra _ _ (he.rg g h)) hxa (Q := fun s w => HB va w ∧ s.tmps[4]? = some (.bool true)) (fun τ => ?_) fun rb vb tmb tmb' hrb hxb hq => ?_
    · rw [hC]; exact c_r12x tma gv B m _ cv _ x o y a' a2 ca' c2 (tap τ va) sa ((ea 1 (by decide)).trans he.t1) ((ea 5 (by decide)).trans he.t5) q8 x1 x2 rfl hpos hlen hm hol hse qb0 qb1 qr b0' b1' hr'
    exact hk rb vb tmb tmb' _ hxb hq.2
  · have hbad : n < 0 ∨ 5 < n := by omega
    refine all_none i1 i2 i3 i4 hbad hx2 c11 g2 fun r3 v3 tm3' hr3 hb3 g3 hx3 => ?_
    have d12 : (tm2.setIfInBounds 12 (.tuple #[.slice none 0 0, .int .i64 2]))[12]? = some (.tuple #[.slice none 0 0, .int .i64 2]) := set_at (by rw [s2]; decide) _
    have d0 : (tm2.setIfInBounds 12 (.tuple #[.slice none 0 0, .int .i64 2]))[0]? = some (.int .i64 n) := (set_ne (by decide) _).trans c0
    have s3 : (tm2.setIfInBounds 12 (.tuple #[.slice none 0 0, .int .i64 2])).size = 106 := by simp [s2]
    generalize (tm2.setIfInBounds 12 (.tuple #[.slice none 0 0, .int .i64 2])) = tm3 at *
    refine mtail 2 rfl (n := 5) (by rw [List.length_drop, Array.length_toList, z1]) gc_in hB1 g3 hx3 (Q := fun s w => HB v3 w ∧ s.tmps.size = 106 ∧ s.tmps[5]? = some (.slice none 0 0) ∧ s.tmps[6]? = some (.int .i64 2) ∧ ∀ j, j < 5 → s.tmps[j]? = tm3[j]?) (fun τ => ?_) fun r4 v4 tm4 tm4' hr4 hx4 hq => ?_
    · rw [hC]; exact c_t1 tm3 (tap τ v3) s3 _ 2 d12
    obtain ⟨hb4, s4, k5, k6, e4⟩ := hq
    have k0 := (e4 0 (by decide)).trans d0
    have g4 : ∀ g ∈ cgs, r4 g g := fun g h => hr4 _ _ (g3 g h)
    have hbx := hb3.trans hb4
    refine mmv (mv_seq _ _) ?_
    refine mmv (mv_seq _ _) ?_
    rw [gc2_shape hC]
    refine mmv (mv_region _ _) ?_
    obtain ⟨hops2, z2, hB2⟩ := gc2_ops hC
    rw [show List.range (opsOf (atc [1, 1, 0, 0] C)).size = 0 :: List.range' 1 9 by rw [z2]; rfl]
    obtain ⟨o2, j1, j2, j3, j4⟩ := op_take hops2 0 rfl
    refine begun_call j1 j2 j3 j4 hx4 g4 (hbx.tab T1) (Nat.le_trans l1 hbx.1) (hbx.pure p01) (hbx.pure p11) fun r5 v5 tm5' hr5 hb5 g5 hx5 T5 l5 p05 p15 => ?_
    have s4 : tm4.size = 106 := s4
    refine mtail 1 rfl (n := 9) (by rw [List.length_drop, Array.length_toList, z2]) gc_in hB2 g5 hx5 (Q := fun s w => HB v5 w ∧ s.tmps.size = 106 ∧ s.tmps[24]? = some (.bool true) ∧ ∀ j, j < 15 → s.tmps[j]? = (tm4.setIfInBounds 15 (.bool true))[j]?) (fun τ => ?_) fun r6 v6 tm6 tm6' hr6 hx6 hq => ?_
    · rw [hC]; exact c_t2x (tm4.setIfInBounds 15 (.bool true)) (tap τ v5) (by simp [s4]) n (set_at (by rw [s4]; decide) _) ((set_ne (by decide) _).trans k0) hbad
    obtain ⟨hb6, s6, m24, e6⟩ := hq
    have s6 : tm6.size = 106 := s6
    have e6' : ∀ j, j < 7 → tm6[j]? = tm4[j]? := fun j hj => (e6 j (by omega)).trans (set_ne (by omega) _)
    have g6 : ∀ g ∈ cgs, r6 g g := fun g h => hr6 _ _ (g5 g h)
    refine mmv (mv_cond (b := true) (eval_tmp (D := []) (vr_bool hx6 m24))) ?_
    rw [if_pos rfl]
    refine mmv (mv_seq _ _) ?_
    rw [gc3_shape hC]
    refine mmv (mv_region _ _) ?_
    obtain ⟨hops3, z3, hB3⟩ := gc3_ops hC
    rw [show List.range (opsOf (atc [0] (thenT (atc [1, 1, 0] C)))).size = 0 :: List.range' 1 10 by rw [z3]; rfl]
    obtain ⟨o3, q1, q2, q3, q4⟩ := op_take hops3 0 rfl
    refine begun_call q1 q2 q3 q4 hx6 g6 (hb6.tab T5) (Nat.le_trans l5 hb6.1) (hb6.pure p05) (hb6.pure p15) fun r7 v7 tm7' hr7 hb7 g7 hx7 T7 l7 p07 p17 => ?_
    refine mtail 1 rfl (n := 10) (by rw [List.length_drop, Array.length_toList, z3]) gc_in hB3 g7 hx7 (Q := fun s w => HB v7 w ∧ s.tmps[4]? = some (.bool true)) (fun τ => ?_) fun r8 v8 tm8 tm8' hr8 hx8 hq => ?_
    · rw [hC]; exact c_t3 (tm6.setIfInBounds 25 (.bool true)) (tap τ v7) (by simp [s6]) (set_at (by rw [s6]; decide) _) ((set_ne (by decide) _).trans ((e6' 5 (by decide)).trans k5)) ((set_ne (by decide) _).trans ((e6' 6 (by decide)).trans k6))
    exact hk r8 v8 tm8 tm8' _ hx8 hq.2
end
end Go.Proofs.YtfbdgdphpdhcpaaDoor
namespace Go.Proofs.YtfbdgdphpdhcpaaDoor
open Go Go.Conc Go.RowKit Sm
set_option maxRecDepth 100000

/-- The world that is seen: two rows of numbers, frozen. -/
def seenW (W : World) (t0 t1 : TypeId) (f0 f1 : Nat) (c1 : Array Value) : World := { W with heap := (W.heap.setIfInBounds 0 (.cells #[] t0 (0, f0))).setIfInBounds 1 (.cells (c1.extract 0 64) t1 (0, max 64 f1)) }
theorem xr_init2 {R : Ren} {x x' y y' : Value} (hx : VR R x x') (hy : VR R y y') (m : Nat) : XR R (#[x, y] ++ Array.replicate m undef) (#[x', y'] ++ Array.replicate m undef) := by
  refine ⟨by simp, fun i u u' h1 h2 => ?_⟩
  match i with
  | 0 =>
    have e1 : (#[x, y] ++ Array.replicate m undef)[0]? = some x := by rw [Array.getElem?_append_left (by simp)]; rfl
    have e2 : (#[x', y'] ++ Array.replicate m undef)[0]? = some x' := by rw [Array.getElem?_append_left (by simp)]; rfl
    rw [e1] at h1; rw [e2] at h2; cases h1; cases h2; exact hx
  | 1 =>
    have e1 : (#[x, y] ++ Array.replicate m undef)[1]? = some y := by rw [Array.getElem?_append_left (by simp)]; rfl
    have e2 : (#[x', y'] ++ Array.replicate m undef)[1]? = some y' := by rw [Array.getElem?_append_left (by simp)]; rfl
    rw [e1] at h1; rw [e2] at h2; cases h1; cases h2; exact hy
  | i + 2 =>
    rw [Array.getElem?_append_right (by simp)] at h1 h2
    rw [Array.getElem?_replicate] at h1 h2
    split at h1
    · cases h1
      split at h2
      · cases h2; exact VR.tuple XR.nil
      · cases h2
    · cases h1
theorem all_win (W : World) (hT : Tab W) (h0 : ∃ c t fr, W.heap[0]? = some (.cells c t fr)) {n x : Int} (n1 : -9223372036854775808 ≤ n) (n2 : n ≤ 9223372036854775807) (x1 : -9223372036854775808 ≤ x) (x2 : x ≤ 9223372036854775807) :
    Win Tryd.prog (fun y w => y = .bool true ∧ Kp W w) (solo (G (Frame.enter Tryd.prog GC #[.int .i64 n, .int .i64 x] .normal) []) W) #[] := by
  obtain ⟨c0, t0, fr0, hb0⟩ := h0
  obtain ⟨o1, hb1, hc1⟩ := cellsX_of_cell (hT 0 (by decide))
  have hb1 : W.heap[1]? = some o1 := hb1
  cases o1 with
  | cells c1 t1 fr1 =>
    have hlt : 1 < W.heap.size := (Array.getElem?_eq_some_iff.1 hb1).1
    have hcell : ∀ j, j < 64 → ∃ k m, c1[j]? = some (.int k m) := fun j hj => by
      have h := hT j hj
      unfold World.cell? at h
      simp only [hb1, Option.isSome_none, Bool.false_eq_true, if_false] at h
      exact ⟨_, _, h⟩
    have hsz : 64 ≤ c1.size := by
      obtain ⟨k, m, h⟩ := hcell 63 (by decide)
      have := (Array.getElem?_eq_some_iff.1 h).1
      omega
    obtain ⟨v0, hv0⟩ : ∃ v0, v0 = seenW W t0 t1 fr0.2 fr1.2 c1 := ⟨_, rfl⟩
    have g0 : v0.heap[0]? = some (.cells #[] t0 (0, fr0.2)) := by
      rw [hv0]; unfold seenW
      show ((W.heap.setIfInBounds 0 (.cells #[] t0 (0, fr0.2))).setIfInBounds 1 (.cells (c1.extract 0 64) t1 (0, max 64 fr1.2)))[0]? = _
      rw [Array.getElem?_setIfInBounds_ne (by decide), Array.getElem?_setIfInBounds_self_of_lt (by omega)]
    have g1 : v0.heap[1]? = some (.cells (c1.extract 0 64) t1 (0, max 64 fr1.2)) := by
      rw [hv0]; unfold seenW
      show ((W.heap.setIfInBounds 0 (.cells #[] t0 (0, fr0.2))).setIfInBounds 1 (.cells (c1.extract 0 64) t1 (0, max 64 fr1.2)))[1]? = _
      rw [Array.getElem?_setIfInBounds_self_of_lt (by simpa using hlt)]
    have gs : v0.heap.size = W.heap.size := by rw [hv0]; unfold seenW; simp
    have hes : (c1.extract 0 64).size = 64 := by simp; omega
    have hex : ∀ j, j < 64 → (c1.extract 0 64)[j]? = c1[j]? := fun j hj => by
      rw [Array.getElem?_extract]; simp; omega
    have hshut0 : Sm.Shut (Obj.cells #[] t0 (0, fr0.2)) := fun k hk => by simp at hk
    have hshut1 : Sm.Shut (Obj.cells (c1.extract 0 64) t1 (0, max 64 fr1.2)) := fun k hk => ⟨Nat.zero_le _, Nat.lt_of_lt_of_le (by rw [hes] at hk; exact hk) (Nat.le_max_left _ _)⟩
    have p0 : PureB v0 0 := ⟨_, _, _, g0, fun i u hu => by simp at hu, hshut0⟩
    have p1 : PureB v0 1 := ⟨_, _, _, g1, fun i u hu => by
      have hi : i < 64 := by rw [← hes]; exact (Array.getElem?_eq_some_iff.1 hu).1
      obtain ⟨k, m, hk⟩ := hcell i hi
      rw [hex i hi, hk] at hu
      cases hu
      exact ⟨_, _, rfl⟩, hshut1⟩
    have hT0 : Tab v0 := fun j hj => by
      have h := hT j hj
      unfold World.cell? at h ⊢
      simp only [hb1, Option.isSome_none, Bool.false_eq_true, if_false] at h
      simp only [g1, Option.isSome_none, Bool.false_eq_true, if_false]
      rw [hex j hj, h]
    have hno : ∀ b, ¬ Sm.Open (Rg Tryd.prog afs cgs fun b b' => b = b' ∧ b < 2) v0 b := fun b ⟨x, o, hx, h1, h2⟩ => by
      obtain ⟨rfl, hx2⟩ : x = b ∧ x < 2 := hx
      rcases Nat.lt_or_ge x 1 with hx3 | hx3
      · obtain rfl : x = 0 := by omega
        rw [g0] at h1; cases h1; exact h2 hshut0
      · obtain rfl : x = 1 := by omega
        rw [g1] at h1; cases h1; exact h2 hshut1
    have hwr : WR0 (Rg Tryd.prog afs cgs fun b b' => b = b' ∧ b < 2) v0 W := by
      refine ⟨fun b c b' q1 q2 => q1.1.trans q2.1.symm, fun b b' c' q1 q2 => q1.1.symm.trans q2.1, fun b b' q => ?_, fun b b' o q ho => ?_, ⟨⟨by show Tryd.prog.globals.size ≤ _; rw [glob2, gs]; omega, fun _ => rfl⟩, by show Tryd.prog.globals.size ≤ _; rw [glob2]; omega⟩, fun b b' q _ => q.1.symm⟩
      · obtain ⟨rfl, q2⟩ : b = b' ∧ b < 2 := q
        exact ⟨by omega, by omega⟩
      · obtain ⟨rfl, q2⟩ : b = b' ∧ b < 2 := q
        rcases Nat.lt_or_ge b 1 with hx3 | hx3
        · obtain rfl : b = 0 := by omega
          rw [g0] at ho; cases ho
          exact ⟨_, hb0, rfl, ⟨Nat.zero_le _, fun i u u' _ h => by simp at h⟩, fun o h1 h2 => ⟨Nat.zero_le _, h2⟩⟩
        · obtain rfl : b = 1 := by omega
          rw [g1] at ho; cases ho
          refine ⟨_, hb1, rfl, ⟨by rw [hes]; exact hsz, fun i u u' _ h1 h2 => ?_⟩, fun o h1 h2 => ⟨Nat.zero_le _, Nat.lt_of_lt_of_le h2 (Nat.le_max_right _ _)⟩⟩
          have hi : i < 64 := by rw [← hes]; exact (Array.getElem?_eq_some_iff.1 h1).1
          rw [hex i hi, h2] at h1
          cases h1
          obtain ⟨k, m, hk⟩ := hcell i hi
          rw [hk] at h2; cases h2
          exact VR.int _ _ _
    obtain ⟨C, hC⟩ : ∃ C, IsC C := ⟨_, rfl⟩
    have hbK : Tryd.f6.body = some C := by rw [hC]; rfl
    have hen : Frame.enter Tryd.prog GC #[.int .i64 n, .int .i64 x] .normal = fF GC (#[.int .i64 n, .int .i64 x] ++ Array.replicate 104 undef) [.code C] [] .normal := by
      rw [enter_at _ Tryd.func6 hbK]
      have hsz2 : Tryd.f6.ntmps - (#[Value.int .i64 n, Value.int .i64 x]).size = 104 := by rw [Tryd.ntmps6]; rfl
      rw [hsz2]
      rfl
    rw [hen]
    have hmv : Mc (fun y w => y = .bool true ∧ Kp W w) W (fun b b' => b = b' ∧ b < 2) v0 (fun _ => none) none (G (fF GC (#[.int .i64 n, .int .i64 x] ++ Array.replicate 104 undef) [.code C] [] .normal) []) := by
      refine c_run hC n1 n2 x1 x2 (xr_init2 (VR.int _ .i64 n) (VR.int _ .i64 x) 104) (fun g hg => ⟨rfl, by simp [cgs] at hg; omega⟩) (by simp) (by rw [Array.getElem?_append_left (by simp)]; rfl) (by rw [Array.getElem?_append_left (by simp)]; rfl) hT0 (by rw [glob2, gs]; omega) p0 p1 fun r' v' tm1 tm1' k' hx1 q => ?_
      have hret := ret_one (F := Tryd.f6) (t := 4) rfl (vr_bool hx1 q)
      exact MV.last Tryd.func6 (by kernel_rfl) (fun w => (hret w).1) (fun w => (hret w).2) (fun _ => rfl) fun w hk _ => ⟨rfl, hk⟩
    have hms := hmv W (Kp.refl W) (fun b hb => absurd hb (hno b)) hwr (fun c q => absurd rfl q) (fun c e => by cases e)
    refine net_start hms (fun b hb => ?_) (fun b hb => ?_)
    · rcases hb with ⟨x, hx⟩ | hb | hb
      · exact (hwr.dom x b hx).2
      · cases hb
      · exact hb
    · rcases hb with hb | hb
      · exact absurd hb (hno b)
      · cases hb
  | _ => cases hc1
end Go.Proofs.YtfbdgdphpdhcpaaDoor
