/-
  All, from its start to its return. Conditions: five points at most; the forms of each number of points are known.
  The forms of so many points, reckoned. Condition: three points at most.
  A region that draws its order, inside a round of a loop over an iterator; what slices.Equal answers. Conditions: none of the region's operations defers a call; slices read as slices of numbers.
-/
import Derived.Test.YtfbdgdphpdhcpaaDoorGqA
import Derived.RangeFuncNested
import Derived.OrdersIn
import Derived.Deep.RegionHeld
import Derived.Deep.QuietTactic
import Derived.Test.YtfbdgdphpdhcpaaDoorVwA
import Derived.Test.YtfbdgdphpdhcpaaDoorLateM
namespace Go.Proofs.YtfbdgdphpdhcpaaDoor
open Go Go.Conc Go.RowKit Sm
set_option maxRecDepth 100000

theorem compL_mem {ys : List (List Nat)} {y : List Nat} (h : y ∈ compL ys) : y ∈ ys := by
  unfold compL at h
  obtain ⟨j, hj, rfl⟩ := List.mem_map.1 h
  have hlt := kept_lt hj
  rw [List.getD_eq_getElem?_getD, List.getElem?_eq_getElem hlt]
  exact List.getElem_mem _
theorem GRow.lobj {v : World} {B gv cv : Nat} {ys : List (List Nat)} (h : GRow v B (.slice (some ⟨gv, 0, none⟩) ys.length cv) ys) (h0 : ∀ y ∈ ys, 0 < y.length) : LObj v gv ys := by
  obtain ⟨xs, ⟨h1, h2⟩, h3⟩ := h
  rcases h2 with ⟨e, _⟩ | ⟨g, cap, cur, e, a1, a2, a3, a4, a5, a6⟩
  · cases e
  · simp only [Value.slice.injEq, Option.some.injEq, Addr.mk.injEq] at e
    obtain ⟨⟨rfl, _, _⟩, _, rfl⟩ := e
    refine ⟨cur, _, a2, fun k o hk => ?_⟩
    have hlt := (List.getElem?_eq_some_iff.1 hk).1
    obtain ⟨bl, f, b1, b2, b3, b4⟩ := h3 k o hk
    refine ⟨_, _, .inr ⟨bl, f, h0 o (List.mem_of_getElem? hk), b1, b2, rfl⟩, ?_, ?_⟩
    · rw [← a6, List.getElem?_take_of_lt (by omega)] at b3
      simpa using b3
    · rw [← a6, List.getElem?_take_of_lt (by omega)] at b4
      simpa using b4
/-- From the forms of so many points to those of one more. -/
def Stp (N : Nat) (Ls Ls' : List (List Nat)) : Prop :=
  ∃ L0, Ls' = compL L0 ∧ (∀ o ∈ Ls, FOk o) ∧ Ls.length < 1000 ∧ 0 < N ∧ N ≤ 40 ∧ (∀ y ∈ L0, y.length = N) ∧ 0 < L0.length ∧ L0.length ≤ 1000 ∧ L0.Perm (Ls.flatMap outsL) ∧ Srt N L0
structure A1 (r0 r : Nat → Nat → Prop) (v0 v : World) (tm tm' : Array Value) (bf capf n i : Nat) (Ls : List (List Nat)) : Prop where
  le : ∀ b b', r0 b b' → r b b'
  hb : HB v0 v
  xr : XR (Rg Tryd.prog afs cgs r) tm tm'
  rg : ∀ g ∈ cgs, r g g
  sz : tm.size = 20
  t4 : tm[4]? = some (.slice (some ⟨bf, 0, none⟩) Ls.length capf)
  t13 : tm[13]? = some (.int .i64 (n : Nat))
  t14 : tm[14]? = some (.int .i64 (i : Nat))
  lv : LObj v bf Ls
  tab0 : Tab v0
  low : Tryd.prog.globals.size ≤ v.heap.size
  q0 : PureB v0 0
  q1 : PureB v0 1
theorem A1.mv {r0 r r' : Nat → Nat → Prop} {v0 v v' : World} {tm tm' tm1 tm1' : Array Value} {bf capf n i : Nat} {Ls : List (List Nat)} (h : A1 r0 r v0 v tm tm' bf capf n i Ls)
    (hr : ∀ b b', r b b' → r' b b') (hv : HB v v') (hx : XR (Rg Tryd.prog afs cgs r') tm1 tm1') (hs : tm1.size = 20) (ht : ∀ j, j = 4 ∨ j = 13 ∨ j = 14 → tm1[j]? = tm[j]?) : A1 r0 r' v0 v' tm1 tm1' bf capf n i Ls where
  le b b' q := hr _ _ (h.le b b' q)
  hb := h.hb.trans hv
  xr := hx
  rg g hg := hr _ _ (h.rg g hg)
  sz := hs
  t4 := (ht 4 (by simp)).trans h.t4
  t13 := (ht 13 (by simp)).trans h.t13
  t14 := (ht 14 (by simp)).trans h.t14
  lv := h.lv.hn (hv.hn 70)
  tab0 := h.tab0
  low := Nat.le_trans h.low hv.1
  q0 := h.q0
  q1 := h.q1
theorem A1.tab {r0 r : Nat → Nat → Prop} {v0 v : World} {tm tm' : Array Value} {bf capf n i : Nat} {Ls : List (List Nat)} (h : A1 r0 r v0 v tm tm' bf capf n i Ls) : Tab v := h.hb.tab h.tab0
theorem xr_init1 {R : Ren} {x x' : Value} (hx : VR R x x') (m : Nat) : XR R (#[x] ++ Array.replicate m undef) (#[x'] ++ Array.replicate m undef) := by
  refine ⟨by simp, fun i u u' h1 h2 => ?_⟩
  match i with
  | 0 =>
    have e1 : (#[x] ++ Array.replicate m undef)[0]? = some x := by rw [Array.getElem?_append_left (by simp)]; rfl
    have e2 : (#[x'] ++ Array.replicate m undef)[0]? = some x' := by rw [Array.getElem?_append_left (by simp)]; rfl
    rw [e1] at h1; rw [e2] at h2; cases h1; cases h2; exact hx
  | i + 1 =>
    rw [Array.getElem?_append_right (by simp)] at h1 h2
    rw [Array.getElem?_replicate] at h1 h2
    split at h1
    · cases h1
      split at h2
      · cases h2; exact VR.tuple XR.nil
      · cases h2
    · cases h1
theorem ret_one {F : Func} {t : Tmp} (hF : F.results = #[.tmp t]) {tm : Array Value} {x : Value} (h : tm[t]? = some x) (w : World) : (results F tm).run Tryd.prog w = .ok x w ∧ (results F tm).events Tryd.prog w #[] = #[] := by
  exact ⟨by simp [results, hF, h], by simp [results, hF]⟩
theorem ret_two {F : Func} {t u : Tmp} (hF : F.results = #[.tmp t, .tmp u]) {tm : Array Value} {x y : Value} (h : tm[t]? = some x) (h' : tm[u]? = some y) (w : World) : (results F tm).run Tryd.prog w = .ok (.tuple #[x, y]) w ∧ (results F tm).events Tryd.prog w #[] = #[] := by
  exact ⟨by simp [results, hF, h, h'], by simp [results, hF]⟩
abbrev abody (C : Code) : Code := .seq (atc [1, 1, 1, 0, 1, 2, 2, 0] C) (.seq (.cond (.tmp 15) .skip (.exit 0)) (.seq (.block 1 (atc [1, 1, 1, 0, 1, 2, 2, 1, 1, 0, 2] C)) (atc [1, 1, 1, 0, 1, 2, 2, 1, 1, 1] C)))
section
variable {Fin : Value → World → Prop} {K : World} {k : List Item} {rc : List Frame}
theorem a_loop {r0 : Nat → Nat → Prop} {v0 : World} {C : Code} (hC : IsA C) {n : Nat} (hn : n ≤ 5) {L : Nat → List (List Nat)} (hL : ∀ i, i < n → Stp (i + 1) (L i) (L (i + 1)))
    (hk : ∀ r v tm tm' bf capf, A1 r0 r v0 v tm tm' bf capf n n (L n) → Mc Fin K r v (fun _ => none) none (G (fF GA tm' k [] .normal) rc)) :
    ∀ d i, i + d = n → ∀ r v tm tm' bf capf, A1 r0 r v0 v tm tm' bf capf n i (L i) → Mc Fin K r v (fun _ => none) none (G (fF GA tm' (.code (abody C) :: .inLoop (abody C) :: .inBlock 0 :: k) [] .normal) rc) := by
  intro d
  induction d with
  | zero =>
    intro i hi r v tm tm' bf capf h
    obtain rfl : i = n := by omega
    refine mmv (mv_seq _ _) ?_
    refine mpiece ga_in (ga_ok hC (by simp)) h.rg h.xr (Q := fun s w => HB v w ∧ s.tmps = tm.setIfInBounds 15 (.bool (decide ((i : Int) < (i : Int))))) (fun τ => ?_) fun r1 v1 tm1 tm1' hr1 hx1 hq => ?_
    · rw [hC]; exact ga_r5 tm i i (tap τ v) h.t14 h.t13
    obtain ⟨hb1, e1⟩ := hq
    have e1 : tm1 = _ := e1
    have e15 : tm1[15]? = some (.bool false) := by
      rw [e1, set_at (by rw [h.sz]; decide), decide_eq_false (by omega)]
    refine mmv (mv_seq _ _) ?_
    refine mmv (mv_cond (b := false) (eval_tmp (D := []) (vr_bool hx1 e15))) ?_
    refine mmv (mv_exit (k' := k) rfl) ?_
    exact hk r1 v1 tm1 tm1' _ _ (h.mv hr1 hb1 hx1 (by rw [e1]; simp [h.sz]) fun j hj => by rw [e1]; exact set_ne (by omega) _)
  | succ d ih =>
    intro i hi r v tm tm' bf capf h
    have hil : i < n := by omega
    refine mmv (mv_seq _ _) ?_
    refine mpiece ga_in (ga_ok hC (by simp)) h.rg h.xr (Q := fun s w => HB v w ∧ s.tmps = tm.setIfInBounds 15 (.bool (decide ((i : Int) < (n : Int))))) (fun τ => ?_) fun r1 v1 tm1 tm1' hr1 hx1 hq => ?_
    · rw [hC]; exact ga_r5 tm i n (tap τ v) h.t14 h.t13
    obtain ⟨hb1, e1⟩ := hq
    have e1 : tm1 = _ := e1
    have e15 : tm1[15]? = some (.bool true) := by
      rw [e1, set_at (by rw [h.sz]; decide), decide_eq_true (by omega)]
    have h1 := h.mv hr1 hb1 hx1 (by rw [e1]; simp [h.sz]) fun j hj => by rw [e1]; exact set_ne (by omega) _
    refine mmv (mv_seq _ _) ?_
    refine mmv (mv_cond (b := true) (eval_tmp (D := []) (vr_bool hx1 e15))) ?_
    refine mmv mv_skip ?_
    refine mmv (mv_seq _ _) ?_
    refine mmv (mv_block _ _) ?_
    clear hr1 hx1 hb1 e15 e1 h
    -- the call
    rw [ga6_shape hC]
    refine mmv (mv_region _ _) ?_
    have z6 : (opsOf (atc P6 C)).size = 3 := by
      have := congrArg List.length (ga6_ops hC)
      simpa using this
    rw [show List.range (opsOf (atc P6 C)).size = [0, 1, 2] by rw [z6]; rfl]
    obtain ⟨o0, a1, a2, a3, a4⟩ := op_at (ga6_ops hC) 0 rfl
    obtain ⟨o1, b1, b2, b3, b4⟩ := op_at (ga6_ops hC) 1 rfl
    obtain ⟨o2, c1, c2, c3, c4⟩ := op_at (ga6_ops hC) 2 rfl
    generalize opsOf (atc P6 C) = ops at a1 b1 c1 ⊢
    refine mval h1.rg a1 (by rw [a3]; rfl) a4 h1.xr (.inl rfl) (x := .slice (some ⟨bf, 0, none⟩) (L i).length capf) (v1 := v1) (fun τ => by
      unfold execOp
      rw [a3]
      simp only [eval_tmp h1.t4]
      rfl) fun r3 tm3' hr3 hx3 => ?_
    rw [a2] at hx3
    have hx3 : XR (Rg Tryd.prog afs cgs r3) (tm1.setIfInBounds 16 (.slice (some ⟨bf, 0, none⟩) (L i).length capf)) tm3' := hx3
    have h3 := h1.mv hr3 (HB.refl _) hx3 (by simp [h1.sz]) fun j hj => set_ne (by omega) _
    have u16 : (tm1.setIfInBounds 16 (.slice (some ⟨bf, 0, none⟩) (L i).length capf))[16]? = some (.slice (some ⟨bf, 0, none⟩) (L i).length capf) := set_at (by rw [h1.sz]; decide) _
    generalize (tm1.setIfInBounds 16 (.slice (some ⟨bf, 0, none⟩) (L i).length capf)) = tm3 at *
    obtain ⟨x', u16', hv16⟩ := hx3.at u16
    obtain ⟨CN, hCN⟩ : ∃ C, IsN C := ⟨_, rfl⟩
    have hbN : Tryd.f36.body = some CN := by rw [hCN]; rfl
    refine MV.call (by decide) b1 (by unfold Region.wanted; rw [b4]) b3 Tryd.func36 (by decide) hbN ?_
    have eargs : (#[Operand.tmp 16].map (Act.eval ⟨tm3', []⟩)) = #[x'] := by
      simp [eval_tmp u16']
    rw [eargs]
    show Mc Fin K r3 v1 (fun _ => none) none (G (fF GN (#[x'] ++ Array.replicate 48 undef) [.code CN] [] .normal) (fF GA tm3' (.inRegion ops [1, 2] :: _) [] .normal :: rc))
    have ht0 := xr_init1 hv16 48
    have hz : (#[Value.slice (some ⟨bf, 0, none⟩) (L i).length capf] ++ Array.replicate 48 undef).size = 49 := by simp
    have h0 : (#[Value.slice (some ⟨bf, 0, none⟩) (L i).length capf] ++ Array.replicate 48 undef)[0]? = some (.slice (some ⟨bf, 0, none⟩) (L i).length capf) := by rw [Array.getElem?_append_left (by simp)]; rfl
    obtain ⟨L0, hL0, s1, s2, s0, s3, s4, s5, s6, s7, s8⟩ := hL i hil
    refine grown_all hCN s1 s2 s3 s4 s5 s6 s7 s8 ht0 h3.rg hz h0 h3.lv h3.tab h3.low (h3.hb.pure h3.q0) (h3.hb.pure h3.q1) fun r4 v4 tm4 tm4' B gv cv hr4 hhb4 hg4 hx4 sz4 q2 hrow hT4 hlow4 p04 p14 => ?_
    rw [← hL0] at q2 hrow
    obtain ⟨y', q2', hy'⟩ := hx4.at q2
    have hret := ret_one (F := Tryd.f36) (t := 2) rfl q2'
    refine MV.ret Tryd.func36 (fun w => (hret w).1) (fun w => (hret w).2) b1 ?_
    rw [b2]
    have hx5 : XR (Rg Tryd.prog afs cgs r4) (tm3.setIfInBounds 17 (.slice (some ⟨gv, 0, none⟩) (L (i + 1)).length cv)) (tm3'.setIfInBounds 17 y') := (hx3.mono (rg_le hr4)).set 17 hy'
    show Mc Fin K r4 v4 (fun _ => none) none (G (fF GA (tm3'.setIfInBounds 17 y') (.inRegion ops [2] :: _) [] .normal) rc)
    have u17 : (tm3.setIfInBounds 17 (.slice (some ⟨gv, 0, none⟩) (L (i + 1)).length cv))[17]? = some (.slice (some ⟨gv, 0, none⟩) (L (i + 1)).length cv) := set_at (by rw [h3.sz]; decide) _
    have w13 : (tm3.setIfInBounds 17 (.slice (some ⟨gv, 0, none⟩) (L (i + 1)).length cv))[13]? = some (.int .i64 (n : Nat)) := (set_ne (by decide) _).trans h3.t13
    have w14 : (tm3.setIfInBounds 17 (.slice (some ⟨gv, 0, none⟩) (L (i + 1)).length cv))[14]? = some (.int .i64 (i : Nat)) := (set_ne (by decide) _).trans h3.t14
    have wsz : (tm3.setIfInBounds 17 (.slice (some ⟨gv, 0, none⟩) (L (i + 1)).length cv)).size = 20 := by simp [h3.sz]
    generalize (tm3.setIfInBounds 17 (.slice (some ⟨gv, 0, none⟩) (L (i + 1)).length cv)) = tm5 at *
    refine mval hg4 c1 (by rw [c3]; rfl) c4 hx5 (.inl rfl) (x := .slice (some ⟨gv, 0, none⟩) (L (i + 1)).length cv) (v1 := v4) (fun τ => by
      unfold execOp
      rw [c3]
      simp only [eval_tmp u17]
      rfl) fun r6 tm6' hr6 hx6 => ?_
    rw [c2] at hx6
    have hx6 : XR (Rg Tryd.prog afs cgs r6) (tm5.setIfInBounds 4 (.slice (some ⟨gv, 0, none⟩) (L (i + 1)).length cv)) tm6' := hx6
    refine mmv (mv_done _) ?_
    refine mmv (mv_inBlock _) ?_
    have x14 : (tm5.setIfInBounds 4 (.slice (some ⟨gv, 0, none⟩) (L (i + 1)).length cv))[14]? = some (.int .i64 (i : Nat)) := (set_ne (by decide) _).trans w14
    refine mpiece ga_in (ga_ok hC (by simp)) (fun g h => hr6 _ _ (hg4 g h)) hx6 (Q := fun s w => HB v4 w ∧ s.tmps = ((tm5.setIfInBounds 4 (.slice (some ⟨gv, 0, none⟩) (L (i + 1)).length cv)).setIfInBounds 18 (.int .i64 ((i + 1 : Nat) : Int))).setIfInBounds 14 (.int .i64 ((i + 1 : Nat) : Int))) (fun τ => ?_) fun r7 v7 tm7 tm7' hr7 hx7 hq => ?_
    · rw [hC]; exact ga_r7 _ i (tap τ v4) (by simp [wsz]) x14 (by omega)
    obtain ⟨hb7, e7⟩ := hq
    have e7 : tm7 = _ := e7
    refine mmv (mv_inLoop _) ?_
    refine ih (i + 1) (by omega) r7 v7 tm7 tm7' gv cv ⟨fun b b' q => hr7 _ _ (hr6 _ _ (hr4 _ _ (h3.le b b' q))), (h3.hb.trans hhb4).trans hb7, hx7, fun g h => hr7 _ _ (hr6 _ _ (hg4 g h)), by rw [e7]; simp [wsz], by rw [e7, set_ne (by decide), set_ne (by decide), set_at (by rw [wsz]; decide)], by rw [e7, set_ne (by decide), set_ne (by decide), set_ne (by decide)]; exact w13, by rw [e7, set_at (by simp [wsz])], ((hrow.hb hb7).lobj fun y hy => ?_), h3.tab0, Nat.le_trans hlow4 hb7.1, h3.q0, h3.q1⟩
    rw [hL0] at hy
    have := s4 y (compL_mem hy)
    omega
/-- All, from its start to its return. -/
theorem all_run {C : Code} (hC : IsA C) {n : Nat} (hn : n ≤ 5) {L : Nat → List (List Nat)} (hL0 : L 0 = [[]]) (hL : ∀ i, i < n → Stp (i + 1) (L i) (L (i + 1))) {r : Nat → Nat → Prop} {v : World} {tm tm' : Array Value} (hx : XR (Rg Tryd.prog afs cgs r) tm tm') (hg : ∀ g ∈ cgs, r g g) (hs : tm.size = 20) (t0 : tm[0]? = some (.int .i64 (n : Nat))) (hT : Tab v) (hlow : Tryd.prog.globals.size ≤ v.heap.size) (hp0 : PureB v 0) (hp1 : PureB v 1)
    (hk : ∀ r' v' tm1 tm1' gv cv, (∀ b b', r b b' → r' b b') → HB v v' → (∀ g ∈ cgs, r' g g) → XR (Rg Tryd.prog afs cgs r') tm1 tm1' → tm1.size = 20 → tm1[2]? = some (.slice (some ⟨gv, 0, none⟩) (L n).length cv) → tm1[3]? = some (.int .i64 0) → LObj v' gv (L n) → Tab v' → Tryd.prog.globals.size ≤ v'.heap.size → PureB v' 0 → PureB v' 1 →
      Mc Fin K r' v' (fun _ => none) none (G (fF GA tm1' (.code .ret :: k) [] .normal) rc)) :
    Mc Fin K r v (fun _ => none) none (G (fF GA tm' (.code C :: k) [] .normal) rc) := by
  rw [ga_shape hC]
  refine mmv (mv_seq _ _) ?_
  refine mpiece ga_in (ga_ok hC (by simp)) hg hx (Q := fun s w => HB v w ∧ ∃ u, s.tmps = (tm.setIfInBounds 2 (.slice none 0 0)).setIfInBounds 3 u) (fun τ => ?_) fun r1 v1 tm1 tm1' hr1 hx1 hq => ?_
  · rw [hC]; exact ga_r0 tm (tap τ v)
  obtain ⟨hb1, u, e1⟩ := hq
  have e1 : tm1 = _ := e1
  have s1 : tm1.size = 20 := by rw [e1]; simp [hs]
  have a0 : tm1[0]? = some (.int .i64 (n : Nat)) := by rw [e1, set_ne (by decide), set_ne (by decide)]; exact t0
  have g1 : ∀ g ∈ cgs, r1 g g := fun g h => hr1 _ _ (hg g h)
  refine mmv (mv_seq _ _) ?_
  refine mmv (mv_seq _ _) ?_
  refine mpiece ga_in (ga_ok hC (by simp)) g1 hx1 (Q := fun s w => HB v1 w ∧ s.tmps.size = 20 ∧ s.tmps[10]? = some (.bool false) ∧ ∀ j, (j < 5 ∨ 10 < j) → s.tmps[j]? = tm1[j]?) (fun τ => ?_) fun r2 v2 tm2 tm2' hr2 hx2 hq => ?_
  · rw [hC]; exact ga_r1 tm1 n (tap τ v1) s1 a0 hn
  obtain ⟨hb2, s2, b10, e2⟩ := hq
  have b0 := (e2 0 (by decide)).trans a0
  have g2 : ∀ g ∈ cgs, r2 g g := fun g h => hr2 _ _ (g1 g h)
  refine mmv (mv_cond (b := false) (eval_tmp (D := []) (vr_bool hx2 b10))) ?_
  refine mmv mv_skip ?_
  refine mmv (mv_seq _ _) ?_
  refine mpiece ga_in (ga_ok hC (by simp)) g2 hx2 (Q := fun s w => HB v2 w ∧ s.tmps.size = 20 ∧ s.tmps[4]? = some (.slice (some ⟨v2.heap.size, 0, none⟩) 1 1) ∧ LObj w v2.heap.size [[]] ∧ ∀ j, j ≠ 4 → (j < 11 ∨ 12 < j) → s.tmps[j]? = tm2[j]?) (fun τ => ?_) fun r3 v3 tm3 tm3' hr3 hx3 hq => ?_
  · rw [hC]; exact ga_r3 tm2 (tap τ v2) s2
  obtain ⟨hb3, s3, c4, hlo, e3⟩ := hq
  have c0 := (e3 0 (by decide) (by decide)).trans b0
  have c4 : tm3[4]? = _ := c4
  have s3 : tm3.size = 20 := s3
  have g3 : ∀ g ∈ cgs, r3 g g := fun g h => hr3 _ _ (g2 g h)
  generalize v2.heap.size = bf at c4 hlo
  refine mmv (mv_seq _ _) ?_
  refine mmv (mv_seq _ _) ?_
  refine mpiece ga_in (ga_ok hC (by simp)) g3 hx3 (Q := fun s w => HB v3 w ∧ s.tmps = (tm3.setIfInBounds 13 (.int .i64 (n : Nat))).setIfInBounds 14 (.int .i64 0)) (fun τ => ?_) fun r4 v4 tm4 tm4' hr4 hx4 hq => ?_
  · rw [hC]; exact ga_r4 tm3 n (tap τ v3) s3 c0
  obtain ⟨hb4, e4⟩ := hq
  have e4 : tm4 = _ := e4
  have hb : HB v v4 := ((hb1.trans hb2).trans hb3).trans hb4
  refine mmv (mv_block _ _) ?_
  refine mmv (mv_loop _) ?_
  refine a_loop (r0 := r) (v0 := v) hC hn hL (fun r5 v5 tm5 tm5' gv cv h5 => ?_) n 0 (by omega) r4 v4 tm4 tm4' bf 1 ⟨fun b b' q => hr4 _ _ (hr3 _ _ (hr2 _ _ (hr1 _ _ q))), hb, hx4, fun g h => hr4 _ _ (g3 g h), by rw [e4]; simp [s3], by rw [e4, set_ne (by decide), set_ne (by decide), hL0]; exact c4, by rw [e4, set_ne (by decide), set_at (by rw [s3]; decide)], by rw [e4, set_at (by simp [s3])]; rfl, by rw [hL0]; exact hlo.hn (hb4.hn 70), hT, Nat.le_trans hlow hb.1, hp0, hp1⟩
  refine mmv (mv_seq _ _) ?_
  refine mpiece ga_in (ga_ok hC (by simp)) h5.rg h5.xr (Q := fun s w => HB v5 w ∧ s.tmps = ((tm5.setIfInBounds 19 (.slice (some ⟨gv, 0, none⟩) (L n).length cv)).setIfInBounds 2 (.slice (some ⟨gv, 0, none⟩) (L n).length cv)).setIfInBounds 3 (.int .i64 0)) (fun τ => ?_) fun r6 v6 tm6 tm6' hr6 hx6 hq => ?_
  · rw [hC]; exact ga_r8 tm5 _ (tap τ v5) h5.sz h5.t4
  obtain ⟨hb6, e6⟩ := hq
  have e6 : tm6 = _ := e6
  exact hk r6 v6 tm6 tm6' gv cv (fun b b' q => hr6 _ _ (h5.le b b' q)) (h5.hb.trans hb6) (fun g h => hr6 _ _ (h5.rg g h)) hx6 (by rw [e6]; simp [h5.sz]) (by rw [e6, set_ne (by decide), set_at (by simp [h5.sz])]) (by rw [e6, set_at (by simp [h5.sz])]) (h5.lv.hn (hb6.hn 70)) (hb6.tab h5.tab) (Nat.le_trans h5.low hb6.1) (hb6.pure (h5.hb.pure h5.q0)) (hb6.pure (h5.hb.pure h5.q1))
end
end Go.Proofs.YtfbdgdphpdhcpaaDoor
namespace Go.Proofs.YtfbdgdphpdhcpaaDoor
open Go Go.Conc Go.RowKit Sm
set_option maxRecDepth 100000

def insL (N : Nat) (x : List Nat) : List (List Nat) → List (List Nat)
  | [] => [x]
  | y :: l => if cmpF (nth x) (nth y) N 0 < 0 then x :: y :: l else y :: insL N x l
def srtL (N : Nat) (l : List (List Nat)) : List (List Nat) := l.foldr (insL N) []
/-- The forms. -/
def lvl : Nat → List (List Nat)
  | 0 => [[]]
  | i + 1 => compL (srtL (i + 1) ((lvl i).flatMap outsL))
theorem insL_perm (N : Nat) (x : List Nat) : ∀ l, (insL N x l).Perm (x :: l)
  | [] => .refl _
  | y :: l => by
    unfold insL
    split
    · exact .refl _
    · exact ((insL_perm N x l).cons y).trans (.swap x y l)
theorem srtL_perm (N : Nat) : ∀ l, (srtL N l).Perm l
  | [] => .refl _
  | x :: l => (insL_perm N x _).trans ((srtL_perm N l).cons x)
def fokB (o : List Nat) : Bool := decide (o.length ≤ 5) && (List.range o.length).all fun k => decide (nth o k < pw o.length) && (!(nth o k).testBit k && (List.range o.length).all fun p => !(nth o k).testBit p || lack (nth o p) (nth o k) == 0)
theorem fok_of {o : List Nat} (h : fokB o = true) : FOk o := by
  unfold fokB at h
  simp only [Bool.and_eq_true, decide_eq_true_eq, List.all_eq_true, List.mem_range, Bool.not_eq_true', Bool.or_eq_true, beq_iff_eq] at h
  obtain ⟨h1, h2⟩ := h
  have hp : pw o.length ≤ 1024 := pw_le _ (by omega)
  refine ⟨h1, fun k hk => Nat.lt_of_lt_of_le (h2 k hk).1 hp, .inr ⟨o.length, rfl, by omega, .inr ⟨rfl, .inr ⟨fun k hk => ⟨Int.natCast_nonneg _, Int.ofNat_lt.2 (h2 k hk).1⟩, .inr ⟨rfl, fun u hu => ⟨(h2 u hu).2.1, fun p hp hb => ?_⟩⟩⟩⟩⟩⟩
  rcases (h2 u hu).2.2 p hp with h | h
  · have hb' : (nth o u).testBit p = true := hb
    rw [hb'] at h
    cases h
  · exact h
def srtB (N : Nat) (l : List (List Nat)) : Bool := (List.range l.length).all fun j => (List.range l.length).all fun k => decide (k ≤ j) || !decide (cmpF (nth (l.getD k [])) (nth (l.getD j [])) N 0 < 0)
theorem srt_of {N : Nat} {l : List (List Nat)} (h : srtB N l = true) : Srt N l := fun j k a b hjk ha hb => by
  unfold srtB at h
  simp only [List.all_eq_true, List.mem_range, Bool.or_eq_true, decide_eq_true_eq, Bool.not_eq_true', decide_eq_false_iff_not] at h
  have hk := (List.getElem?_eq_some_iff.1 hb).1
  rcases h j (by omega) k hk with q | q
  · omega
  · rw [List.getD_eq_getElem?_getD, List.getD_eq_getElem?_getD, ha, hb] at q
    exact q
def stpB (N : Nat) (Ls : List (List Nat)) : Bool := Ls.all fokB && (decide (Ls.length < 1000) && (decide (0 < N ∧ N ≤ 40) && ((srtL N (Ls.flatMap outsL)).all (fun y => y.length == N) && (decide (0 < (srtL N (Ls.flatMap outsL)).length ∧ (srtL N (Ls.flatMap outsL)).length ≤ 1000) && srtB N (srtL N (Ls.flatMap outsL))))))
theorem stp_of {N : Nat} {Ls : List (List Nat)} (h : stpB N Ls = true) : Stp N Ls (compL (srtL N (Ls.flatMap outsL))) := by
  unfold stpB at h
  simp only [Bool.and_eq_true, decide_eq_true_eq, List.all_eq_true, beq_iff_eq] at h
  obtain ⟨h1, h2, h3, h4, h5, h6⟩ := h
  exact ⟨_, rfl, fun o ho => fok_of (h1 o ho), h2, h3.1, h3.2, h4, h5.1, h5.2, srtL_perm _ _, srt_of h6⟩
theorem lvl_three : ∀ i, i < 3 → Stp (i + 1) (lvl i) (lvl (i + 1)) := by
  have h : (List.range 3).all (fun i => stpB (i + 1) (lvl i)) = true := by decide +kernel
  intro i hi
  exact stp_of (List.all_eq_true.1 h i (List.mem_range.2 hi))
theorem lvl3_len : (lvl 3).length = 5 := by decide +kernel
end Go.Proofs.YtfbdgdphpdhcpaaDoor
namespace Go.Proofs.YtfbdgdphpdhcpaaDoor
set_option maxRecDepth 100000
open Go.RowKit

theorem oper_round {l n : Nat} {P : Program} {o : Oper} {a : Act} {w : World} {K : Act → World → Prop} {Q : Exit → Act → World → Prop} (hd : ∀ c, o.op ≠ .defer c) (hL : ¬ LetsOut Q)
    (h : o.wp P a w K Q ∨ (o.asks P a w ∧ LetsOut Q)) : o.wpIn (Fence.wide.inRound l) n P a w K Q := by
  have h1 : o.wp P a w K Q := h.resolve_right fun h => hL h.2
  unfold Oper.wpIn
  refine ⟨fun _ _ => trivial, ?_⟩
  rw [Fence.inRound_round, Oper.semAt_some _ _ _ hd]
  unfold Oper.wp at h1
  generalize (execOp a.eval o).run P w = r at h1
  cases r with
  | ok x w' =>
    cases x with
    | value v => exact h1
    | skip => exact h1
    | defer d => exact h1
    | enter f args => exact ⟨fun e => by simp [Fence.inRound, Fence.wide] at e, callsIn_wide.2 h1⟩
    | row rw0 args => exact ⟨fun e => by simp [Fence.inRound, Fence.wide] at e, fun c cs _ => let ⟨v, w', r, s⟩ := h1 c cs; ⟨v, w', r, stepsIn_wide.2 s⟩⟩
    | _ => exact h1.elim
  | halt e w' =>
    cases e with
    | panic v => exact h1
    | _ => exact h1.elim
theorem any_round {l n : Nat} {P : Program} {md : Region.Mode} {ops : Array Oper} {Q : Exit → Act → World → Prop} (hd : ∀ (i : Nat) (o : Oper) c, ops[i]? = some o → o.op ≠ .defer c) (hL : ¬ LetsOut Q) :
    ∀ (fuel : Nat) (listed : Array Bool) (a : Act) (w : World), wpAny P md ops Q fuel listed a w → wpAnyIn (Fence.wide.inRound l) n P md ops Q fuel listed a w
  | 0, _, _, _, h => h
  | fuel + 1, listed, a, w, h => by
    refine ⟨h.1, fun i hi => ?_⟩
    have h2 := h.2 i hi
    unfold wpOp at h2
    unfold wpOpIn
    cases ho : ops[i]? with
    | none =>
      rw [ho] at h2
      exact any_round hd hL fuel _ _ _ h2
    | some o =>
      rw [ho] at h2
      simp only at h2 ⊢
      by_cases hw : Region.wanted o (yielded ops a.tmps) = true
      · rw [if_pos hw] at h2 ⊢
        refine Oper.wpIn_mono (fun a w h => any_round hd hL fuel _ a w h) (oper_round (fun c => hd i o c ho) hL h2)
      · rw [if_neg hw] at h2 ⊢
        exact ⟨fun _ _ => trivial, any_round hd hL fuel _ _ _ h2⟩
theorem round_lates {l n : Nat} {P : Program} {ops : Array Oper} {Q : Exit → Act → World → Prop} {S : World → Prop} {late : Nat → Bool} {id : Nat} {a : Act} {w : World} (hd : ∀ (i : Nat) (o : Oper) c, ops[i]? = some o → o.op ≠ .defer c) (hL : ¬ LetsOut Q)
    (hm : P.follows .mixedOrders = true) (h : Lates P ops Q S late ops.size (Array.replicate ops.size false) a w.drew) : (Code.region id ops true).wpIn (Fence.wide.inRound l) n P Q a w :=
  wpIn_region_any hm (any_round hd hL _ _ _ _ (Lates.any _ _ _ _ h))
theorem no_defer {ops : Array Oper} (h : (ops.all fun o => match o.op with | .defer _ => false | _ => true) = true) : ∀ (i : Nat) (o : Oper) c, ops[i]? = some o → o.op ≠ .defer c := fun i o c ho e => by
  obtain ⟨hlt, he⟩ := Array.getElem?_eq_some_iff.1 ho
  have := Array.all_eq_true.1 h i hlt
  rw [he, e] at this
  cases this
theorem equal_any (a b : Option Addr) (la ca lb cb : Nat) (f g : Nat → Int) (w : World) (hl : la ≤ maxLen) (hl2 : lb ≤ maxLen) (ha : Row w a la f) (hb : Row w b lb g) :
    Calls Tryd.prog 32 #[.slice a la ca, .slice b lb cb] w fun e w' => Ans e (SameRows la lb f g) ∧ Below w.heap.size w w' := by
  unfold maxLen at hl hl2
  by_cases hlen : la = lb
  · subst hlen
    have HA := (show Hid _ from ha); have HB := (show Hid _ from hb); clear ha hb
    go_enter Tryd.func32, Tryd.ntmps32
    go_wp2
    go_loopw [13] (fun i wx => ∃ k : Nat, k ≤ la ∧ i = .int .i64 k ∧ Hid (∀ j, j < k → f j = g j) ∧ Row wx a la f ∧ Row wx b la g ∧ Hid (Below w.heap.size w wx)) (fun i _ => la - (intOf i).toNat)
    case atStart => exact ⟨0, Nat.zero_le _, rfl, upto_zero, HA.out, HB.out, Below.refl _ _⟩
    case round =>
      obtain ⟨k, hk, rfl, hok, hA, hB, hW⟩ := hrel
      clear HA HB
      by_cases hlt : k < la
      · obtain ⟨b1, o1, rfl, hc1⟩ := hA.at hlt
        obtain ⟨b2, o2, rfl, hc2⟩ := hB.at hlt
        have d1 := hc1 k hlt
        have d2 := hc2 k hlt
        clear hc1 hc2
        have hlt' : (k : Int) < (la : Int) := by omega
        by_cases he : f k = g k
        · have hne : (f k != g k) = false := by simpa using he
          have HE := (show Hid _ from he); clear he
          go_wp2
          go_quiet (fail)
          go_wp2
          go_roundw
          case rel => exact ⟨k + 1, by omega, by go_num, upto_succ hok.out HE.out, hA, hB, below_drewN hW.out _⟩
          case measure => simp [intOf]; omega
        · have hne : (f k != g k) = true := by simpa using he
          go_wp2
          go_quiet (fail)
          go_wp2
          go_ret
          exact ⟨Ans.no (fun h => he (h.2 k hlt)), below_drewN hW.out _⟩
      · have hkn : k = la := by omega
        subst hkn
        go_wp2
        go_ret
        exact ⟨Ans.yes ⟨rfl, hok.out⟩, hW.out⟩
  · have hne : ((la : Int) != (lb : Int)) = true := by simp; omega
    clear ha hb
    go_enter Tryd.func32, Tryd.ntmps32
    go_wp2
    go_ret
    exact ⟨Ans.no (fun h => hlen h.1), Below.refl _ _⟩
end Go.Proofs.YtfbdgdphpdhcpaaDoor
