/-
  CanonRenumbers, from its start to its return. Conditions: the slices read as slices of numbers; the library's tables.
  CanonRenumbers, from its start to its return; whoever is picked. Conditions: the slices read as slices of numbers, and lie in cells; the library's tables.
-/
import Derived.Test.YtfbdgdphpdhcpaaDoorRnC
import Derived.Test.YtfbdgdphpdhcpaaDoorGqF
namespace Go.Proofs.YtfbdgdphpdhcpaaDoor
open Go Go.Conc Go.RowKit Sm
set_option maxRecDepth 100000

theorem ova_row {v : World} {o : List Nat} {x : Value} (hO : OVal v o x) : ∃ a cap, x = .agg #[.int .i64 (o.length : Nat), .slice a o.length cap] ∧ Row v a o.length (fun k => (nth o k : Nat)) := by
  rcases hO with ⟨rfl, rfl⟩ | ⟨bl, f, h1, h2, h3, rfl⟩
  · exact ⟨none, 0, rfl, fun k hk => absurd hk (Nat.not_lt_zero _)⟩
  · exact ⟨_, _, rfl, rowC_row h3⟩
/-- A form where it lies. -/
theorem lob_at {v : World} {bf : Nat} {L : List (List Nat)} (h : LObj v bf L) {k : Nat} {o : List Nat} (hk : L[k]? = some o) : ∃ a c, v.cell? ⟨bf, k * 2, none⟩ = some (.int .i64 (o.length : Nat)) ∧ v.cell? ⟨bf, k * 2 + 1, none⟩ = some (.slice a o.length c) ∧ Row v a o.length (fun k => (nth o k : Nat)) := by
  obtain ⟨cf, fr, hcf, hlv⟩ := h
  obtain ⟨p, q, hO, hp, hq⟩ := hlv k o hk
  obtain ⟨a, cap, e, hr⟩ := ova_row hO
  simp only [Value.agg.injEq, Array.mk.injEq, List.cons.injEq, and_true] at e
  obtain ⟨rfl, rfl⟩ := e
  refine ⟨a, cap, ?_, ?_, hr⟩
  · unfold World.cell?
    rw [show v.heap[bf]? = _ from hcf, Nat.mul_comm]
    exact hp
  · unfold World.cell?
    rw [show v.heap[bf]? = _ from hcf, Nat.mul_comm]
    exact hq
/-- What is known behind Form. -/
structure N1 (r : Nat → Nat → Prop) (v0 v : World) (tm tm' : Array Value) (a : Option Addr) (len cap : Nat) (al : Option Addr) (ml cl B2 B5 : Nat) (bl : Option Addr) (bc : Nat) (lq : Option Addr) (cq : Nat) (g : Nat → Nat) (x : List Nat) : Prop where
  hb : HB v0 v
  xr : XR (Rg Tryd.prog afs cgs r) tm tm'
  rg : ∀ g ∈ cgs, r g g
  sz : tm.size = 104
  t1 : tm[1]? = some (.slice al ml cl)
  t2 : tm[2]? = some (.pointer (some ⟨B2, 0, none⟩))
  t5 : tm[5]? = some (.pointer (some ⟨B5, 0, none⟩))
  t6 : tm[6]? = some (.slice lq len cq)
  b2 : v.cell? ⟨B2, 0, none⟩ = some (.int .i64 (len : Nat)) ∧ v.cell? ⟨B2, 1, none⟩ = some (.slice a len cap)
  b5 : v.cell? ⟨B5, 0, none⟩ = some (.int .i64 (len : Nat)) ∧ v.cell? ⟨B5, 1, none⟩ = some (.slice bl len bc)
  rb : Row v bl len (fun k => (prt g x k : Nat))
  rq : Row v lq len (fun k => (nth x k : Nat))
theorem N1.mv {r r' : Nat → Nat → Prop} {v0 v v' : World} {tm tm' tm1 tm1' : Array Value} {a : Option Addr} {len cap : Nat} {al : Option Addr} {ml cl B2 B5 : Nat} {bl : Option Addr} {bc : Nat} {lq : Option Addr} {cq : Nat} {g : Nat → Nat} {x : List Nat} (h : N1 r v0 v tm tm' a len cap al ml cl B2 B5 bl bc lq cq g x)
    (hr : ∀ b b', r b b' → r' b b') (hv : HB v v') (hx : XR (Rg Tryd.prog afs cgs r') tm1 tm1') (hs : tm1.size = 104) (ht : ∀ j, j < 7 → tm1[j]? = tm[j]?) : N1 r' v0 v' tm1 tm1' a len cap al ml cl B2 B5 bl bc lq cq g x where
  hb := h.hb.trans hv
  xr := hx
  rg g hg := hr _ _ (h.rg g hg)
  sz := hs
  t1 := (ht 1 (by simp)).trans h.t1
  t2 := (ht 2 (by simp)).trans h.t2
  t5 := (ht 5 (by simp)).trans h.t5
  t6 := (ht 6 (by simp)).trans h.t6
  b2 := ⟨hv.cell h.b2.1, hv.cell h.b2.2⟩
  b5 := ⟨hv.cell h.b5.1, hv.cell h.b5.2⟩
  rb := hv.row h.rb
  rq := hv.row h.rq
section
variable {Fin : Value → World → Prop} {K : World} {k : List Item} {rc : List Frame}
/-- The loop: is the form among all? -/
theorem n_loop {C : Code} (hC : IsR C) {v0 : World} {a : Option Addr} {len cap : Nat} {al : Option Addr} {ml cl B2 B5 : Nat} {bl : Option Addr} {bc : Nat} {lq : Option Addr} {cq : Nat} {g : Nat → Nat} {x : List Nat} (hn : len ≤ 5) {bf cf k0 : Nat} {o0 : List Nat} (ho0 : (lvq len)[k0]? = some o0) (hsame : ∀ j, j < len → nth o0 j = prt g x j)
    (hk : ∀ r v tm tm', N1 r v0 v tm tm' a len cap al ml cl B2 B5 bl bc lq cq g x → tm[9]? = some (.int .i64 0) → tm[10]? = some (.bool true) → Mc Fin K r v (fun _ => none) none (G (fF GR tm' k [] .normal) rc)) :
    ∀ d i, i + d = (lvq len).length → ∀ r v tm tm' q, N1 r v0 v tm tm' a len cap al ml cl B2 B5 bl bc lq cq g x → tm[8]? = some (.slice (some ⟨bf, 0, none⟩) (lvq len).length cf) → tm[9]? = some (.int .i64 0) → tm[10]? = some (.bool q) → tm[11]? = some (.int .i64 (i : Nat)) → LObj v bf (lvq len) → (k0 < i → q = true) → Mc Fin K r v (fun _ => none) none (G (fF GR tm' (.code (ybody C) :: .inLoop (ybody C) :: .inBlock 0 :: k) [] .normal) rc) := by
  have hlen := lvq_len len hn
  have hk0 : k0 < (lvq len).length := (List.getElem?_eq_some_iff.1 ho0).1
  intro d
  induction d with
  | zero =>
    intro i hi r v tm tm' q h t8 t9 t10 t11 hlo hq
    obtain rfl : i = (lvq len).length := by omega
    refine mmv (mv_seq _ _) ?_
    refine mmv (mv_seq _ _) ?_
    refine mpiece gr_in (gy_ok hC (by simp)) h.rg h.xr (Q := fun s w => HB v w ∧ s.tmps.size = 104 ∧ s.tmps[52]? = some (.bool (decide (((lvq len).length : Int) < ((lvq len).length : Int)))) ∧ ∀ j, j < 17 → s.tmps[j]? = tm[j]?) (fun τ => ?_) fun r1 v1 tm1 tm1' hr1 hx1 hq1 => ?_
    · rw [hC]; exact n_r12 tm (tap τ v) h.sz _ _ _ _ t11 t8
    obtain ⟨hb1, s1, e52, e1⟩ := hq1
    rw [decide_eq_false (by omega)] at e52
    refine mmv (mv_cond (b := false) (eval_tmp (D := []) (vr_bool hx1 e52))) ?_
    refine mmv (mv_exit (k' := k) rfl) ?_
    exact hk r1 v1 tm1 tm1' (h.mv hr1 hb1 hx1 s1 fun j hj => e1 j (by omega)) ((e1 9 (by decide)).trans t9) ((e1 10 (by decide)).trans (by rw [t10, hq hk0]))
  | succ d ih =>
    intro i hi r v tm tm' q h t8 t9 t10 t11 hlo hq
    have hil : i < (lvq len).length := by omega
    refine mmv (mv_seq _ _) ?_
    refine mmv (mv_seq _ _) ?_
    refine mpiece gr_in (gy_ok hC (by simp)) h.rg h.xr (Q := fun s w => HB v w ∧ s.tmps.size = 104 ∧ s.tmps[52]? = some (.bool (decide ((i : Int) < ((lvq len).length : Int)))) ∧ ∀ j, j < 17 → s.tmps[j]? = tm[j]?) (fun τ => ?_) fun r1 v1 tm1 tm1' hr1 hx1 hq1 => ?_
    · rw [hC]; exact n_r12 tm (tap τ v) h.sz _ _ _ _ t11 t8
    obtain ⟨hb1, s1, e52, e1⟩ := hq1
    rw [decide_eq_true (by omega)] at e52
    refine mmv (mv_cond (b := true) (eval_tmp (D := []) (vr_bool hx1 e52))) ?_
    refine mmv mv_skip ?_
    have h1 := h.mv hr1 hb1 hx1 s1 fun j hj => e1 j (by omega)
    have hlo1 := hlo.hn (hb1.hn 70)
    obtain ⟨o, ho⟩ : ∃ o, (lvq len)[i]? = some o := ⟨_, List.getElem?_eq_getElem hil⟩
    have hol := (lvq_cnt len hn o (List.mem_of_getElem? ho)).1
    obtain ⟨ao, co, oc0, oc1, hro⟩ := lob_at hlo1 ho
    rw [hol] at oc0 oc1 hro
    refine mmv (mv_seq _ _) ?_
    refine mmv (mv_block _ _) ?_
    refine mpiece gr_in (gy_ok hC (by simp)) h1.rg h1.xr (Q := fun s w => HB v1 w ∧ s.tmps.size = 104 ∧ (∃ b, s.tmps[10]? = some (.bool b) ∧ (q = true → b = true) ∧ ((∀ k, k < len → nth o k = prt g x k) → b = true)) ∧ ∀ j, j < 17 → j ≠ 10 → s.tmps[j]? = tm1[j]?) (fun τ => ?_) fun r2 v2 tm2 tm2' hr2 hx2 hq2 => ?_
    · rw [hC]
      exact n_r14x tm1 (tap τ v1) s1 q B5 bf _ cf i len bc co bl ao (prt g x) (nth o) h1.t5 ((e1 8 (by decide)).trans t8) ((e1 10 (by decide)).trans t10) ((e1 11 (by decide)).trans t11) (by omega) hil h1.b5.1 h1.b5.2 oc0 oc1 h1.rb hro
    obtain ⟨hb2, s2, ⟨b, u10, q1, q2⟩, e2⟩ := hq2
    have h2 := h1.mv hr2 hb2 hx2 s2 fun j hj => e2 j (by omega) (by omega)
    refine mmv (mv_inBlock _) ?_
    refine mpiece gr_in (gy_ok hC (by simp)) h2.rg h2.xr (Q := fun s w => HB v2 w ∧ s.tmps.size = 104 ∧ s.tmps[11]? = some (.int .i64 ((i + 1 : Nat) : Int)) ∧ ∀ j, j < 17 → j ≠ 11 → s.tmps[j]? = tm2[j]?) (fun τ => ?_) fun r5 v5 tm5 tm5' hr5 hx5 hq5 => ?_
    · rw [hC]; exact n_r13 tm2 (tap τ v2) s2 i ((e2 11 (by decide) (by decide)).trans ((e1 11 (by decide)).trans t11)) (by omega)
    obtain ⟨hb5, s5, u11, e5⟩ := hq5
    refine mmv (mv_inLoop _) ?_
    refine ih (i + 1) (by omega) r5 v5 tm5 tm5' b (h2.mv hr5 hb5 hx5 s5 fun j hj => e5 j (by omega) (by omega)) ((e5 8 (by decide) (by decide)).trans ((e2 8 (by decide) (by decide)).trans ((e1 8 (by decide)).trans t8))) ((e5 9 (by decide) (by decide)).trans ((e2 9 (by decide) (by decide)).trans ((e1 9 (by decide)).trans t9))) ((e5 10 (by decide) (by decide)).trans u10) u11 ((hlo1.hn (hb2.hn 70)).hn (hb5.hn 70)) fun hlt => ?_
    by_cases e : k0 = i
    · subst e
      rw [ho0] at ho
      cases ho
      exact q2 hsame
    · exact q1 (hq (by omega))
end
end Go.Proofs.YtfbdgdphpdhcpaaDoor
namespace Go.Proofs.YtfbdgdphpdhcpaaDoor
open Go Go.Conc Go.RowKit Sm
set_option maxRecDepth 100000

section
variable {Fin : Value → World → Prop} {K : World} {k : List Item} {rc : List Frame}
set_option maxHeartbeats 4000000 in
theorem n_run {C : Code} (hC : IsR C) {n : Int} {a : Option Addr} {len cap : Nat} {f : Nat → Int} {al : Option Addr} {ml cl : Nat} {h : Nat → Int} (hl : len ≤ maxLen) (hml : ml ≤ maxLen) {r : Nat → Nat → Prop} {v : World} {tm tm' : Array Value} (hx : XR (Rg Tryd.prog afs cgs r) tm tm') (hg : ∀ g ∈ cgs, r g g) (hs : tm.size = 104) (t0 : tm[0]? = some (.agg #[.int .i64 n, .slice a len cap])) (t1 : tm[1]? = some (.slice al ml cl)) (hr : Row v a len f) (hrl : Row v al ml h) (hT : Tab v) (hlow : Tryd.prog.globals.size ≤ v.heap.size) (hp0 : PureB v 0) (hp1 : PureB v 1)
    (hk : ∀ r' v' tm1 tm1' k', XR (Rg Tryd.prog afs cgs r') tm1 tm1' → tm1[4]? = some (.bool true) → Mc Fin K r' v' (fun _ => none) none (G (fF GR tm1' (.code .ret :: k') [] .normal) rc)) :
    Mc Fin K r v (fun _ => none) none (G (fF GR tm' (.code C :: k) [] .normal) rc) := by
  rw [gr_shape hC]
  refine mmv (mv_seq _ _) ?_
  refine mpiece gr_in (gr_ok hC (by simp)) hg hx (Q := fun s w => HB v w ∧ s.tmps.size = 104 ∧ (∃ B, s.tmps[2]? = some (.pointer (some ⟨B, 0, none⟩)) ∧ w.cell? ⟨B, 0, none⟩ = some (.int .i64 n) ∧ w.cell? ⟨B, 1, none⟩ = some (.slice a len cap)) ∧ s.tmps[1]? = tm[1]?) (fun τ => ?_) fun r1 v1 tm1 tm1' hr1 hx1 hq => ?_
  · rw [hC]; exact n_r0 tm (tap τ v) hs n a len cap t0
  obtain ⟨hb1, s1, ⟨B2, q2, q20, q21⟩, q1⟩ := hq
  have g1 : ∀ g ∈ cgs, r1 g g := fun g h => hr1 _ _ (hg g h)
  have s1 : tm1.size = 104 := s1
  -- canonBegun
  refine mmv (mv_seq _ _) ?_
  refine mmv (mv_seq _ _) ?_
  rw [gr1_shape hC]
  refine mmv (mv_region _ _) ?_
  obtain ⟨hops1, z1, hB1⟩ := gr1_ops hC
  rw [show List.range (opsOf (atc [1, 0, 0] C)).size = 0 :: List.range' 1 1 by rw [z1]; rfl]
  obtain ⟨o1, j1, j2, j3, j4⟩ := op_take hops1 0 rfl
  refine begun_call j1 j2 j3 j4 hx1 g1 (hb1.tab hT) (Nat.le_trans hlow hb1.1) (hb1.pure hp0) (hb1.pure hp1) fun r2 v2 tm2' hr2 hb2 g2 hx2 T2 l2 p02 p12 => ?_
  refine mtail 1 rfl (n := 1) (by rw [List.length_drop, Array.length_toList, z1]) gr_in hB1 g2 hx2 (Q := fun s w => HB v2 w ∧ s.tmps = (tm1.setIfInBounds 17 (.bool true)).setIfInBounds 18 (.bool false)) (fun τ => ?_) fun r3 v3 tm3 tm3' hr3 hx3 hq => ?_
  · rw [hC]; exact n_t1 (tm1.setIfInBounds 17 (.bool true)) (tap τ v2) (by simp [s1]) (set_at (by rw [s1]; decide) _)
  obtain ⟨hb3, e3⟩ := hq
  have e3 : tm3 = _ := e3
  have s3 : tm3.size = 104 := by rw [e3]; simp [s1]
  have e3' : ∀ j, j < 17 → tm3[j]? = tm1[j]? := fun j hj => by rw [e3, set_ne (by omega), set_ne (by omega)]
  have g3 : ∀ g ∈ cgs, r3 g g := fun g h => hr3 _ _ (g2 g h)
  have m18 : tm3[18]? = some (.bool false) := by rw [e3, set_at (by simp [s1])]
  refine mmv (mv_cond (b := false) (eval_tmp (D := []) (vr_bool hx3 m18))) ?_
  rw [if_neg (by decide)]
  refine mmv mv_skip ?_
  have h03 : HB v v3 := (hb1.trans hb2).trans hb3
  -- Form
  refine mmv (mv_seq _ _) ?_
  refine mpiece gr_in (gr_ok hC (by simp)) g3 hx3 (Q := fun s w => HB v3 w ∧ s.tmps.size = 104 ∧ (∃ c q B x0 x1, s.tmps[7]? = some (.int .i64 c) ∧ s.tmps[6]? = some q ∧ s.tmps[5]? = some (.pointer (some ⟨B, 0, none⟩)) ∧ w.cell? ⟨B, 0, none⟩ = some x0 ∧ w.cell? ⟨B, 1, none⟩ = some x1 ∧ FCk n len f c ∧ R1 c len f w x0 x1 q) ∧ ∀ j, j < 5 → s.tmps[j]? = tm3[j]?) (fun τ => ?_) fun r4 v4 tm4 tm4' hr4 hx4 hq => ?_
  · rw [hC]; exact n_r3 tm3 (tap τ v3) s3 n a len cap f B2 hl (h03.row hr) ((e3' 2 (by decide)).trans q2) ((hb2.trans hb3).cell q20) ((hb2.trans hb3).cell q21) (h03.tab hT)
  obtain ⟨hb4, s4, ⟨c, q, B5, x0, x1, c7, c6, c5, a0, a1, hck, hR⟩, e4⟩ := hq
  have g4 : ∀ g ∈ cgs, r4 g g := fun g h => hr4 _ _ (g3 g h)
  have h04 : HB v v4 := h03.trans hb4
  -- an error?
  refine mmv (mv_seq _ _) ?_
  refine mmv (mv_seq _ _) ?_
  refine mpiece gr_in (gr_ok hC (by simp)) g4 hx4 (Q := fun s w => HB v4 w ∧ s.tmps.size = 104 ∧ s.tmps[26]? = some (.bool (c != 0)) ∧ ∀ j, j < 17 → s.tmps[j]? = tm4[j]?) (fun τ => ?_) fun r5 v5 tm5 tm5' hr5 hx5 hq => ?_
  · rw [hC]; exact n_r4 tm4 (tap τ v4) s4 c c7
  obtain ⟨hb5, s5, m26, e5⟩ := hq
  have g5 : ∀ g ∈ cgs, r5 g g := fun g h => hr5 _ _ (g4 g h)
  refine mmv (mv_cond (b := (c != 0)) (eval_tmp (D := []) (vr_bool hx5 m26))) ?_
  by_cases e0 : c = 0
  · subst e0
    rw [if_neg (by decide)]
    refine mmv mv_skip ?_
    obtain ⟨rfl, h6, _⟩ := hck.good
    have hpo := po_of hck
    have hnat : ∀ k, k < len → nat f k < 1024 := fun k hk => Nat.lt_of_lt_of_le (hpo.sm k hk) (pw_le len (by omega))
    have hrow0 : Row v a len (fun k => (nat f k : Nat)) := by
      obtain ⟨_, h10, hrng, _⟩ := hck.good.2.2.good
      exact hrng.row hr
    rcases hR with ⟨hR0, _⟩ | ⟨_, _, x, bl, bc, lq, cq, hbx, rfl, rfl, hrb, rfl, hrq⟩
    · exact absurd rfl hR0
    have px := isP_per (by omega) (bst_mem hbx)
    have hxl : x.length = len := px.1
    rw [hxl] at c6 hrq
    have N5 : N1 r5 v v5 tm5 tm5' a len cap al ml cl B2 B5 bl bc lq cq (nat f) x := ⟨h04.trans hb5, hx5, g5, s5, (e5 1 (by decide)).trans ((e4 1 (by decide)).trans ((e3' 1 (by decide)).trans (q1.trans t1))), (e5 2 (by decide)).trans ((e4 2 (by decide)).trans ((e3' 2 (by decide)).trans q2)), (e5 5 (by decide)).trans c5, (e5 6 (by decide)).trans c6, ⟨hb5.cell (hb4.cell ((hb2.trans hb3).cell q20)), hb5.cell (hb4.cell ((hb2.trans hb3).cell q21))⟩, ⟨hb5.cell a0, hb5.cell a1⟩, hb5.row hrb, hb5.row hrq⟩
    -- the list, and the form by it
    refine mmv (mv_seq _ _) ?_
    refine mmv (mv_seq _ _) ?_
    refine mpiece gr_in (gr_ok hC (by simp)) N5.rg N5.xr (Q := fun s w => HB v5 w ∧ s.tmps.size = 104 ∧ s.tmps[39]? = some (.bool false) ∧ ∀ j, j < 17 → s.tmps[j]? = tm5[j]?) (fun τ => ?_) fun r6 v6 tm6 tm6' hr6 hx6 hq => ?_
    · rw [hC]; exact n_r6x tm5 (tap τ v5) s5 B2 B5 len cap bc cq a bl lq (nat f) x N5.t2 N5.t5 N5.t6 h6 hnat px N5.b2.1 N5.b2.2 N5.b5.1 N5.b5.2 (N5.hb.row hrow0) N5.rb N5.rq
    obtain ⟨hb6, s6, m39, e6⟩ := hq
    have N6 := N5.mv hr6 hb6 hx6 s6 fun j hj => e6 j (by omega)
    refine mmv (mv_cond (b := false) (eval_tmp (D := []) (vr_bool hx6 m39))) ?_
    rw [if_neg (by decide)]
    refine mmv mv_skip ?_
    -- what comes last
    have fin : ∀ r7 v7 tm7 tm7', N1 r7 v v7 tm7 tm7' a len cap al ml cl B2 B5 bl bc lq cq (nat f) x → Mc Fin K r7 v7 (fun _ => none) none (G (fF GR tm7' (.code (.seq (.seq (atc [1, 1, 1, 1, 1, 1, 0, 0] C) (.cond (.tmp 74) (.seq (atc [0] (thenT (atc [1, 1, 1, 1, 1, 1, 0] C))) .ret) .skip)) (.seq (atc [1, 1, 1, 1, 1, 1, 1, 0] C) (.seq (atc [1, 1, 1, 1, 1, 1, 1, 1, 0] C) (.seq (atc [1, 1, 1, 1, 1, 1, 1, 1, 1, 0] C) (.seq (atc [1, 1, 1, 1, 1, 1, 1, 1, 1, 1, 0] C) .ret))))) :: k) [] .normal) rc) := by
      intro r7 v7 tm7 tm7' N7
      refine mmv (mv_seq _ _) ?_
      refine mmv (mv_seq _ _) ?_
      refine mpiece gr_in (gr_ok hC (by simp)) N7.rg N7.xr (Q := fun s w => HB v7 w ∧ s.tmps.size = 104 ∧ (∃ b, s.tmps[74]? = some (.bool b) ∧ (b = false ↔ (ml = len ∧ ∀ p : Nat, p < len → ∃ j, j < len ∧ h j = (p : Nat)))) ∧ ∀ j, j < 17 → s.tmps[j]? = tm7[j]?) (fun τ => ?_) fun r8 v8 tm8 tm8' hr8 hx8 hq => ?_
      · rw [hC]; exact n_r17 tm7 (tap τ v7) N7.sz len B2 ml cl al h hml h6 (N7.hb.row hrl) N7.t1 N7.t2 N7.b2.1
      obtain ⟨hb8, s8, ⟨b, m74, hbi⟩, e8⟩ := hq
      have N8 := N7.mv hr8 hb8 hx8 s8 fun j hj => e8 j (by omega)
      refine mmv (mv_cond (b := b) (eval_tmp (D := []) (vr_bool hx8 m74))) ?_
      cases b with
      | true =>
        rw [if_pos rfl]
        refine mmv (mv_seq _ _) ?_
        refine mpiece gr_in (gr5_ok hC).2 N8.rg N8.xr (Q := fun s w => HB v8 w ∧ s.tmps[4]? = some (.bool true)) (fun τ => ?_) fun r9 v9 tm9 tm9' hr9 hx9 hq => ?_
        · rw [hC]; exact n_r18 tm8 (tap τ v8) s8
        exact hk r9 v9 tm9 tm9' _ hx9 hq.2
      | false =>
        obtain ⟨rfl, hsur⟩ := hbi.1 rfl
        obtain ⟨L, pL, hLk⟩ := perm_of h6 hsur
        have hrL : ∀ {w : World}, Row w al ml h → Row w al ml (fun k => (nth L k : Nat)) := fun {w} hw k hk => by
          obtain ⟨b', off, e', hc'⟩ := hw k hk
          exact ⟨b', off, e', by show w.cell? _ = some (.int .i64 ((nth L k : Nat) : Int)); rw [← hLk k hk]; exact hc'⟩
        rw [if_neg (by decide)]
        refine mmv mv_skip ?_
        refine mmv (mv_seq _ _) ?_
        refine mpiece gr_in (gr_ok hC (by simp)) N8.rg N8.xr (Q := fun s w => HB v8 w ∧ s.tmps.size = 104 ∧ (∃ D a3 c3, s.tmps[12]? = some (.pointer (some ⟨D, 0, none⟩)) ∧ w.cell? ⟨D, 0, none⟩ = some (.int .i64 (ml : Nat)) ∧ w.cell? ⟨D, 1, none⟩ = some (.slice a3 ml c3) ∧ Row w a3 ml (fun k => (prt (nat f) L k : Nat))) ∧ ∀ j, j < 12 → s.tmps[j]? = tm8[j]?) (fun τ => ?_) fun r9 v9 tm9 tm9' hr9 hx9 hq => ?_
        · rw [hC]; exact n_r19 tm8 (tap τ v8) s8 ml B2 cap cl a al (nat f) L h6 hnat pL (N8.hb.row hrow0) (hrL (N8.hb.row hrl)) N8.t1 N8.t2 N8.b2.1 N8.b2.2
        obtain ⟨hb9, s9, ⟨D, a3, c3, u12, d0, d1, hr3⟩, e9⟩ := hq
        have N9 := N8.mv hr9 hb9 hx9 s9 fun j hj => e9 j (by omega)
        -- its form
        have hf3 := fck_of h6 (hpo.prt pL)
        refine mmv (mv_seq _ _) ?_
        refine mpiece gr_in (gr_ok hC (by simp)) N9.rg N9.xr (Q := fun s w => HB v9 w ∧ s.tmps.size = 104 ∧ (∃ c q B x0 x1, s.tmps[7]? = some (.int .i64 c) ∧ s.tmps[14]? = some q ∧ s.tmps[13]? = some (.pointer (some ⟨B, 0, none⟩)) ∧ w.cell? ⟨B, 0, none⟩ = some x0 ∧ w.cell? ⟨B, 1, none⟩ = some x1 ∧ FCk (ml : Nat) ml (fun k => (prt (nat f) L k : Nat)) c ∧ R1 c ml (fun k => (prt (nat f) L k : Nat)) w x0 x1 q) ∧ ∀ j, j < 13 → j ≠ 7 → s.tmps[j]? = tm9[j]?) (fun τ => ?_) fun ra va tma tma' hra hxa hq => ?_
        · rw [hC]; exact n_r20 tm9 (tap τ v9) s9 (ml : Nat) a3 ml c3 (fun k => (prt (nat f) L k : Nat)) D hl hr3 u12 d0 d1 (N9.hb.tab hT)
        obtain ⟨hba, sa, ⟨c', q', B13, y0, y1, w7, _, w13, d30, d31, hck', hR'⟩, ea⟩ := hq
        obtain rfl : c' = 0 := hck'.one hf3
        have Na := N9.mv hra hba hxa sa fun j hj => ea j (by omega) (by omega)
        rcases hR' with ⟨hR0, _⟩ | ⟨_, _, y, bl3, bc3, lq3, cq3, hby, rfl, rfl, hrb3, _, _⟩
        · exact absurd rfl hR0
        rw [nat_cast] at hby hrb3
        -- alike
        refine mmv (mv_seq _ _) ?_
        refine mpiece gr_in (gr_ok hC (by simp)) Na.rg Na.xr (Q := fun s w => HB va w ∧ s.tmps.size = 104 ∧ s.tmps[15]? = some (.bool true) ∧ s.tmps[16]? = some (.int .i64 0) ∧ ∀ j, j < 15 → s.tmps[j]? = tma[j]?) (fun τ => ?_) fun rb vb tmb tmb' hrb' hxb hq => ?_
        · rw [hC]; exact n_r21 tma (tap τ va) sa ml B2 D cap c3 a a3 (nat f) L x y h6 hpo pL hbx hby (Na.hb.tab hT) (Na.hb.row hrow0) (hba.row hr3) Na.t2 Na.b2.1 Na.b2.2 ((ea 12 (by decide) (by decide)).trans u12) (hba.cell d0) (hba.cell d1)
        obtain ⟨hbb, sb, u15, u16, eb⟩ := hq
        have Nb := Na.mv hrb' hbb hxb sb fun j hj => eb j (by omega)
        refine mmv (mv_seq _ _) ?_
        refine mpiece gr_in (gr_ok hC (by simp)) Nb.rg Nb.xr (Q := fun s w => HB vb w ∧ s.tmps[4]? = some (.bool true)) (fun τ => ?_) fun rd vd tmd tmd' hrd hxd hq => ?_
        · rw [hC]; exact n_r22 tmb (tap τ vb) sb ml B5 B13 bc bc3 bl bl3 (prt (nat f) x) (prt (prt (nat f) L) y) h6 (fun k hk' => (form_same h6 pL hbx hby k hk').symm) Nb.rb (hbb.row hrb3) ((eb 7 (by decide)).trans w7) u15 u16 Nb.t5 Nb.b5.1 Nb.b5.2 ((eb 13 (by decide)).trans w13) (hbb.cell d30) (hbb.cell d31)
        exact hk rd vd tmd tmd' _ hxd hq.2
    -- one of all?
    refine mmv (mv_seq _ _) ?_
    refine mmv (mv_seq _ _) ?_
    refine mpiece gr_in (gr_ok hC (by simp)) N6.rg N6.xr (Q := fun s w => HB v6 w ∧ s.tmps.size = 104 ∧ s.tmps[42]? = some (.bool (decide ((len : Int) ≤ 5))) ∧ ∀ j, j < 17 → s.tmps[j]? = tm6[j]?) (fun τ => ?_) fun r7 v7 tm7 tm7' hr7 hx7 hq => ?_
    · rw [hC]; exact n_r8 tm6 (tap τ v6) s6 len B2 N6.t2 N6.b2.1
    obtain ⟨hb7, s7, m42, e7⟩ := hq
    have N7 := N6.mv hr7 hb7 hx7 s7 fun j hj => e7 j (by omega)
    refine mmv (mv_cond (b := decide ((len : Int) ≤ 5)) (eval_tmp (D := []) (vr_bool hx7 m42))) ?_
    by_cases h5 : len ≤ 5
    · rw [decide_eq_true (by omega), if_pos rfl]
      obtain ⟨o, ho, hsame⟩ := form_in h5 hpo hbx
      obtain ⟨k0, hk0, hok⟩ := List.mem_iff_getElem.1 ho
      have ho0 : (lvq len)[k0]? = some o := by rw [List.getElem?_eq_getElem hk0, hok]
      refine mmv (mv_seq _ _) ?_
      rw [gr9_shape hC]
      refine mmv (mv_region _ _) ?_
      obtain ⟨hops9, z9, hB9⟩ := gr9_ops hC
      rw [show List.range (opsOf (atc [0] (yC C))).size = 0 :: 1 :: 2 :: List.range' 3 5 by rw [z9]; rfl]
      obtain ⟨o0, f1, f2, f3, f4⟩ := op_take hops9 0 rfl
      obtain ⟨o1', i1, i2, i3, i4⟩ := op_take hops9 1 rfl
      obtain ⟨o2', w1, w2, w3, w4⟩ := op_take hops9 2 rfl
      refine mval N7.rg f1 (by rw [f3]; rfl) f4 N7.xr (.inl rfl) (x := .pointer (some ⟨B2, 0, none⟩)) (v1 := v7) (fun τ => by
        have q2 := N7.t2
        unfold execOp
        rw [f3]
        simp only [eval_tmp q2]
        go_simp) fun r8 tm8' hr8 hx8 => ?_
      rw [f2] at hx8
      have hx8' : XR (Rg Tryd.prog afs cgs r8) (tm7.setIfInBounds 44 (.pointer (some ⟨B2, 0, none⟩))) tm8' := hx8
      have N8 := N7.mv hr8 (HB.refl _) hx8' (by simp [N7.sz]) fun j hj => set_ne (by omega) _
      have u44 : (tm7.setIfInBounds 44 (.pointer (some ⟨B2, 0, none⟩)))[44]? = some (.pointer (some ⟨B2, 0, none⟩)) := set_at (by rw [N7.sz]; decide) _
      have hcel : ∀ τ, (tap τ v7).cell? ⟨B2, 0, none⟩ = some (.int .i64 (len : Nat)) := fun τ => N7.b2.1
      clear hx8
      generalize (tm7.setIfInBounds 44 (.pointer (some ⟨B2, 0, none⟩))) = tm8 at *
      refine mval N8.rg i1 (by rw [i3]; rfl) i4 N8.xr (.inl rfl) (x := .int .i64 (len : Nat)) (v1 := v7) (fun τ => by
        have q3 := hcel τ
        unfold execOp
        rw [i3]
        simp only [eval_tmp u44]
        go_simp) fun r9 tm9' hr9 hx9 => ?_
      rw [i2] at hx9
      have hx9' : XR (Rg Tryd.prog afs cgs r9) (tm8.setIfInBounds 45 (.int .i64 (len : Nat))) tm9' := hx9
      have N9 := N8.mv hr9 (HB.refl _) hx9' (by simp [N8.sz]) fun j hj => set_ne (by omega) _
      have u45 : (tm8.setIfInBounds 45 (.int .i64 (len : Nat)))[45]? = some (.int .i64 (len : Nat)) := set_at (by rw [N8.sz]; decide) _
      clear hx9
      generalize (tm8.setIfInBounds 45 (.int .i64 (len : Nat))) = tm9 at *
      refine all_call w1 w2 w3 w4 h5 N9.xr u45 N9.rg (N9.hb.tab hT) (Nat.le_trans hlow N9.hb.1) (N9.hb.pure hp0) (N9.hb.pure hp1) fun ra va tma' gv cv hra hba ga hlo hxa Ta la p0a p1a => ?_
      have Na := N9.mv hra hba hxa (by simp [N9.sz]) fun j hj => set_ne (by omega) _
      have u46 : (tm9.setIfInBounds 46 (.tuple #[.slice (some ⟨gv, 0, none⟩) (lvq len).length cv, .int .i64 0]))[46]? = some (.tuple #[.slice (some ⟨gv, 0, none⟩) (lvq len).length cv, .int .i64 0]) := set_at (by rw [N9.sz]; decide) _
      clear hxa
      generalize (tm9.setIfInBounds 46 (.tuple #[.slice (some ⟨gv, 0, none⟩) (lvq len).length cv, .int .i64 0])) = tma at *
      refine mtail 3 rfl (n := 5) (by rw [List.length_drop, Array.length_toList, z9]) gr_in hB9 Na.rg Na.xr (Q := fun s w => HB va w ∧ s.tmps.size = 104 ∧ s.tmps[8]? = some (.slice (some ⟨gv, 0, none⟩) (lvq len).length cv) ∧ s.tmps[9]? = some (.int .i64 0) ∧ ∀ j, j < 8 → s.tmps[j]? = tma[j]?) (fun τ => ?_) fun rb vb tmb tmb' hrb' hxb hq => ?_
      · rw [hC]; exact n_t9 tma (tap τ va) Na.sz _ u46
      obtain ⟨hbb, sb, u8, u9, eb⟩ := hq
      have Nb := Na.mv hrb' hbb hxb sb fun j hj => eb j (by omega)
      refine mmv (mv_seq _ _) ?_
      refine mpiece gr_in (gy_ok hC (by simp)) Nb.rg Nb.xr (Q := fun s w => HB vb w ∧ s.tmps = tmb.setIfInBounds 10 (.bool false)) (fun τ => ?_) fun rd vd tmd tmd' hrd hxd hq => ?_
      · rw [hC]; exact n_r10 tmb (tap τ vb) sb
      obtain ⟨hbd, ed⟩ := hq
      have ed : tmd = _ := ed
      have Nd := Nb.mv hrd hbd hxd (by rw [ed]; simp [Nb.sz]) fun j hj => by rw [ed]; exact set_ne (by omega) _
      refine mmv (mv_seq _ _) ?_
      refine mmv (mv_seq _ _) ?_
      refine mpiece gr_in (gy_ok hC (by simp)) Nd.rg Nd.xr (Q := fun s w => HB vd w ∧ s.tmps = tmd.setIfInBounds 11 (.int .i64 0)) (fun τ => ?_) fun re ve tme tme' hre hxe hq => ?_
      · rw [hC]; exact n_r11 tmd (tap τ vd) Nd.sz
      obtain ⟨hbe, ee⟩ := hq
      have ee : tme = _ := ee
      have Ne := Nd.mv hre hbe hxe (by rw [ee]; simp [Nd.sz]) fun j hj => by rw [ee]; exact set_ne (by omega) _
      refine mmv (mv_block _ _) ?_
      refine mmv (mv_loop _) ?_
      refine n_loop hC h5 ho0 hsame (fun rg' vg tmg tmg' Ng y9 y10 => ?_) (lvq len).length 0 (by omega) re ve tme tme' false Ne (by rw [ee, set_ne (by decide), ed, set_ne (by decide)]; exact u8) (by rw [ee, set_ne (by decide), ed, set_ne (by decide)]; exact u9) (by rw [ee, set_ne (by decide), ed, set_at (by rw [Nb.sz]; decide)]) (by rw [ee, set_at (by rw [Nd.sz]; decide)]; rfl) (((hlo.hn (hbb.hn 70)).hn (hbd.hn 70)).hn (hbe.hn 70)) (fun hlt => absurd hlt (Nat.not_lt_zero _))
      refine mmv (mv_seq _ _) ?_
      refine mpiece gr_in (gy_ok hC (by simp)) Ng.rg Ng.xr (Q := fun s w => HB vg w ∧ s.tmps.size = 104 ∧ s.tmps[69]? = some (.bool false) ∧ ∀ j, j < 17 → s.tmps[j]? = tmg[j]?) (fun τ => ?_) fun rh vh tmh tmh' hrh hxh hq => ?_
      · rw [hC]; exact n_r15 tmg (tap τ vg) Ng.sz y9 y10
      obtain ⟨hbh, sh, m69, eh⟩ := hq
      have Nh := Ng.mv hrh hbh hxh sh fun j hj => eh j (by omega)
      refine mmv (mv_cond (b := false) (eval_tmp (D := []) (vr_bool hxh m69))) ?_
      rw [if_neg (by decide)]
      refine mmv mv_skip ?_
      exact fin rh vh tmh tmh' Nh
    · rw [decide_eq_false (by omega), if_neg (by decide)]
      refine mmv mv_skip ?_
      exact fin r7 v7 tm7 tm7' N7
  · have hne : (c != 0) = true := by simpa using e0
    rw [hne, if_pos rfl]
    refine mmv (mv_seq _ _) ?_
    refine mpiece gr_in (gr5_ok hC).1 g5 hx5 (Q := fun s w => HB v5 w ∧ s.tmps[4]? = some (.bool true)) (fun τ => ?_) fun r6 v6 tm6 tm6' hr6 hx6 hq => ?_
    · rw [hC]; exact n_r5 tm5 (tap τ v5) s5
    exact hk r6 v6 tm6 tm6' _ hx6 hq.2
end
theorem xr_inr2 {R : Ren} {x x' y y' : Value} (hx : VR R x x') (hy : VR R y y') (m : Nat) : XR R (#[x, y] ++ Array.replicate m undef) (#[x', y'] ++ Array.replicate m undef) := by
  refine ⟨by simp, fun i u u' h1 h2 => ?_⟩
  match i with
  | 0 =>
    have e1 : (#[x, y] ++ Array.replicate m undef)[0]? = some x := by rw [Array.getElem?_append_left (by simp)]; rfl
    have e2 : (#[x', y'] ++ Array.replicate m undef)[0]? = some x' := by rw [Array.getElem?_append_left (by simp)]; rfl
    rw [e1] at h1; rw [e2] at h2; cases h1; cases h2; exact hx
  | 1 =>
    have e1 : (#[x, y] ++ Array.replicate m undef)[1]? = some y := by rw [Array.getElem?_append_left (by simp)]; rfl
    have e2 : (#[x', y'] ++ Array.replicate m undef)[1]? = some y' := by rw [Array.getElem?_append_left (by simp)]; rfl
    rw [e1] at h1; rw [e2] at h2; cases h1; cases h2; exact hy
  | i + 2 =>
    rw [Array.getElem?_append_right (by simp)] at h1 h2
    rw [Array.getElem?_replicate] at h1 h2
    split at h1
    · cases h1
      split at h2
      · cases h2; exact VR.tuple XR.nil
      · cases h2
    · cases h1
theorem renumbers_win (W : World) (hT : Tab W) (h0 : NumB W 0) (h1 : NumB W 1) {n : Int} {a : Option Addr} {len cap : Nat} {f : Nat → Int} {al : Option Addr} {ml cl : Nat} {h : Nat → Int} (hl : len ≤ maxLen) (hr : Row W a len f) (ha : InC W a) (hml : ml ≤ maxLen) (hrl : Row W al ml h) (hal : InC W al) :
    Win Tryd.prog (fun y w => y = .bool true ∧ Kp W w) (solo (G (Frame.enter Tryd.prog GR #[.agg #[.int .i64 n, .slice a len cap], .slice al ml cl] .normal) []) W) #[] := by
  obtain ⟨v0, gs, hs, p0, q1, hwin⟩ := start_view W h0 h1 (blkA a ++ blkA al) (fun b hb => by
    rcases List.mem_append.1 hb with hb | hb
    · exact ha.blk b hb
    · exact hal.blk b hb)
  have h2w : 2 ≤ W.heap.size := by
    obtain ⟨c, t, fr, h, _⟩ := h1
    have := (Array.getElem?_eq_some_iff.1 h).1
    omega
  have m1 : ∀ b ∈ blkA a, b ∈ blkA a ++ blkA al := fun b h => List.mem_append.2 (.inl h)
  have m2 : ∀ b ∈ blkA al, b ∈ blkA a ++ blkA al := fun b h => List.mem_append.2 (.inr h)
  obtain ⟨C, hC⟩ : ∃ C, IsR C := ⟨_, rfl⟩
  have hbK : Tryd.f8.body = some C := by rw [hC]; rfl
  have hen : Frame.enter Tryd.prog GR #[.agg #[.int .i64 n, .slice a len cap], .slice al ml cl] .normal = fF GR (#[.agg #[.int .i64 n, .slice a len cap], .slice al ml cl] ++ Array.replicate 102 undef) [.code C] [] .normal := by
    rw [enter_at _ Tryd.func8 hbK]
    have hsz2 : Tryd.f8.ntmps - (#[Value.agg #[.int .i64 n, .slice a len cap], Value.slice al ml cl]).size = 102 := by rw [Tryd.ntmps8]; rfl
    rw [hsz2]
    rfl
  rw [hen]
  refine hwin _ _ ?_
  refine n_run hC hl hml (xr_inr2 (vr_ord1 ha m1) (vr_row hal m2) 102) (fun g hg => ⟨rfl, by simp [cgs] at hg; rcases hg with rfl | rfl <;> simp⟩) (by simp) (by rw [Array.getElem?_append_left (by simp)]; rfl) (by rw [Array.getElem?_append_left (by simp)]; rfl) (seen_row hs m1 hr) (seen_row hs m2 hrl) (seen_tab hs hT) (by rw [glob2', gs]; omega) p0 q1 fun r' v' tm1 tm1' k' hx1 q => ?_
  have hret := ret_one (F := Tryd.f8) (t := 4) rfl (vr_bool hx1 q)
  exact MV.last Tryd.func8 (by kernel_rfl) (fun w => (hret w).1) (fun w => (hret w).2) (fun _ => rfl) fun w hk _ => ⟨rfl, hk⟩
end Go.Proofs.YtfbdgdphpdhcpaaDoor
