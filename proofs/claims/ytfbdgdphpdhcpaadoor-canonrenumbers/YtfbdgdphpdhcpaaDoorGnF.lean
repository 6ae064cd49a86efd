/-
  grown, its first loop: a channel is made, and a worker is started. Conditions: as in GnD.
  grown, its first loop: a worker for each form. Conditions: as in GnD.
-/
import Derived.Test.YtfbdgdphpdhcpaaDoorGnD
import Derived.Conc.SmallLaws
namespace Go.Proofs.YtfbdgdphpdhcpaaDoor
open Go Go.Conc Go.RowKit Sm
set_option maxRecDepth 100000

abbrev GN : FuncId := 36
theorem n6_shape {C : Code} (hC : IsN C) : atc [1, 1, 0, 1, 2, 2, 1, 1, 0, 2, 1, 1] C = .region 6 (opsOf (atc [1, 1, 0, 1, 2, 2, 1, 1, 0, 2, 1, 1] C)) true := by
  rw [hC]
  kernel_rfl
theorem n6_ops {C : Code} (hC : IsN C) : ((opsOf (atc [1, 1, 0, 1, 2, 2, 1, 1, 0, 2, 1, 1] C)).map fun o => (o.dst, o.op, o.guard)).toList =
    [(some 24, .load 24 (.tmp 5), none), (some 25, .move (.tmp 3), none), (some 26, .move (.tmp 4), none), (some 27, .indexAddr 69 (.tmp 25) (.tmp 26), none), (some 28, .load 70 (.tmp 27), none), (none, .go { callee := .value (.func GO), args := #[.tmp 24, .tmp 28], argTypes := #[24, 75] }, none)] := by
  rw [hC]
  kernel_rfl
/-- In which order the operations may come. -/
def okS : List Nat → List Nat → Bool
  | [5], D => [0, 1, 2, 3, 4].all D.contains
  | 0 :: l, D => okS l (0 :: D)
  | 1 :: l, D => okS l (1 :: D)
  | 2 :: l, D => okS l (2 :: D)
  | 3 :: l, D => D.contains 1 && D.contains 2 && okS l (3 :: D)
  | 4 :: l, D => D.contains 3 && okS l (4 :: D)
  | _, _ => false
theorem n6_sched {C : Code} (hC : IsN C) (t : Nat) : okS (Region.schedule (Tryd.prog.follows .mixedOrders) (opsOf (atc [1, 1, 0, 1, 2, 2, 1, 1, 0, 2, 1, 1] C)) t) [] = true := by
  rw [show Tryd.prog.follows .mixedOrders = true by kernel_rfl]
  refine sched_all (f := fun l => okS l []) ?_ t
  rw [hC]
  kernel_rfl
theorem n5_shape {C : Code} (hC : IsN C) : atc [1, 1, 0, 1, 2, 2, 1, 1, 0, 2, 1, 0] C = .region 5 (opsOf (atc [1, 1, 0, 1, 2, 2, 1, 1, 0, 2, 1, 0] C)) false := by
  rw [hC]
  kernel_rfl
theorem n5_ops {C : Code} (hC : IsN C) : ((opsOf (atc [1, 1, 0, 1, 2, 2, 1, 1, 0, 2, 1, 0] C)).map fun o => (o.dst, o.op, o.guard)).toList =
    [(some 20, .move (.tmp 3), none), (some 21, .move (.tmp 4), none), (some 22, .makeChan 70 (.const (.int .i64 0)), none), (some 23, .indexAddr 69 (.tmp 20) (.tmp 21), none), (none, .store 70 (.tmp 23) (.tmp 22), none)] := by
  rw [hC]
  kernel_rfl
/-- What of an order a worker is handed. -/
theorem oval_child {r : Nat → Nat → Prop} {v : World} {o : List Nat} {p q x' : Value} (hO : OVal v o (.agg #[p, q])) (hv : VR (Rg Tryd.prog afs cgs r) (.agg #[p, q]) x') :
    ∃ (S : Nat → Prop) (a : Option Addr) (cap : Nat), (∀ b, S b → PureB v b) ∧ (Value.agg #[p, q]) = .agg #[.int .i64 (o.length : Nat), .slice a o.length cap] ∧ Row v a o.length (fun k => (nth o k : Nat)) ∧
      ∀ r1 : Nat → Nat → Prop, (∀ b b', r b b' → S b → r1 b b') → VR (Rg Tryd.prog cfs cgs r1) (.agg #[p, q]) x' := by
  rcases hO with ⟨rfl, e⟩ | ⟨bl, f, h1, h2, h3, e⟩
  · refine ⟨fun _ => False, none, 0, fun _ h => h.elim, e, fun k hk => absurd hk (Nat.not_lt_zero _), fun r1 _ => ?_⟩
    rw [e] at hv ⊢
    obtain ⟨c', rfl, hs, hx⟩ := hv.out
    have e1 : c' = #[.int .i64 0, .slice none 0 0] := by
      refine Array.ext (by rw [hs]) fun i hi hi2 => ?_
      match i, hi with
      | 0, hi => exact (hx 0 _ _ rfl (Array.getElem?_eq_getElem hi)).out
      | 1, hi =>
        obtain ⟨a', e2, ha⟩ := (hx 1 _ _ rfl (Array.getElem?_eq_getElem hi)).out
        cases a' with
        | none => exact e2
        | some _ => exact ha.elim
      | i + 2, hi => rw [hs] at hi; simp at hi; omega
    rw [e1]
    exact vr_pure 2 _ (by simp [pureV]) _
  · refine ⟨fun b => b = bl, some ⟨bl, 0, none⟩, o.length, fun b hb => by subst hb; exact OVal.pure h3 h2, e, fun k hk => ⟨bl, 0, rfl, ?_⟩, fun r1 hr => ?_⟩
    · unfold World.cell?
      rw [h3]
      simp [rowC, natVals, nth, hk]
    · rw [e] at hv ⊢
      obtain ⟨bl', rfl, hrel⟩ := vr_order hv
      have hr1 : r1 bl bl' := hr _ _ hrel rfl
      refine VR.agg ⟨rfl, fun i u u' h4 h5 => ?_⟩
      match i with
      | 0 => simp at h4 h5; rw [← h4, ← h5]; exact VR.int _ _ _
      | 1 => simp at h4 h5; rw [← h4, ← h5]; exact VR.slice (a := some ⟨bl, 0, none⟩) (a' := some ⟨bl', 0, none⟩) ⟨hr1, rfl, rfl, Nat.zero_le _⟩ _ _
      | i + 2 => simp at h4
section
variable {Fin : Value → World → Prop} {K : World} {k : List Item} {rc : List Frame}
/-- Region 6: the values, in whatever order; then the worker is started. -/
theorem n6_go {ops : Array Oper} (hops : (ops.map fun o => (o.dst, o.op, o.guard)).toList = [(some 24, .load 24 (.tmp 5), none), (some 25, .move (.tmp 3), none), (some 26, .move (.tmp 4), none), (some 27, .indexAddr 69 (.tmp 25) (.tmp 26), none), (some 28, .load 70 (.tmp 27), none), (none, .go { callee := .value (.func GO), args := #[.tmp 24, .tmp 28], argTypes := #[24, 75] }, none)])
    {v : World} {ch : Nat → Option (List (List Nat))} {c bc m i b5 : Nat} {o : List Nat} {p q : Value} (hO : OVal v o (.agg #[p, q])) (h5 : Bxd v b5 #[p, q]) (hFO : FOk o) (hc : v.cell? ⟨bc, i, none⟩ = some (.chan (some c))) (hi : i < m) (hT : Tab v) (hlow : Tryd.prog.globals.size ≤ v.heap.size) (hp0 : PureB v 0) (hp1 : PureB v 1) :
    ∀ (l D : List Nat), okS l D = true → ∀ (r : Nat → Nat → Prop) (tm tm' : Array Value), XR (Rg Tryd.prog afs cgs r) tm tm' → (∀ g ∈ cgs, r g g) → tm.size = 49 → tm[3]? = some (.slice (some ⟨bc, 0, none⟩) m m) → tm[4]? = some (.int .i64 (i : Nat)) → tm[5]? = some (.pointer (some ⟨b5, 0, none⟩)) →
      (0 ∈ D → tm[24]? = some (.agg #[p, q])) → (1 ∈ D → tm[25]? = some (.slice (some ⟨bc, 0, none⟩) m m)) → (2 ∈ D → tm[26]? = some (.int .i64 (i : Nat))) → (3 ∈ D → tm[27]? = some (.pointer (some ⟨bc, i, none⟩))) → (4 ∈ D → tm[28]? = some (.chan (some c))) →
      (∀ r' tm1 tm1', (∀ b b', r b b' → r' b b') → XR (Rg Tryd.prog afs cgs r') tm1 tm1' → tm1.size = 49 → (∀ j, j < 24 ∨ 28 < j → tm1[j]? = tm[j]?) → Mc Fin K r' v (updc ch c (some (outsL o))) none (G (fF GN tm1' (.inRegion ops [] :: k) [] .normal) rc)) →
      Mc Fin K r v ch (some c) (G (fF GN tm' (.inRegion ops l :: k) [] .normal) rc) := by
  intro l
  induction l with
  | nil => intro D h; simp [okS] at h
  | cons x l ih =>
    intro D hD r tm tm' hx hg hs t3 t4 t5 d0 d1 d2 d3 d4 hn
    -- one value more
    have step : ∀ (j : Nat) (y : Value) (o' : Oper), ops[x]? = some o' → o'.dst = some j → 24 ≤ j → j ≤ 28 → opB Tryd.prog afs cgs o'.op = true → o'.guard = none → (∀ τ, (execOp (Act.eval ⟨tm, []⟩) o').run Tryd.prog (tap τ v) = .ok (.value y) (tap τ v)) → okS l (x :: D) = true →
        (0 ∈ x :: D → (tm.setIfInBounds j y)[24]? = some (.agg #[p, q])) → (1 ∈ x :: D → (tm.setIfInBounds j y)[25]? = some (.slice (some ⟨bc, 0, none⟩) m m)) → (2 ∈ x :: D → (tm.setIfInBounds j y)[26]? = some (.int .i64 (i : Nat))) → (3 ∈ x :: D → (tm.setIfInBounds j y)[27]? = some (.pointer (some ⟨bc, i, none⟩))) → (4 ∈ x :: D → (tm.setIfInBounds j y)[28]? = some (.chan (some c))) →
        Mc Fin K r v ch (some c) (G (fF GN tm' (.inRegion ops (x :: l) :: k) [] .normal) rc) := by
      intro j y o' ho hdst hj1 hj2 hop hgd hrun hok e0 e1 e2 e3 e4
      refine mval hg ho hop hgd hx (.inl rfl) hrun fun r1 tm1' hr1 hx1 => ?_
      rw [hdst] at hx1
      have hx1 : XR (Rg Tryd.prog afs cgs r1) (tm.setIfInBounds j y) tm1' := hx1
      refine ih (x :: D) hok r1 _ tm1' hx1 (fun g h => hr1 _ _ (hg g h)) (by simp [hs]) (by rw [set_ne (by omega)]; exact t3) (by rw [set_ne (by omega)]; exact t4) (by rw [set_ne (by omega)]; exact t5) e0 e1 e2 e3 e4 fun r' tm1 tm1' hr' hx' hs' ht' => ?_
      exact hn r' tm1 tm1' (fun b b' z => hr' _ _ (hr1 _ _ z)) hx' hs' fun j' hj' => by rw [ht' j' hj', set_ne (by omega)]
    have mem : ∀ (a b : Nat), a ≠ b → a ∈ b :: D → a ∈ D := fun a b hab h => (List.mem_cons.1 h).resolve_left hab
    match x, hD, step with
    | 0, hD, step =>
      obtain ⟨o', p1, p2, p3, p4⟩ := op_at hops 0 rfl
      refine step 24 (.agg #[p, q]) o' p1 p2 (by decide) (by decide) (by rw [p3]; rfl) p4 (fun τ => ?_) (by simpa [okS] using hD) (fun _ => set_at (by omega) _) (fun h => by rw [set_ne (by decide)]; exact d1 (mem _ _ (by decide) h)) (fun h => by rw [set_ne (by decide)]; exact d2 (mem _ _ (by decide) h)) (fun h => by rw [set_ne (by decide)]; exact d3 (mem _ _ (by decide) h)) (fun h => by rw [set_ne (by decide)]; exact d4 (mem _ _ (by decide) h))
      unfold execOp
      rw [p3]
      simp only [eval_tmp t5]
      have c0 : (tap τ v).cell? ⟨b5, 0, none⟩ = some p := by unfold World.cell?; rw [show (tap τ v).heap[b5]? = _ from h5]; rfl
      have c1 : (tap τ v).cell? ⟨b5, 1, none⟩ = some q := by unfold World.cell?; rw [show (tap τ v).heap[b5]? = _ from h5]; rfl
      go_simp
    | 1, hD, step =>
      obtain ⟨o', p1, p2, p3, p4⟩ := op_at hops 1 rfl
      refine step 25 _ o' p1 p2 (by decide) (by decide) (by rw [p3]; rfl) p4 (fun τ => ?_) (by simpa [okS] using hD) (fun h => by rw [set_ne (by decide)]; exact d0 (mem _ _ (by decide) h)) (fun _ => set_at (by omega) _) (fun h => by rw [set_ne (by decide)]; exact d2 (mem _ _ (by decide) h)) (fun h => by rw [set_ne (by decide)]; exact d3 (mem _ _ (by decide) h)) (fun h => by rw [set_ne (by decide)]; exact d4 (mem _ _ (by decide) h))
      unfold execOp
      rw [p3]
      simp only [eval_tmp t3]
      rfl
    | 2, hD, step =>
      obtain ⟨o', p1, p2, p3, p4⟩ := op_at hops 2 rfl
      refine step 26 _ o' p1 p2 (by decide) (by decide) (by rw [p3]; rfl) p4 (fun τ => ?_) (by simpa [okS] using hD) (fun h => by rw [set_ne (by decide)]; exact d0 (mem _ _ (by decide) h)) (fun h => by rw [set_ne (by decide)]; exact d1 (mem _ _ (by decide) h)) (fun _ => set_at (by omega) _) (fun h => by rw [set_ne (by decide)]; exact d3 (mem _ _ (by decide) h)) (fun h => by rw [set_ne (by decide)]; exact d4 (mem _ _ (by decide) h))
      unfold execOp
      rw [p3]
      simp only [eval_tmp t4]
      rfl
    | 3, hD, step =>
      obtain ⟨o', p1, p2, p3, p4⟩ := op_at hops 3 rfl
      simp only [okS, Bool.and_eq_true, List.contains_iff_mem] at hD
      have u1 := d1 hD.1.1
      have u2 := d2 hD.1.2
      refine step 27 _ o' p1 p2 (by decide) (by decide) (by rw [p3]; rfl) p4 (fun τ => ?_) hD.2 (fun h => by rw [set_ne (by decide)]; exact d0 (mem _ _ (by decide) h)) (fun h => by rw [set_ne (by decide)]; exact d1 (mem _ _ (by decide) h)) (fun h => by rw [set_ne (by decide)]; exact d2 (mem _ _ (by decide) h)) (fun _ => set_at (by omega) _) (fun h => by rw [set_ne (by decide)]; exact d4 (mem _ _ (by decide) h))
      unfold execOp
      rw [p3]
      simp only [eval_tmp u1, eval_tmp u2]
      go_simp
    | 4, hD, step =>
      obtain ⟨o', p1, p2, p3, p4⟩ := op_at hops 4 rfl
      simp only [okS, Bool.and_eq_true, List.contains_iff_mem] at hD
      have u3 := d3 hD.1
      refine step 28 _ o' p1 p2 (by decide) (by decide) (by rw [p3]; rfl) p4 (fun τ => ?_) hD.2 (fun h => by rw [set_ne (by decide)]; exact d0 (mem _ _ (by decide) h)) (fun h => by rw [set_ne (by decide)]; exact d1 (mem _ _ (by decide) h)) (fun h => by rw [set_ne (by decide)]; exact d2 (mem _ _ (by decide) h)) (fun h => by rw [set_ne (by decide)]; exact d3 (mem _ _ (by decide) h)) (fun _ => set_at (by omega) _)
      unfold execOp
      rw [p3]
      simp only [eval_tmp u3]
      have c0 : (tap τ v).cell? ⟨bc, i, none⟩ = some (.chan (some c)) := hc
      go_simp
    | 5, hD, step =>
      cases l with
      | cons y l => simp [okS] at hD
      | nil =>
        obtain ⟨o', p1, p2, p3, p4⟩ := op_at hops 5 rfl
        simp only [okS, List.all_cons, List.all_nil, Bool.and_true, Bool.and_eq_true, List.contains_iff_mem] at hD
        have u0 := d0 hD.1
        have u4 := vr_chan hx (d4 hD.2.2.2.2)
        obtain ⟨x', u0', hv⟩ := hx.at u0
        obtain ⟨S, a, cap, hS, he, hrow, hVR⟩ := oval_child hO hv
        have hP : ∀ b, (b = 0 ∨ b = 1 ∨ S b) → PureB v b := fun b hb => by
          rcases hb with rfl | rfl | hb
          · exact hp0
          · exact hp1
          · exact hS b hb
        refine MV.spawn (fs1 := cfs) (gs1 := cgs) (r1 := fun b b' => r b b' ∧ (b = 0 ∨ b = 1 ∨ S b)) (v1 := v) (out := outsL o) (by decide) p1 (by unfold Region.wanted; rw [p4]) (d := { target := .fn (.func GO) #[], args := #[x', .chan (some c)] }) rfl (fun w => ?_) (fun w => ?_) (fun b b' h => h.1) (fun w hw => WR0.restrict hw (fun b b' h => h.1) fun b b' h => hP b h.2) (fun b b' h => ?_) (fun b' h => ?_) ?_ ?_
        · unfold execOp
          rw [p3]
          have ef : Act.eval ⟨tm', []⟩ (.func GO) = .func (.func GO) #[] #[] := rfl
          simp [resolve, Deferred.ofValue, eval_tmp u0', eval_tmp u4, ef]
        · unfold execOp
          rw [p3]
          rfl
        · obtain ⟨c1, t1, fr, h1, _, h2⟩ := hP b h.2
          exact ⟨_, h1, h2⟩
        · obtain ⟨b, ob, h1, h2, h3⟩ := h
          obtain ⟨c1, t1, fr, h4, _, h5⟩ := hP b h1.2
          rw [h4] at h2
          cases h2
          exact h3 h5
        · rw [he] at hVR
          exact grow_ws hFO.1 hFO.2.1 hFO.2.2 hrow hT (fun g hg' => ⟨hg g hg', by
            simp only [cgs, List.mem_cons, List.not_mem_nil, or_false] at hg'
            exact hg'.elim .inl fun e => .inr (.inl e)⟩) hlow (hVR _ fun b b' h1 h2 => ⟨h1, .inr (.inr h2)⟩)
        · have e : (Act.put ⟨tm', []⟩ o'.dst undef).tmps = tm' := by rw [p2]; rfl
          rw [e]
          exact hn r tm tm' (fun _ _ h => h) hx hs fun _ _ => rfl
    | x + 6, hD, step => simp [okS] at hD
end
end Go.Proofs.YtfbdgdphpdhcpaaDoor
namespace Go.Proofs.YtfbdgdphpdhcpaaDoor
open Go Go.Conc Go.RowKit Sm
set_option maxRecDepth 100000

/-- A list of orders that lies in one block. -/
def LObj (v : World) (bf : Nat) (Ls : List (List Nat)) : Prop := ∃ cf fr, v.heap[bf]? = some (.cells cf 24 fr) ∧ ∀ k o, Ls[k]? = some o → ∃ p q, OVal v o (.agg #[p, q]) ∧ cf[2 * k]? = some p ∧ cf[2 * k + 1]? = some q
theorem LObj.hn {v w : World} {bf : Nat} {Ls : List (List Nat)} (h : LObj v bf Ls) (hw : HN 70 v w) : LObj w bf Ls := by
  obtain ⟨cf, fr, h1, h2⟩ := h
  refine ⟨cf, fr, hw.2 _ _ _ _ (by decide) h1, fun k o hk => ?_⟩
  obtain ⟨p, q, h3, h4, h5⟩ := h2 k o hk
  exact ⟨p, q, hw.oval (.inr rfl) h3, h4, h5⟩
/-- What the first loop holds. -/
theorem hb_set {v0 v : World} (h : HB v0 v) {bc i : Nat} (hb : v0.heap.size ≤ bc) (x : Value) : HB v0 (v.setCell ⟨bc, i, none⟩ x) :=
  ⟨by rw [World.size_setCell]; exact h.1, fun b hlt => (Below.heap_setCell _ _ _ _ (by show b ≠ bc; omega)).trans (h.2 b hlt)⟩
structure G1 (r0 r : Nat → Nat → Prop) (v0 v : World) (tm tm' : Array Value) (bf capf bc i : Nat) (Ls : List (List Nat)) (ps : List (Nat × List (List Nat))) : Prop where
  le : ∀ b b', r0 b b' → r b b'
  hb : HB v0 v
  lo : v0.heap.size ≤ bc
  xr : XR (Rg Tryd.prog afs cgs r) tm tm'
  rg : ∀ g ∈ cgs, r g g
  sz : tm.size = 49
  t3 : tm[3]? = some (.slice (some ⟨bc, 0, none⟩) Ls.length Ls.length)
  t13 : tm[13]? = some (.slice (some ⟨bf, 0, none⟩) Ls.length capf)
  t14 : tm[14]? = some (.int .i64 (Ls.length : Nat))
  t15 : tm[15]? = some (.int .i64 (i : Nat))
  lv : LObj v bf Ls
  ch : ChR v bc (ps.map Prod.fst) Ls.length
  len : ps.length = i
  outs : ps.map Prod.snd = (Ls.take i).map outsL
  nd : (ps.map Prod.fst).Nodup
  tab0 : Tab v0
  low : Tryd.prog.globals.size ≤ v.heap.size
  q0 : PureB v0 0
  q1 : PureB v0 1
theorem G1.mv {r0 r r' : Nat → Nat → Prop} {v0 v v' : World} {tm tm' tm1 tm1' : Array Value} {bf capf bc i : Nat} {Ls : List (List Nat)} {ps : List (Nat × List (List Nat))} (h : G1 r0 r v0 v tm tm' bf capf bc i Ls ps)
    (hr : ∀ b b', r b b' → r' b b') (hv : HB v v') (hx : XR (Rg Tryd.prog afs cgs r') tm1 tm1') (hs : tm1.size = 49) (ht : ∀ j, j = 3 ∨ j = 13 ∨ j = 14 ∨ j = 15 → tm1[j]? = tm[j]?) : G1 r0 r' v0 v' tm1 tm1' bf capf bc i Ls ps where
  le b b' q := hr _ _ (h.le b b' q)
  hb := h.hb.trans hv
  lo := h.lo
  xr := hx
  rg g hg := hr _ _ (h.rg g hg)
  sz := hs
  t3 := (ht 3 (by simp)).trans h.t3
  t13 := (ht 13 (by simp)).trans h.t13
  t14 := (ht 14 (by simp)).trans h.t14
  t15 := (ht 15 (by simp)).trans h.t15
  lv := h.lv.hn (hv.hn 70)
  ch := (hv.2 _ (Array.getElem?_eq_some_iff.1 h.ch).1).trans h.ch
  len := h.len
  outs := h.outs
  nd := h.nd
  tab0 := h.tab0
  low := Nat.le_trans h.low hv.1
  q0 := h.q0
  q1 := h.q1
theorem G1.tab {r0 r : Nat → Nat → Prop} {v0 v : World} {tm tm' : Array Value} {bf capf bc i : Nat} {Ls : List (List Nat)} {ps : List (Nat × List (List Nat))} (h : G1 r0 r v0 v tm tm' bf capf bc i Ls ps) : Tab v := h.hb.tab h.tab0
theorem oval_form {v : World} {o : List Nat} {p q : Value} (h : OVal v o (.agg #[p, q])) : ∃ pn qa ql qc, p = .int .i64 pn ∧ q = .slice qa ql qc := by
  rcases h with ⟨_, e⟩ | ⟨bl, f, _, _, _, e⟩
  · simp only [Value.agg.injEq, Array.mk.injEq, List.cons.injEq, and_true] at e
    exact ⟨_, _, _, _, e.1, e.2⟩
  · simp only [Value.agg.injEq, Array.mk.injEq, List.cons.injEq, and_true] at e
    exact ⟨_, _, _, _, e.1, e.2⟩
theorem hn_set {v : World} {bc i : Nat} {cs : List Nat} {m : Nat} (h : ChR v bc cs m) (x : Value) : HN 70 v (v.setCell ⟨bc, i, none⟩ x) := by
  refine ⟨by rw [World.size_setCell]; exact Nat.le_refl _, fun b c t fr ht hb => ?_⟩
  have hne : b ≠ bc := fun e => by
    subst e
    rw [show v.heap[b]? = _ from h] at hb
    cases hb
    exact ht rfl
  exact (Below.heap_setCell _ _ _ _ hne).trans hb
theorem ch_set {v : World} {bc : Nat} {cs : List Nat} {m : Nat} (h : ChR v bc cs m) (hl : cs.length < m) (c : Nat) : ChR (v.setCell ⟨bc, cs.length, none⟩ (.chan (some c))) bc (cs ++ [c]) m := by
  unfold ChR at *
  unfold World.setCell
  simp only [Array.getElem?_modify, if_pos, h, Option.map_some]
  simp [chv_set hl]
theorem el70 : ∃ dir e i, Tryd.prog.underlying 70 = some (.chan dir e) ∧ Tryd.prog.info? e = some i := by
  have h : (match Tryd.prog.underlying 70 with | some (.chan _ e) => (Tryd.prog.info? e).isSome | _ => false) = true := by kernel_rfl
  split at h
  · rename_i e he
    obtain ⟨i, hi⟩ := Option.isSome_iff_exists.1 h
    exact ⟨_, e, i, he, hi⟩
  · cases h
theorem mk70 (w : World) : (Instr.makeChan 70 (.int .i64 0)).run Tryd.prog w = .ok (.chan (some w.heap.size)) (w.alloc (.chan 0 #[] false 0 0 false)) := by
  obtain ⟨dir, e, i, h1, h2⟩ := el70
  simpa using run_makeChan (P := Tryd.prog) (w := w) h1 h2 .i64 0 (by decide) (by simp)
theorem mk70e (w : World) (es : Array Event) : (Instr.makeChan 70 (.int .i64 0)).events Tryd.prog w es = es := by
  obtain ⟨dir, e, i, h1, h2⟩ := el70
  simpa using events_makeChan (P := Tryd.prog) (w := w) h1 h2 .i64 0 (by decide) (by simp) es
section
variable {Fin : Value → World → Prop} {K : World} {k : List Item} {rc : List Frame}
abbrev nbody1 (C : Code) : Code := .seq (atc [1, 1, 0, 1, 2, 2, 0] C) (.seq (.cond (.tmp 16) .skip (.exit 0)) (.seq (.block 1 (.seq (atc [1, 1, 0, 1, 2, 2, 1, 1, 0, 2, 0] C) (.seq (atc [1, 1, 0, 1, 2, 2, 1, 1, 0, 2, 1, 0] C) (atc [1, 1, 0, 1, 2, 2, 1, 1, 0, 2, 1, 1] C)))) (atc [1, 1, 0, 1, 2, 2, 1, 1, 1] C)))
theorem gn_in : ∃ f, Tryd.prog.funcs[GN]? = some f := ⟨_, Tryd.func36⟩
theorem n_loop1 {r0 : Nat → Nat → Prop} {v0 : World} {C : Code} (hC : IsN C) {bf capf bc : Nat} {Ls : List (List Nat)} (hLs : ∀ o ∈ Ls, FOk o) (hm : Ls.length < 1000)
    (hk : ∀ r v tm tm' ps, G1 r0 r v0 v tm tm' bf capf bc Ls.length Ls ps → Mc Fin K r v (look ps) none (G (fF GN tm' k [] .normal) rc)) :
    ∀ d i, i + d = Ls.length → ∀ r v tm tm' ps, G1 r0 r v0 v tm tm' bf capf bc i Ls ps → Mc Fin K r v (look ps) none (G (fF GN tm' (.code (nbody1 C) :: .inLoop (nbody1 C) :: .inBlock 0 :: k) [] .normal) rc) := by
  intro d
  induction d with
  | zero =>
    intro i hi r v tm tm' ps h
    obtain rfl : i = Ls.length := by omega
    refine mmv (mv_seq _ _) ?_
    refine mpiece gn_in (gn_ok hC (by simp)) h.rg h.xr (Q := fun s w => HB v w ∧ s.tmps = tm.setIfInBounds 16 (.bool (decide ((Ls.length : Int) < (Ls.length : Int))))) (fun τ => ?_) fun r1 v1 tm1 tm1' hr1 hx1 hq => ?_
    · rw [hC]; exact gn_r3 tm Ls.length Ls.length (tap τ v) h.t15 h.t14
    obtain ⟨hb1, e1⟩ := hq
    have e1 : tm1 = _ := e1
    have e16 : tm1[16]? = some (.bool false) := by
      rw [e1, set_at (by rw [h.sz]; decide), decide_eq_false (by omega)]
    refine mmv (mv_seq _ _) ?_
    refine mmv (mv_cond (b := false) (eval_tmp (D := []) (vr_bool hx1 e16))) ?_
    refine mmv (mv_exit (k' := k) rfl) ?_
    exact hk r1 v1 tm1 tm1' ps (h.mv hr1 hb1 hx1 (by rw [e1]; simp [h.sz]) fun j hj => by rw [e1]; exact set_ne (by omega) _)
  | succ d ih =>
    intro i hi r v tm tm' ps h
    have hil : i < Ls.length := by omega
    refine mmv (mv_seq _ _) ?_
    refine mpiece gn_in (gn_ok hC (by simp)) h.rg h.xr (Q := fun s w => HB v w ∧ s.tmps = tm.setIfInBounds 16 (.bool (decide ((i : Int) < (Ls.length : Int))))) (fun τ => ?_) fun r1 v1 tm1 tm1' hr1 hx1 hq => ?_
    · rw [hC]; exact gn_r3 tm i Ls.length (tap τ v) h.t15 h.t14
    obtain ⟨hb1, e1⟩ := hq
    have e1 : tm1 = _ := e1
    have e16 : tm1[16]? = some (.bool true) := by
      rw [e1, set_at (by rw [h.sz]; decide), decide_eq_true (by omega)]
    have h1 := h.mv hr1 hb1 hx1 (by rw [e1]; simp [h.sz]) fun j hj => by rw [e1]; exact set_ne (by omega) _
    refine mmv (mv_seq _ _) ?_
    refine mmv (mv_cond (b := true) (eval_tmp (D := []) (vr_bool hx1 e16))) ?_
    refine mmv mv_skip ?_
    refine mmv (mv_seq _ _) ?_
    refine mmv (mv_block _ _) ?_
    refine mmv (mv_seq _ _) ?_
    clear hr1 hx1 hb1 e16 e1 h
    -- the next form
    obtain ⟨o, ho⟩ : ∃ o, Ls[i]? = some o := ⟨_, List.getElem?_eq_getElem hil⟩
    have hFO : FOk o := hLs o (List.mem_of_getElem? ho)
    obtain ⟨cf, fr, hcf, hlv⟩ := h1.lv
    obtain ⟨p, q, hO, hp, hq⟩ := hlv i o ho
    obtain ⟨pn, qa, ql, qc, rfl, rfl⟩ := oval_form hO
    refine mpiece gn_in (gn_ok hC (by simp)) h1.rg h1.xr (Q := fun s w => HB v1 w ∧ s.tmps.size = 49 ∧ Bxd w v1.heap.size #[.int .i64 pn, .slice qa ql qc] ∧ s.tmps[5]? = some (.pointer (some ⟨v1.heap.size, 0, none⟩)) ∧ s.tmps[4]? = some (.int .i64 (i : Nat)) ∧ (∀ j, j ≠ 4 → j ≠ 5 → (j < 17 ∨ 19 < j) → s.tmps[j]? = tm1[j]?)) (fun τ => ?_) fun r2 v2 tm2 tm2' hr2 hx2 hq2 => ?_
    · rw [hC]
      exact gn_r4 tm1 bf Ls.length capf i pn qa ql qc (tap τ v1) h1.sz h1.t13 h1.t15 hil (by unfold World.cell?; rw [show (tap τ v1).heap[bf]? = _ from hcf]; exact hp) (by unfold World.cell?; rw [show (tap τ v1).heap[bf]? = _ from hcf]; exact hq)
    obtain ⟨hb2, s2, hbx, u5, u4, e2⟩ := hq2
    have h2 := h1.mv hr2 hb2 hx2 s2 fun j hj => e2 j (by omega) (by omega) (by omega)
    have hO2 := (hb2.hn 24).oval (.inl rfl) hO
    have u5 : tm2[5]? = _ := u5
    have u4 : tm2[4]? = _ := u4
    clear hr2 hx2 e2 hO hp hq hlv hcf h1
    generalize v1.heap.size = b5 at hbx u5
    clear hb2
    -- a channel
    refine mmv (mv_seq _ _) ?_
    rw [n5_shape hC]
    refine mmv (mv_region _ _) ?_
    have z5 : (opsOf (atc [1, 1, 0, 1, 2, 2, 1, 1, 0, 2, 1, 0] C)).size = 5 := by
      have := congrArg List.length (n5_ops hC)
      simpa using this
    rw [show List.range (opsOf (atc [1, 1, 0, 1, 2, 2, 1, 1, 0, 2, 1, 0] C)).size = [0, 1, 2, 3, 4] by rw [z5]; rfl]
    obtain ⟨o0, a1, a2, a3, a4⟩ := op_at (n5_ops hC) 0 rfl
    obtain ⟨o1, b1, b2, b3, b4⟩ := op_at (n5_ops hC) 1 rfl
    obtain ⟨o2, c1, c2, c3, c4⟩ := op_at (n5_ops hC) 2 rfl
    obtain ⟨o3, d1, d2, d3, d4⟩ := op_at (n5_ops hC) 3 rfl
    obtain ⟨o4, e1, e2, e3, e4⟩ := op_at (n5_ops hC) 4 rfl
    generalize opsOf (atc [1, 1, 0, 1, 2, 2, 1, 1, 0, 2, 1, 0] C) = ops at a1 b1 c1 d1 e1 ⊢
    refine mval h2.rg a1 (by rw [a3]; rfl) a4 h2.xr (.inl rfl) (x := .slice (some ⟨bc, 0, none⟩) Ls.length Ls.length) (v1 := v2) (fun τ => by
      unfold execOp
      rw [a3]
      simp only [eval_tmp h2.t3]
      rfl) fun r3 tm3' hr3 hx3 => ?_
    rw [a2] at hx3
    have hx3 : XR (Rg Tryd.prog afs cgs r3) (tm2.setIfInBounds 20 (.slice (some ⟨bc, 0, none⟩) Ls.length Ls.length)) tm3' := hx3
    have h3 := h2.mv hr3 (HB.refl _) hx3 (by simp [s2]) fun j hj => set_ne (by omega) _
    refine mval h3.rg b1 (by rw [b3]; rfl) b4 hx3 (.inl rfl) (x := .int .i64 (i : Nat)) (v1 := v2) (fun τ => by
      unfold execOp
      rw [b3]
      simp only [eval_tmp ((set_ne (show (20 : Nat) ≠ 4 by decide) _).trans u4)]
      rfl) fun r4 tm4' hr4 hx4 => ?_
    rw [b2] at hx4
    have hx4 : XR (Rg Tryd.prog afs cgs r4) ((tm2.setIfInBounds 20 (.slice (some ⟨bc, 0, none⟩) Ls.length Ls.length)).setIfInBounds 21 (.int .i64 (i : Nat))) tm4' := hx4
    have h4 := h3.mv hr4 (HB.refl _) hx4 (by simp [s2]) fun j hj => set_ne (by omega) _
    refine MV.make (by decide) c1 (by unfold Region.wanted; rw [c4]) (fun w => ?_) (fun w => ?_) fun c => mxnone fun hnone => ?_
    · unfold execOp
      rw [c3]
      have ec : Act.eval ⟨tm4', []⟩ (.const (.int .i64 0)) = .int .i64 0 := rfl
      simp [ec, mk70]
    · unfold execOp
      rw [c3]
      have ec : Act.eval ⟨tm4', []⟩ (.const (.int .i64 0)) = .int .i64 0 := rfl
      simp [ec, mk70e]
    rw [c2]
    have hx5 : XR (Rg Tryd.prog afs cgs r4) (((tm2.setIfInBounds 20 (.slice (some ⟨bc, 0, none⟩) Ls.length Ls.length)).setIfInBounds 21 (.int .i64 (i : Nat))).setIfInBounds 22 (.chan (some c))) (tm4'.setIfInBounds 22 (.chan (some c))) := hx4.set 22 (VR.chan _ _)
    have h5 := h4.mv (fun _ _ z => z) (HB.refl _) hx5 (by simp [s2]) fun j hj => set_ne (by omega) _
    have u5' : (((tm2.setIfInBounds 20 (.slice (some ⟨bc, 0, none⟩) Ls.length Ls.length)).setIfInBounds 21 (.int .i64 (i : Nat))).setIfInBounds 22 (.chan (some c)))[5]? = some (.pointer (some ⟨b5, 0, none⟩)) := by
      rw [set_ne (by decide), set_ne (by decide), set_ne (by decide)]; exact u5
    have u4' : (((tm2.setIfInBounds 20 (.slice (some ⟨bc, 0, none⟩) Ls.length Ls.length)).setIfInBounds 21 (.int .i64 (i : Nat))).setIfInBounds 22 (.chan (some c)))[4]? = some (.int .i64 (i : Nat)) := by
      rw [set_ne (by decide), set_ne (by decide), set_ne (by decide)]; exact u4
    have u20 : (((tm2.setIfInBounds 20 (.slice (some ⟨bc, 0, none⟩) Ls.length Ls.length)).setIfInBounds 21 (.int .i64 (i : Nat))).setIfInBounds 22 (.chan (some c)))[20]? = some (.slice (some ⟨bc, 0, none⟩) Ls.length Ls.length) := by
      rw [set_ne (by decide), set_ne (by decide), set_at (by rw [s2]; decide)]
    have u21 : (((tm2.setIfInBounds 20 (.slice (some ⟨bc, 0, none⟩) Ls.length Ls.length)).setIfInBounds 21 (.int .i64 (i : Nat))).setIfInBounds 22 (.chan (some c)))[21]? = some (.int .i64 (i : Nat)) := by
      rw [set_ne (by decide), set_at (by simp [s2])]
    have u22 : (((tm2.setIfInBounds 20 (.slice (some ⟨bc, 0, none⟩) Ls.length Ls.length)).setIfInBounds 21 (.int .i64 (i : Nat))).setIfInBounds 22 (.chan (some c)))[22]? = some (.chan (some c)) := by
      rw [set_at (by simp [s2])]
    clear h4 h3 h2 hx4 hx3 hr4 hr3 u4 u5
    show Mc Fin K r4 v2 (look ps) (some c) (G (fF GN (tm4'.setIfInBounds 22 (.chan (some c))) _ [] .normal) rc)
    generalize (((tm2.setIfInBounds 20 (.slice (some ⟨bc, 0, none⟩) Ls.length Ls.length)).setIfInBounds 21 (.int .i64 (i : Nat))).setIfInBounds 22 (.chan (some c))) = tm5 at *
    generalize (tm4'.setIfInBounds 22 (.chan (some c))) = tm5' at *
    refine mval h5.rg d1 (by rw [d3]; rfl) d4 hx5 (.inl rfl) (x := .pointer (some ⟨bc, i, none⟩)) (v1 := v2) (fun τ => by
      unfold execOp
      rw [d3]
      simp only [eval_tmp u20, eval_tmp u21]
      go_simp) fun r6 tm6' hr6 hx6 => ?_
    rw [d2] at hx6
    have hx6 : XR (Rg Tryd.prog afs cgs r6) (tm5.setIfInBounds 23 (.pointer (some ⟨bc, i, none⟩))) tm6' := hx6
    have h6 := h5.mv hr6 (HB.refl _) hx6 (by simp [h5.sz]) fun j hj => set_ne (by omega) _
    have hli : (ps.map Prod.fst).length = i := by simpa using h5.len
    have hcell : ∃ u, v2.cell? ⟨bc, i, none⟩ = some u := by
      have hch : v2.heap[bc]? = some (.cells (chv (ps.map Prod.fst) Ls.length) 70 (0, 0)) := h5.ch
      have hlt : i < (chv (ps.map Prod.fst) Ls.length).size := by rw [chv_size (by omega)]; exact hil
      exact ⟨(chv (ps.map Prod.fst) Ls.length)[i], by unfold World.cell?; rw [hch]; simp [Array.getElem?_eq_getElem hlt]⟩
    obtain ⟨u0, hu0⟩ := hcell
    have w23 : (tm5.setIfInBounds 23 (.pointer (some ⟨bc, i, none⟩)))[23]? = some (.pointer (some ⟨bc, i, none⟩)) := set_at (by rw [h5.sz]; decide) _
    have w22 : (tm5.setIfInBounds 23 (.pointer (some ⟨bc, i, none⟩)))[22]? = some (.chan (some c)) := (set_ne (by decide) _).trans u22
    refine mval h6.rg e1 (by rw [e3]; rfl) e4 hx6 (.inr ⟨rfl, rfl⟩) (v1 := v2.setCell ⟨bc, i, none⟩ (.chan (some c))) (fun τ => by
      unfold execOp
      rw [e3]
      simp only [eval_tmp w23, eval_tmp w22]
      have c0 : (tap τ v2).cell? ⟨bc, i, none⟩ = some u0 := hu0
      have hz : (tap τ v2).frozen? ⟨bc, i, none⟩ = false := by
        unfold World.frozen?
        rw [show (tap τ v2).heap[bc]? = _ from h6.ch]
        simp
      go_simp
      rfl) fun r7 tm7' hr7 hx7 => ?_
    rw [e2] at hx7
    have hx7 : XR (Rg Tryd.prog afs cgs r7) (tm5.setIfInBounds 23 (.pointer (some ⟨bc, i, none⟩))) tm7' := hx7
    have hch := ch_set h6.ch (by omega) c
    have hhn := hn_set (i := i) h6.ch (.chan (some c))
    have hhb := hb_set (i := i) h6.hb h6.lo (.chan (some c))
    rw [hli] at hch
    generalize hv3 : v2.setCell ⟨bc, i, none⟩ (.chan (some c)) = v3 at hch hhn hhb ⊢
    have hg7 : ∀ g ∈ cgs, r7 g g := fun g hg => hr7 _ _ (h6.rg g hg)
    have hs7 : (tm5.setIfInBounds 23 (Value.pointer (some ⟨bc, i, none⟩))).size = 49 := h6.sz
    refine mmv (mv_done _) ?_
    rw [n6_shape hC]
    refine MV.draw fun t => ?_
    refine n6_go (n6_ops hC) (hhn.oval (.inr rfl) hO2) (hhn.2 _ _ _ _ (by decide) hbx) hFO (bc := bc) (m := Ls.length) (i := i) (c := c) ?_ hil (hhb.tab h6.tab0) (Nat.le_trans h6.low hhn.1) (hhb.pure h6.q0) (hhb.pure h6.q1) _ [] (n6_sched hC t) r7 _ tm7' hx7 hg7 hs7 h6.t3 ((set_ne (by decide) _).trans u4') ((set_ne (by decide) _).trans u5') (by simp) (by simp) (by simp) (by simp) (by simp) fun r8 tm8 tm8' hr8 hx8 hs8 ht8 => ?_
    · have hch' : v3.heap[bc]? = some (.cells (chv (ps.map Prod.fst ++ [c]) Ls.length) 70 (0, 0)) := hch
      unfold World.cell?
      rw [hch']
      simp only
      rw [chv_at (by simp [hli])]
      simp [hli]
    rw [look_snoc _ _ _ hnone]
    have hg8 : ∀ g ∈ cgs, r8 g g := fun g hg => hr8 _ _ (hg7 g hg)
    refine mmv (mv_done _) ?_
    refine mmv (mv_inBlock _) ?_
    have e15 : tm8[15]? = some (.int .i64 (i : Nat)) := (ht8 15 (by omega)).trans h6.t15
    refine mpiece gn_in (gn_ok hC (by simp)) hg8 hx8 (Q := fun s w => HB v3 w ∧ s.tmps = (tm8.setIfInBounds 29 (.int .i64 ((i + 1 : Nat) : Int))).setIfInBounds 15 (.int .i64 ((i + 1 : Nat) : Int))) (fun τ => ?_) fun r9 v9 tm9 tm9' hr9 hx9 hq9 => ?_
    · rw [hC]; exact gn_r7 tm8 i (tap τ v3) hs8 e15 (by omega)
    obtain ⟨hb9, e9⟩ := hq9
    have e9 : tm9 = _ := e9
    refine mmv (mv_inLoop _) ?_
    refine ih (i + 1) (by omega) r9 v9 tm9 tm9' (ps ++ [(c, outsL o)]) ?_
    have hk9 : ∀ j, j = 3 ∨ j = 13 ∨ j = 14 → tm9[j]? = (tm5.setIfInBounds 23 (Value.pointer (some ⟨bc, i, none⟩)))[j]? := fun j hj => by
      rw [e9, set_ne (by omega), set_ne (by omega), ht8 j (by omega)]
    refine ⟨fun b b' q => hr9 _ _ (hr8 _ _ (hr7 _ _ (h6.le b b' q))), hhb.trans hb9, h6.lo, hx9, fun g hg => hr9 _ _ (hg8 g hg), by rw [e9]; simp [hs8], (hk9 3 (by simp)).trans h6.t3, (hk9 13 (by simp)).trans h6.t13, (hk9 14 (by simp)).trans h6.t14, by rw [e9, set_at (by simp [hs8])], (h6.lv.hn hhn).hn (hb9.hn 70), ?_, by simp [h6.len], ?_, ?_, h6.tab0, Nat.le_trans h6.low (Nat.le_trans hhn.1 hb9.1), h6.q0, h6.q1⟩
    · simp only [List.map_append, List.map_cons, List.map_nil]
      exact (hb9.2 _ (Array.getElem?_eq_some_iff.1 hch).1).trans hch
    · rw [List.map_append, h6.outs, List.take_add_one, ho]
      simp
    · simp only [List.map_append, List.map_cons, List.map_nil]
      rw [List.nodup_append]
      exact ⟨h6.nd, by simp, fun a ha b hb => by simp at hb; subst hb; exact fun e => look_not hnone (e ▸ ha)⟩
end
end Go.Proofs.YtfbdgdphpdhcpaaDoor
