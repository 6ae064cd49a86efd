/-
  grown, its second loop: what comes over one channel. Conditions: as in GnF.
  grown, its second loop: what comes over all channels; and the way to its end. Conditions: as in GnF.
  That the library's SortFunc lies in this program as the shelf knows it. No condition.
  What slices.SortFunc does to forms of one length, by their lists. Conditions: at least one form, at most a thousand; of at most forty points each.
-/
import Derived.Test.YtfbdgdphpdhcpaaDoorGnF
import Derived.Shelf.SlLaysF0
import Derived.Ground.SlsfProg
import Derived.Shelf.SlSortCmp.WholeK
namespace Go.Proofs.YtfbdgdphpdhcpaaDoor
open Go Go.Conc Go.RowKit Sm
set_option maxRecDepth 100000

theorem ownsRow_hb {v w : World} (h : HB v w) {B : Nat} {e : TypeId} {s : Nat} {z : Value} {n : Nat} {xs : List Value} (ho : v.ownsRow B e s z n xs) : w.ownsRow B e s z n xs :=
  ⟨ho.1, ho.2.imp id fun ⟨g, cap, cur, h1, h2, h3, h4⟩ => ⟨g, cap, cur, h1, h2, (h.2 g (Array.getElem?_eq_some_iff.1 h3).1).trans h3, h4⟩⟩
/-- A row of forms that is its maker's own. -/
def GRow (v : World) (B : Nat) (z : Value) (ys : List (List Nat)) : Prop :=
  ∃ xs, v.ownsRow B 24 2 z ys.length xs ∧ ∀ k y, ys[k]? = some y → ∃ bl f, y.length ≤ f ∧ v.heap[bl]? = some (.cells (rowC y) 3 (0, f)) ∧ xs[2 * k]? = some (.int .i64 (y.length : Nat)) ∧ xs[2 * k + 1]? = some (.slice (some ⟨bl, 0, none⟩) y.length y.length)
theorem GRow.hb {v w : World} (h : HB v w) {B : Nat} {z : Value} {ys : List (List Nat)} (hr : GRow v B z ys) : GRow w B z ys := by
  obtain ⟨xs, h1, h2⟩ := hr
  refine ⟨xs, ownsRow_hb h h1, fun k y hk => ?_⟩
  obtain ⟨bl, f, h3, h4, h5⟩ := h2 k y hk
  exact ⟨bl, f, h3, (h.2 _ (Array.getElem?_eq_some_iff.1 h4).1).trans h4, h5⟩
/-- All but a row of forms is kept. -/
theorem hn_own {v w : World} {B n : Nat} {z : Value} {xs : List Value} (ho : v.ownsRow B 24 2 z n xs) (hs : v.heap.size ≤ w.heap.size) (hb : ∀ b, b < v.heap.size → some b ≠ z.ownBlock → w.heap[b]? = v.heap[b]?) : HN 24 v w :=
  ⟨hs, fun b c t fr ht hv => (hb b (Array.getElem?_eq_some_iff.1 hv).1 fun e => by
    rcases ho.2 with ⟨rfl, _⟩ | ⟨g, cap, cur, rfl, _, hg, _⟩
    · cases e
    · simp only [Value.ownBlock, Option.some.injEq] at e
      subst e
      rw [hg] at hv
      cases hv
      exact ht rfl).trans hv⟩
theorem GRow.snoc {v w : World} {B : Nat} {z z' : Value} {ys : List (List Nat)} {xs : List Value} {y : List Nat} {bl f : Nat} (ho : v.ownsRow B 24 2 z ys.length xs) (hk : ∀ k y, ys[k]? = some y → ∃ bl f, y.length ≤ f ∧ v.heap[bl]? = some (.cells (rowC y) 3 (0, f)) ∧ xs[2 * k]? = some (.int .i64 (y.length : Nat)) ∧ xs[2 * k + 1]? = some (.slice (some ⟨bl, 0, none⟩) y.length y.length))
    (hn : HN 24 v w) (hf : y.length ≤ f) (hb : v.heap[bl]? = some (.cells (rowC y) 3 (0, f))) (ho' : w.ownsRow B 24 2 z' (ys.length + 1) (xs ++ [.int .i64 (y.length : Nat), .slice (some ⟨bl, 0, none⟩) y.length y.length])) : GRow w B z' (ys ++ [y]) := by
  have hl : xs.length = ys.length * 2 := ho.1
  refine ⟨_, by simpa using ho', fun k u hu => ?_⟩
  rcases Nat.lt_or_ge k ys.length with h | h
  · rw [List.getElem?_append_left h] at hu
    obtain ⟨bl1, f1, h1, h2, h3, h4⟩ := hk k u hu
    exact ⟨bl1, f1, h1, hn.2 _ _ _ _ (by decide) h2, by rw [List.getElem?_append_left (by omega)]; exact h3, by rw [List.getElem?_append_left (by omega)]; exact h4⟩
  · rw [List.getElem?_append_right h] at hu
    obtain ⟨h5, rfl⟩ := List.getElem?_eq_some_iff.1 hu
    have e : k = ys.length := by simp at h5; omega
    subst e
    simp only [Nat.sub_self, List.getElem_cons_zero]
    refine ⟨bl, f, hf, hn.2 _ _ _ _ (by decide) hb, ?_, ?_⟩
    · rw [List.getElem?_append_right (by omega), show 2 * ys.length - xs.length = 0 by omega]; rfl
    · rw [List.getElem?_append_right (by omega), show 2 * ys.length + 1 - xs.length = 1 by omega]; rfl
/-- What the second loop holds. -/
theorem hb_own {v0 v w : World} (h : HB v0 v) {B e s n : Nat} {z : Value} {xs : List Value} (ho : v.ownsRow B e s z n xs) (hB : v0.heap.size ≤ B) (hs : v.heap.size ≤ w.heap.size) (hb : ∀ b, b < v.heap.size → some b ≠ z.ownBlock → w.heap[b]? = v.heap[b]?) : HB v0 w :=
  ⟨Nat.le_trans h.1 hs, fun b hlt => (hb b (Nat.lt_of_lt_of_le hlt h.1) (fun e => by have := (ho.lt b e.symm).1; omega)).trans (h.2 b hlt)⟩
structure G2 (r0 r : Nat → Nat → Prop) (v0 v : World) (tm tm' : Array Value) (bc i m B : Nat) (cs : List Nat) (ys : List (List Nat)) : Prop where
  le : ∀ b b', r0 b b' → r b b'
  hb : HB v0 v
  lo : v0.heap.size ≤ B
  xr : XR (Rg Tryd.prog afs cgs r) tm tm'
  rg : ∀ g ∈ cgs, r g g
  sz : tm.size = 49
  t30 : tm[30]? = some (.slice (some ⟨bc, 0, none⟩) m m)
  t31 : tm[31]? = some (.int .i64 (m : Nat))
  t32 : tm[32]? = some (.int .i64 (i : Nat))
  row : ∃ z, tm[6]? = some z ∧ GRow v B z ys
  hB : B ≤ v.heap.size
  ch : ChR v bc cs m
  cl : cs.length = m
  tab0 : Tab v0
  low : Tryd.prog.globals.size ≤ v.heap.size
  q0 : PureB v0 0
  q1 : PureB v0 1
theorem G2.mv {r0 r r' : Nat → Nat → Prop} {v0 v v' : World} {tm tm' tm1 tm1' : Array Value} {bc i m B : Nat} {cs : List Nat} {ys : List (List Nat)} (h : G2 r0 r v0 v tm tm' bc i m B cs ys)
    (hr : ∀ b b', r b b' → r' b b') (hv : HB v v') (hx : XR (Rg Tryd.prog afs cgs r') tm1 tm1') (hs : tm1.size = 49) (ht : ∀ j, j = 6 ∨ j = 30 ∨ j = 31 ∨ j = 32 → tm1[j]? = tm[j]?) : G2 r0 r' v0 v' tm1 tm1' bc i m B cs ys where
  le b b' q := hr _ _ (h.le b b' q)
  hb := h.hb.trans hv
  lo := h.lo
  xr := hx
  rg g hg := hr _ _ (h.rg g hg)
  sz := hs
  t30 := (ht 30 (by simp)).trans h.t30
  t31 := (ht 31 (by simp)).trans h.t31
  t32 := (ht 32 (by simp)).trans h.t32
  row := by
    obtain ⟨z, h1, h2⟩ := h.row
    exact ⟨z, (ht 6 (by simp)).trans h1, h2.hb hv⟩
  hB := Nat.le_trans h.hB hv.1
  ch := (hv.2 _ (Array.getElem?_eq_some_iff.1 h.ch).1).trans h.ch
  cl := h.cl
  tab0 := h.tab0
  low := Nat.le_trans h.low hv.1
  q0 := h.q0
  q1 := h.q1
theorem xr2 {R : Ren} {x x' y y' : Value} (hx : VR R x x') (hy : VR R y y') : XR R #[x, y] #[x', y'] := by
  have := xr_init hx hy 0
  simpa using this
theorem rc70 : ∃ z : Value, ∀ (ev : Operand → Value) (o : Oper) (c : Nat) (w : World), o.op = .recv 70 (.tmp 36) true → ev (.tmp 36) = .chan (some c) → (execOp ev o).run Tryd.prog w = .ok (.comm #[rcase c z] true (.recv true)) w ∧ (execOp ev o).events Tryd.prog w #[] = #[] := by
  obtain ⟨dir, e, i, h1, h2⟩ := el70
  have h3 : (match Tryd.prog.underlying 70 with | some (.chan _ e) => ((Tryd.prog.info? e).bind (·.zero)).isSome | _ => false) = true := by kernel_rfl
  rw [h1] at h3
  simp only [h2, Option.bind_some] at h3
  obtain ⟨z, hz⟩ := Option.isSome_iff_exists.1 h3
  refine ⟨z, fun ev o c w ho hc => ?_⟩
  unfold execOp
  rw [ho]
  simp [run_underlying h1, zeroValue, typeInfo, h2, hz, hc, rcase]
abbrev P13 : List Nat := [1, 1, 1, 1, 0, 1, 2, 2, 1, 1, 0, 2, 1, 1, 2, 2, 0]
theorem n13_shape {C : Code} (hC : IsN C) : atc P13 C = .region 13 (opsOf (atc P13 C)) false := by
  rw [hC]
  kernel_rfl
theorem n13_ops {C : Code} (hC : IsN C) : ((opsOf (atc P13 C)).map fun o => (o.dst, o.op, o.guard)).toList = [(some 37, .recv 70 (.tmp 36) true, none), (some 38, .extract (.tmp 37) 1, none)] := by
  rw [hC]
  kernel_rfl
abbrev ibody (C : Code) : Code := .seq (atc P13 C) (.seq (.cond (.tmp 38) .skip (.exit 4)) (.block 5 (.seq (atc [1, 1, 1, 1, 0, 1, 2, 2, 1, 1, 0, 2, 1, 1, 2, 2, 1, 1, 2, 0] C) (atc [1, 1, 1, 1, 0, 1, 2, 2, 1, 1, 0, 2, 1, 1, 2, 2, 1, 1, 2, 1] C))))
section
variable {Fin : Value → World → Prop} {K : World} {k : List Item} {rc : List Frame}
theorem n_inner {r0 : Nat → Nat → Prop} {v0 : World} {C : Code} (hC : IsN C) {bc i m B c : Nat} {cs : List Nat} {ps : List (Nat × List (List Nat))} (hps : look ps c = none) :
    ∀ (out ys : List (List Nat)) r v tm tm', G2 r0 r v0 v tm tm' bc i m B cs ys → tm[36]? = some (.chan (some c)) → ys.length + out.length ≤ 1000 →
      (∀ r v tm tm', G2 r0 r v0 v tm tm' bc i m B cs (ys ++ out) → Mc Fin K r v (look ps) none (G (fF GN tm' k [] .normal) rc)) →
      Mc Fin K r v (look ((c, out) :: ps)) none (G (fF GN tm' (.code (ibody C) :: .inLoop (ibody C) :: .inBlock 4 :: k) [] .normal) rc) := by
  obtain ⟨zz, hzz⟩ := rc70
  intro out
  have z13 : (opsOf (atc P13 C)).size = 2 := by
    have := congrArg List.length (n13_ops hC)
    simpa using this
  induction out with
  | nil =>
    intro ys r v tm tm' h t36 hn hk
    refine mmv (mv_seq _ _) ?_
    rw [n13_shape hC]
    refine mmv (mv_region _ _) ?_
    rw [show List.range (opsOf (atc P13 C)).size = [0, 1] by rw [z13]; rfl]
    obtain ⟨o0, a1, a2, a3, a4⟩ := op_at (n13_ops hC) 0 rfl
    obtain ⟨o1, b1, b2, b3, b4⟩ := op_at (n13_ops hC) 1 rfl
    generalize opsOf (atc P13 C) = ops at a1 b1 ⊢
    have u36 := vr_chan h.xr t36
    refine MV.recv (by decide) a1 (by unfold Region.wanted; rw [a4]) (fun w => (hzz _ o0 c w a3 (eval_tmp u36)).1) (fun w => (hzz _ o0 c w a3 (eval_tmp u36)).2) (out := []) (by simp [look]) (fun y l e => by cases e) fun _ => ?_
    rw [look_gone _ _ _ hps, a2]
    obtain ⟨zp, hzp⟩ := vr_stand zz
    have hx1 : XR (Rg Tryd.prog afs cgs r) (tm.setIfInBounds 37 (.tuple #[zp, .bool false])) (tm'.setIfInBounds 37 (.tuple #[zz, .bool false])) := h.xr.set 37 (VR.tuple (xr2 (hzp _) (VR.bool _ _)))
    show Mc Fin K r v (look ps) none (G (fF GN (tm'.setIfInBounds 37 (.tuple #[zz, .bool false])) _ [] .normal) rc)
    have h1 := h.mv (fun _ _ z => z) (HB.refl _) hx1 (by simp [h.sz]) fun j hj => set_ne (by omega) _
    have u37 : (tm.setIfInBounds 37 (.tuple #[zp, .bool false]))[37]? = some (.tuple #[zp, .bool false]) := set_at (by rw [h.sz]; decide) _
    refine mval h1.rg b1 (by rw [b3]; rfl) b4 hx1 (.inl rfl) (x := .bool false) (v1 := v) (fun τ => by
      unfold execOp
      rw [b3]
      simp only [eval_tmp u37]
      go_simp) fun r2 tm2' hr2 hx2 => ?_
    rw [b2] at hx2
    have hx2 : XR (Rg Tryd.prog afs cgs r2) ((tm.setIfInBounds 37 (.tuple #[zp, .bool false])).setIfInBounds 38 (.bool false)) tm2' := hx2
    have h2 := h1.mv hr2 (HB.refl _) hx2 (by simp [h.sz]) fun j hj => set_ne (by omega) _
    have u38 : ((tm.setIfInBounds 37 (.tuple #[zp, .bool false])).setIfInBounds 38 (.bool false))[38]? = some (.bool false) := set_at (by simp [h.sz]) _
    refine mmv (mv_done _) ?_
    refine mmv (mv_seq _ _) ?_
    refine mmv (mv_cond (b := false) (eval_tmp (D := []) (vr_bool hx2 u38))) ?_
    refine mmv (mv_exit (k' := k) rfl) ?_
    rw [← List.append_nil ys] at h2
    exact hk _ _ _ _ h2
  | cons y out ih =>
    intro ys r v tm tm' h t36 hn hk
    refine mmv (mv_seq _ _) ?_
    rw [n13_shape hC]
    refine mmv (mv_region _ _) ?_
    rw [show List.range (opsOf (atc P13 C)).size = [0, 1] by rw [z13]; rfl]
    obtain ⟨o0, a1, a2, a3, a4⟩ := op_at (n13_ops hC) 0 rfl
    obtain ⟨o1, b1, b2, b3, b4⟩ := op_at (n13_ops hC) 1 rfl
    generalize opsOf (atc P13 C) = ops at a1 b1 ⊢
    have u36 := vr_chan h.xr t36
    refine MV.recv (by decide) a1 (by unfold Region.wanted; rw [a4]) (fun w => (hzz _ o0 c w a3 (eval_tmp u36)).1) (fun w => (hzz _ o0 c w a3 (eval_tmp u36)).2) (out := y :: out) (by simp [look]) (fun y1 l1 e w x Tr hm hw hT => ?_) fun e => by cases e
    cases e
    obtain ⟨bl, cc, fr, hTr, rfl, hbl, hcc, hlow⟩ := hm
    have hor : OR (Rg Tryd.prog afs cgs r) 0 (Obj.cells (rowC y) 3 (0, max y.length fr.2)) (Obj.cells cc 3 fr) := by
      refine ⟨rfl, ⟨?_, fun j u u' _ h1 h2 => ?_⟩, fun o h1 h2 => ⟨Nat.zero_le _, Nat.lt_of_lt_of_le h2 (Nat.le_max_right _ _)⟩⟩
      · have e : (rowC y).size = y.length := by simp [rowC, natVals]
        rw [e]
        rcases Nat.eq_zero_or_pos y.length with h0 | h0
        · omega
        · have := (Array.getElem?_eq_some_iff.1 (hcc (y.length - 1) (by omega))).1
          omega
      · have hj : j < y.length := by
          have := (Array.getElem?_eq_some_iff.1 h1).1
          simpa [rowC, natVals] using this
        rw [hcc j hj] at h2
        simp [rowC, natVals, hj] at h1
        cases h2
        rw [← h1]
        simp only [nth, List.getD_eq_getElem?_getD, List.getElem?_eq_getElem hj, Option.getD_some]
        exact VR.int _ _ _
    have hsh : Sm.Shut (Obj.cells (rowC y) 3 (0, max y.length fr.2)) := fun j hj => ⟨Nat.zero_le _, Nat.lt_of_lt_of_le (by simpa [rowC, natVals] using hj) (Nat.le_max_left _ _)⟩
    refine ⟨rAdd r v.heap.size bl, v.alloc (.cells (rowC y) 3 (0, max y.length fr.2)), hw.got (hT bl ((hTr bl).2 rfl)).1 hlow hbl hor, fun b hb => (seen_add hb).imp id fun e => (hTr b).2 e, fun b hb => open_add hw hsh hb, ?_⟩
    rw [look_head, a2]
    have hrel : (Rg Tryd.prog afs cgs (rAdd r v.heap.size bl)).rel v.heap.size bl := Or.inr ⟨rfl, rfl⟩
    have hx1 : XR (Rg Tryd.prog afs cgs (rAdd r v.heap.size bl)) (tm.setIfInBounds 37 (.tuple #[.agg #[.int .i64 (y.length : Nat), .slice (some ⟨v.heap.size, 0, none⟩) y.length y.length], .bool true])) (tm'.setIfInBounds 37 (.tuple #[.agg #[.int .i64 (y.length : Nat), .slice (some ⟨bl, 0, none⟩) y.length y.length], .bool true])) :=
      (h.xr.mono (rg_le fun _ _ q => .inl q)).set 37 (VR.tuple (xr2 (VR.agg (xr2 (VR.int _ _ _) (VR.slice (a := some ⟨v.heap.size, 0, none⟩) (a' := some ⟨bl, 0, none⟩) ⟨hrel, rfl, rfl, Nat.zero_le _⟩ _ _))) (VR.bool _ _)))
    show Mc Fin K (rAdd r v.heap.size bl) (v.alloc (.cells (rowC y) 3 (0, max y.length fr.2))) (look ((c, out) :: ps)) none (G (fF GN (tm'.setIfInBounds 37 (.tuple #[.agg #[.int .i64 (y.length : Nat), .slice (some ⟨bl, 0, none⟩) y.length y.length], .bool true])) _ [] .normal) rc)
    have hB1 : HB v (v.alloc (.cells (rowC y) 3 (0, max y.length fr.2))) := HB.of (B := v.heap.size) ((Below.refl _ v).alloc (Nat.le_refl _) _) (Nat.le_refl _)
    have hnew := heap_new v (.cells (rowC y) 3 (0, max y.length fr.2))
    have h1 := h.mv (fun b b' (z : r b b') => Or.inl z) hB1 hx1 (by simp [h.sz]) fun j hj => set_ne (by omega) _
    have u37 : (tm.setIfInBounds 37 (.tuple #[.agg #[.int .i64 (y.length : Nat), .slice (some ⟨v.heap.size, 0, none⟩) y.length y.length], .bool true]))[37]? = some (.tuple #[.agg #[.int .i64 (y.length : Nat), .slice (some ⟨v.heap.size, 0, none⟩) y.length y.length], .bool true]) := set_at (by rw [h.sz]; decide) _
    have t36 : (tm.setIfInBounds 37 (.tuple #[.agg #[.int .i64 (y.length : Nat), .slice (some ⟨v.heap.size, 0, none⟩) y.length y.length], .bool true]))[36]? = some (.chan (some c)) := (set_ne (by decide) _).trans t36
    generalize v.heap.size = bq at hnew u37 t36 h1 hx1 ⊢
    generalize v.alloc (.cells (rowC y) 3 (0, max y.length fr.2)) = v1 at *
    generalize (tm.setIfInBounds 37 (.tuple #[.agg #[.int .i64 (y.length : Nat), .slice (some ⟨bq, 0, none⟩) y.length y.length], .bool true])) = tm1 at *
    generalize (tm'.setIfInBounds 37 (.tuple #[.agg #[.int .i64 (y.length : Nat), .slice (some ⟨bl, 0, none⟩) y.length y.length], .bool true])) = tm1' at *
    clear hT hw hB1 hor u36 h
    refine mval h1.rg b1 (by rw [b3]; rfl) b4 hx1 (.inl rfl) (x := .bool true) (v1 := v1) (fun τ => by
      unfold execOp
      rw [b3]
      simp only [eval_tmp u37]
      go_simp) fun r2 tm2' hr2 hx2 => ?_
    rw [b2] at hx2
    have hx2 : XR (Rg Tryd.prog afs cgs r2) (tm1.setIfInBounds 38 (.bool true)) tm2' := hx2
    have h2 := h1.mv hr2 (HB.refl _) hx2 (by simp [h1.sz]) fun j hj => set_ne (by omega) _
    have u38 : (tm1.setIfInBounds 38 (.bool true))[38]? = some (.bool true) := set_at (by simp [h1.sz]) _
    have u37 := (set_ne (show (38 : Nat) ≠ 37 by decide) (.bool true)).trans u37
    have t36 := (set_ne (show (38 : Nat) ≠ 36 by decide) (.bool true)).trans t36
    generalize tm1.setIfInBounds 38 (.bool true) = tm2 at *
    clear h1 hr2
    refine mmv (mv_done _) ?_
    refine mmv (mv_seq _ _) ?_
    refine mmv (mv_cond (b := true) (eval_tmp (D := []) (vr_bool hx2 u38))) ?_
    refine mmv mv_skip ?_
    refine mmv (mv_block _ _) ?_
    refine mmv (mv_seq _ _) ?_
    -- it is laid into a box
    refine mpiece gn_in (gn_ok hC (by simp)) h2.rg h2.xr (Q := fun s w => HB v1 w ∧ Bxd w v1.heap.size #[.int .i64 (y.length : Nat), .slice (some ⟨bq, 0, none⟩) y.length y.length] ∧ s.tmps.size = 49 ∧ s.tmps[9]? = some (.pointer (some ⟨v1.heap.size, 0, none⟩)) ∧ (∀ j, j ≠ 9 → j ≠ 39 → s.tmps[j]? = tm2[j]?)) (fun τ => ?_) fun r3 v3 tm3 tm3' hr3 hx3 hq3 => ?_
    · rw [hC]; exact gn_r14 tm2 _ _ _ _ (tap τ v1) h2.sz u37
    obtain ⟨hb3, hbx, s3, u9, e3⟩ := hq3
    have u9 : tm3[9]? = _ := u9
    have h3 := h2.mv hr3 hb3 hx3 s3 fun j hj => e3 j (by omega) (by omega)
    have t36 := (e3 36 (by decide) (by decide)).trans t36
    have hnew := (hb3.2 _ (Array.getElem?_eq_some_iff.1 hnew).1).trans hnew
    clear h2 hr3 hx3 e3 hb3
    generalize v1.heap.size = b9 at hbx u9
    obtain ⟨z, t6, xs, hown, hxs⟩ := h3.row
    -- and put behind the others
    refine mpiece gn_in (gn_ok hC (by simp)) h3.rg h3.xr (Q := fun s w => s.tmps.size = 49 ∧ (∀ j, j ≠ 6 → (j < 40 ∨ 43 < j) → s.tmps[j]? = tm3[j]?) ∧ v3.heap.size ≤ w.heap.size ∧ (∀ b, b < v3.heap.size → some b ≠ z.ownBlock → w.heap[b]? = v3.heap[b]?) ∧
      ∃ z', s.tmps[6]? = some z' ∧ w.ownsRow B 24 2 z' (ys.length + 1) (xs ++ [.int .i64 (y.length : Nat), .slice (some ⟨bq, 0, none⟩) y.length y.length]) ∧ (z'.ownBlock = z.ownBlock ∨ ∃ b, z'.ownBlock = some b ∧ v3.heap.size ≤ b)) (fun τ => ?_) fun r4 v4 tm4 tm4' hr4 hx4 hq4 => ?_
    · rw [hC]; exact gn_r15 tm3 _ _ _ _ b9 B ys.length z xs (tap τ v3) s3 t6 u9 hbx hown h3.hB (by simp at hn; omega)
    obtain ⟨s4, e4, hs4, hb4, z', t6', hown', _⟩ := hq4
    have hhn := hn_own hown hs4 hb4
    refine mmv (mv_inBlock _) ?_
    refine mmv (mv_inLoop _) ?_
    refine ih (ys ++ [y]) r4 v4 tm4 tm4' ⟨fun b b' q => hr4 _ _ (h3.le b b' q), hb_own h3.hb hown h3.lo hs4 hb4, h3.lo, hx4, fun g hg => hr4 _ _ (h3.rg g hg), s4, (e4 30 (by decide) (by decide)).trans h3.t30, (e4 31 (by decide) (by decide)).trans h3.t31, (e4 32 (by decide) (by decide)).trans h3.t32, ⟨z', t6', GRow.snoc hown hxs hhn (Nat.le_max_left _ _) hnew hown'⟩, Nat.le_trans h3.hB hs4, ?_, h3.cl, h3.tab0, Nat.le_trans h3.low hs4, h3.q0, h3.q1⟩ ((e4 36 (by decide) (by decide)).trans t36) (by simp at hn ⊢; omega) fun r v tm tm' hg => hk r v tm tm' (by rw [List.append_assoc] at hg; exact hg)
    exact hhn.2 _ _ _ _ (by decide) h3.ch
end
end Go.Proofs.YtfbdgdphpdhcpaaDoor
namespace Go.Proofs.YtfbdgdphpdhcpaaDoor
open Go Go.Conc Go.RowKit Sm
set_option maxRecDepth 100000

section
variable {Fin : Value → World → Prop} {K : World} {k : List Item} {rc : List Frame}
abbrev nbody2 (C : Code) : Code := .seq (atc [1, 1, 1, 1, 0, 1, 2, 2, 0] C) (.seq (.cond (.tmp 33) .skip (.exit 2)) (.seq (.block 3 (.seq (atc [1, 1, 1, 1, 0, 1, 2, 2, 1, 1, 0, 2, 0] C) (.seq (atc [1, 1, 1, 1, 0, 1, 2, 2, 1, 1, 0, 2, 1, 0] C) (.block 4 (.loop (ibody C)))))) (atc [1, 1, 1, 1, 0, 1, 2, 2, 1, 1, 1] C)))
theorem n_loop2 {r0 : Nat → Nat → Prop} {v0 : World} {C : Code} (hC : IsN C) {bc m B : Nat} {cs : List Nat} (hm : m < 1000) :
    ∀ (ps : List (Nat × List (List Nat))) (i : Nat) (ys : List (List Nat)) r v tm tm', G2 r0 r v0 v tm tm' bc i m B cs ys → i ≤ m → ps.map Prod.fst = cs.drop i → (ps.map Prod.fst).Nodup → ys.length + (ps.flatMap Prod.snd).length ≤ 1000 →
      (∀ r v tm tm', G2 r0 r v0 v tm tm' bc m m B cs (ys ++ ps.flatMap Prod.snd) → Mc Fin K r v (fun _ => none) none (G (fF GN tm' k [] .normal) rc)) →
      Mc Fin K r v (look ps) none (G (fF GN tm' (.code (nbody2 C) :: .inLoop (nbody2 C) :: .inBlock 2 :: k) [] .normal) rc) := by
  intro ps
  induction ps with
  | nil =>
    intro i ys r v tm tm' h him hps _ _ hk
    have hi : i = m := by
      have := congrArg List.length hps
      simp [h.cl] at this
      omega
    subst hi
    refine mmv (mv_seq _ _) ?_
    refine mpiece gn_in (gn_ok hC (by simp)) h.rg h.xr (Q := fun s w => HB v w ∧ s.tmps = tm.setIfInBounds 33 (.bool (decide ((i : Int) < (i : Int))))) (fun τ => ?_) fun r1 v1 tm1 tm1' hr1 hx1 hq => ?_
    · rw [hC]; exact gn_r10 tm i i (tap τ v) h.t32 h.t31
    obtain ⟨hb1, e1⟩ := hq
    have e1 : tm1 = _ := e1
    have e33 : tm1[33]? = some (.bool false) := by
      rw [e1, set_at (by rw [h.sz]; decide), decide_eq_false (by omega)]
    have h1 := h.mv hr1 hb1 hx1 (by rw [e1]; simp [h.sz]) fun j hj => by rw [e1]; exact set_ne (by omega) _
    refine mmv (mv_seq _ _) ?_
    refine mmv (mv_cond (b := false) (eval_tmp (D := []) (vr_bool hx1 e33))) ?_
    refine mmv (mv_exit (k' := k) rfl) ?_
    rw [List.flatMap_nil, List.append_nil] at hk
    exact hk _ _ _ _ h1
  | cons p ps ih =>
    intro i ys r v tm tm' h him hps hnd hn hk
    obtain ⟨c, out⟩ := p
    have hil : i < m := by
      have := congrArg List.length hps
      simp [h.cl] at this
      omega
    have hci : cs[i]? = some c := by
      have := congrArg List.head? hps
      simp [List.head?_drop] at this
      exact this.symm
    have hps' : ps.map Prod.fst = cs.drop (i + 1) := by
      have := congrArg List.tail hps
      simpa [List.tail_drop] using this
    simp only [List.map_cons, List.nodup_cons] at hnd
    have hno : look ps c = none := look_none hnd.1
    refine mmv (mv_seq _ _) ?_
    refine mpiece gn_in (gn_ok hC (by simp)) h.rg h.xr (Q := fun s w => HB v w ∧ s.tmps = tm.setIfInBounds 33 (.bool (decide ((i : Int) < (m : Int))))) (fun τ => ?_) fun r1 v1 tm1 tm1' hr1 hx1 hq => ?_
    · rw [hC]; exact gn_r10 tm i m (tap τ v) h.t32 h.t31
    obtain ⟨hb1, e1⟩ := hq
    have e1 : tm1 = _ := e1
    have e33 : tm1[33]? = some (.bool true) := by
      rw [e1, set_at (by rw [h.sz]; decide), decide_eq_true (by omega)]
    have h1 := h.mv hr1 hb1 hx1 (by rw [e1]; simp [h.sz]) fun j hj => by rw [e1]; exact set_ne (by omega) _
    refine mmv (mv_seq _ _) ?_
    refine mmv (mv_cond (b := true) (eval_tmp (D := []) (vr_bool hx1 e33))) ?_
    refine mmv mv_skip ?_
    refine mmv (mv_seq _ _) ?_
    refine mmv (mv_block _ _) ?_
    refine mmv (mv_seq _ _) ?_
    clear hr1 hx1 hb1 e33 e1 h
    -- the next channel
    refine mpiece gn_in (gn_ok hC (by simp)) h1.rg h1.xr (Q := fun s w => HB v1 w ∧ ∃ z, s.tmps = ((tm1.setIfInBounds 34 z).setIfInBounds 35 (.chan (some c))).setIfInBounds 8 (.chan (some c))) (fun τ => ?_) fun r2 v2 tm2 tm2' hr2 hx2 hq => ?_
    · rw [hC]
      refine gn_r11 tm1 bc m m i (some c) (tap τ v1) h1.sz h1.t30 h1.t32 hil ?_
      unfold World.cell?
      rw [show (tap τ v1).heap[bc]? = _ from h1.ch]
      simp only
      rw [if_neg (by simp), chv_at (by rw [h1.cl]; exact hil), hci]
    obtain ⟨hb2, z, e2⟩ := hq
    have e2 : tm2 = _ := e2
    have h2 := h1.mv hr2 hb2 hx2 (by rw [e2]; simp [h1.sz]) fun j hj => by rw [e2, set_ne (by omega), set_ne (by omega), set_ne (by omega)]
    have e8 : tm2[8]? = some (.chan (some c)) := by rw [e2, set_at (by simp [h1.sz])]
    clear hr2 hx2 hb2 e2 h1
    refine mmv (mv_seq _ _) ?_
    refine mpiece gn_in (gn_ok hC (by simp)) h2.rg h2.xr (Q := fun s w => HB v2 w ∧ s.tmps = tm2.setIfInBounds 36 (.chan (some c))) (fun τ => ?_) fun r3 v3 tm3 tm3' hr3 hx3 hq => ?_
    · rw [hC]; exact gn_r12 tm2 _ (tap τ v2) e8
    obtain ⟨hb3, e3⟩ := hq
    have e3 : tm3 = _ := e3
    have h3 := h2.mv hr3 hb3 hx3 (by rw [e3]; simp [h2.sz]) fun j hj => by rw [e3]; exact set_ne (by omega) _
    have e36 : tm3[36]? = some (.chan (some c)) := by rw [e3, set_at (by rw [h2.sz]; decide)]
    clear hr3 hx3 hb3 e3 h2
    refine mmv (mv_block _ _) ?_
    refine mmv (mv_loop _) ?_
    simp only [List.flatMap_cons, List.length_append] at hn
    refine n_inner hC hno out ys r3 v3 tm3 tm3' h3 e36 (by omega) fun r4 v4 tm4 tm4' h4 => ?_
    refine mmv (mv_inBlock _) ?_
    -- the count
    refine mpiece gn_in (gn_ok hC (by simp)) h4.rg h4.xr (Q := fun s w => HB v4 w ∧ s.tmps = (tm4.setIfInBounds 44 (.int .i64 ((i + 1 : Nat) : Int))).setIfInBounds 32 (.int .i64 ((i + 1 : Nat) : Int))) (fun τ => ?_) fun r5 v5 tm5 tm5' hr5 hx5 hq => ?_
    · rw [hC]; exact gn_r16 tm4 i (tap τ v4) h4.sz h4.t32 (by omega)
    obtain ⟨hb5, e5⟩ := hq
    have e5 : tm5 = _ := e5
    refine mmv (mv_inLoop _) ?_
    have e32 : tm5[32]? = some (.int .i64 ((i + 1 : Nat) : Int)) := by rw [e5, set_at (by simp [h4.sz])]
    have hk5 : ∀ j, j = 6 ∨ j = 30 ∨ j = 31 → tm5[j]? = tm4[j]? := fun j hj => by rw [e5, set_ne (by omega), set_ne (by omega)]
    obtain ⟨z4, t6, hrow⟩ := h4.row
    refine ih (i + 1) (ys ++ out) r5 v5 tm5 tm5' ⟨fun b b' q => hr5 _ _ (h4.le b b' q), h4.hb.trans hb5, h4.lo, hx5, fun g hg => hr5 _ _ (h4.rg g hg), by rw [e5]; simp [h4.sz], (hk5 30 (by simp)).trans h4.t30, (hk5 31 (by simp)).trans h4.t31, e32, ⟨z4, (hk5 6 (by simp)).trans t6, hrow.hb hb5⟩, Nat.le_trans h4.hB hb5.1, (hb5.2 _ (Array.getElem?_eq_some_iff.1 h4.ch).1).trans h4.ch, h4.cl, h4.tab0, Nat.le_trans h4.low hb5.1, h4.q0, h4.q1⟩ (by omega) hps' hnd.2 (by rw [List.length_append]; omega) fun r v tm tm' hg => hk r v tm tm' ?_
    rw [List.append_assoc] at hg
    exact hg
end
end Go.Proofs.YtfbdgdphpdhcpaaDoor
namespace Go.Proofs.YtfbdgdphpdhcpaaDoor
open Go.Shelf Go.RowKit
def Tryd.sortL_ren : Go.Shelf.Ren := ⟨fun | 6 => 50 | 15 => 63 | 14 => 62 | 28 => 75 | 29 => 76 | 20 => 67 | 21 => 68 | 22 => 69 | 23 => 70 | 24 => 71 | 25 => 72 | 26 => 73 | 27 => 74 | 46 => 81 | 47 => 82 | 48 => 83 | 49 => 84 | 50 => 85 | 57 => 86 | n => n, fun | 22 => 45 | 24 => 24 | 25 => 73 | 3 => 3 | 39 => 80 | 0 => 0 | 53 => 90 | 55 => 92 | 4 => 4 | 46 => 83 | 45 => 82 | 50 => 87 | 5 => 5 | 9 => 9 | 66 => 93 | 70 => 97 | 76 => 101 | 77 => 102 | n => n, fun | n => n⟩
theorem Tryd.sortL : Go.Proofs.SlLaysF0.n6 Tryd.prog Tryd.sortL_ren := {
  mixed := by kernel_rfl
  f6 := ⟨Tryd.f50.name, by decide, Tryd.func50.trans (congrArg some (by kernel_rfl))⟩
  f14 := ⟨Tryd.f62.name, by decide, Tryd.func62.trans (congrArg some (by kernel_rfl))⟩
  f15 := Tryd.func63.trans (congrArg some (by kernel_rfl))
  f20 := ⟨Tryd.f67.name, by decide, Tryd.func67.trans (congrArg some (by kernel_rfl))⟩
  f21 := ⟨Tryd.f68.name, by decide, Tryd.func68.trans (congrArg some (by kernel_rfl))⟩
  f22 := ⟨Tryd.f69.name, by decide, Tryd.func69.trans (congrArg some (by kernel_rfl))⟩
  f23 := ⟨Tryd.f70.name, by decide, Tryd.func70.trans (congrArg some (by kernel_rfl))⟩
  f24 := ⟨Tryd.f71.name, by decide, Tryd.func71.trans (congrArg some (by kernel_rfl))⟩
  f25 := ⟨Tryd.f72.name, by decide, Tryd.func72.trans (congrArg some (by kernel_rfl))⟩
  f26 := ⟨Tryd.f73.name, by decide, Tryd.func73.trans (congrArg some (by kernel_rfl))⟩
  f27 := ⟨Tryd.f74.name, by decide, Tryd.func74.trans (congrArg some (by kernel_rfl))⟩
  f28 := Tryd.func75.trans (congrArg some (by kernel_rfl))
  f29 := Tryd.func76.trans (congrArg some (by kernel_rfl))
  f46 := ⟨Tryd.f81.name, by decide, Tryd.func81.trans (congrArg some (by kernel_rfl))⟩
  f47 := Tryd.func82.trans (congrArg some (by kernel_rfl))
  f48 := Tryd.func83.trans (congrArg some (by kernel_rfl))
  f49 := ⟨Tryd.f84.name, by decide, Tryd.func84.trans (congrArg some (by kernel_rfl))⟩
  f50 := ⟨Tryd.f85.name, by decide, Tryd.func85.trans (congrArg some (by kernel_rfl))⟩
  f57 := ⟨Tryd.f86.name, by decide, Tryd.func86.trans (congrArg some (by kernel_rfl))⟩
  t0 := Tryd.underlying0
  a0 := Tryd.isAgg0
  z0 := Tryd.sizeOf0
  v0 := Tryd.zeroValue0
  t3 := Tryd.underlying3
  a3 := Tryd.isAgg3
  z3 := Tryd.sizeOf3
  v3 := Tryd.zeroValue3
  t4 := Tryd.underlying4
  a4 := Tryd.isAgg4
  z4 := Tryd.sizeOf4
  v4 := Tryd.zeroValue4
  t5 := Tryd.underlying5
  a5 := Tryd.isAgg5
  z5 := Tryd.sizeOf5
  v5 := Tryd.zeroValue5
  t9 := Tryd.underlying9
  a9 := Tryd.isAgg9
  z9 := Tryd.sizeOf9
  v9 := Tryd.zeroValue9
  t22 := Tryd.underlying45
  a22 := Tryd.isAgg45
  z22 := Tryd.sizeOf45
  v22 := Tryd.zeroValue45
  t25 := Tryd.underlying73
  a25 := Tryd.isAgg73
  z25 := Tryd.sizeOf73
  v25 := Tryd.zeroValue73
  t39 := Tryd.underlying80
  a39 := Tryd.isAgg80
  z39 := Tryd.sizeOf80
  v39 := Tryd.zeroValue80
  t45 := Tryd.underlying82
  a45 := Tryd.isAgg82
  z45 := Tryd.sizeOf82
  v45 := Tryd.zeroValue82
  t46 := Tryd.underlying83
  a46 := Tryd.isAgg83
  z46 := Tryd.sizeOf83
  v46 := Tryd.zeroValue83
  t50 := Tryd.underlying87
  a50 := Tryd.isAgg87
  z50 := Tryd.sizeOf87
  v50 := Tryd.zeroValue87
  t53 := Tryd.underlying90
  a53 := Tryd.isAgg90
  z53 := Tryd.sizeOf90
  v53 := Tryd.zeroValue90
  t55 := Tryd.underlying92
  a55 := Tryd.isAgg92
  z55 := Tryd.sizeOf92
  v55 := Tryd.zeroValue92
  t66 := Tryd.underlying93
  a66 := Tryd.isAgg93
  z66 := Tryd.sizeOf93
  v66 := Tryd.zeroValue93
  t70 := Tryd.underlying97
  a70 := Tryd.isAgg97
  z70 := Tryd.sizeOf97
  v70 := Tryd.zeroValue97
  t76 := Tryd.underlying101
  a76 := Tryd.isAgg101
  z76 := Tryd.sizeOf101
  v76 := Tryd.zeroValue101
  t77 := Tryd.underlying102
  a77 := Tryd.isAgg102
  z77 := Tryd.sizeOf102
  v77 := Tryd.zeroValue102 }
end Go.Proofs.YtfbdgdphpdhcpaaDoor
namespace Go.Proofs.YtfbdgdphpdhcpaaDoor
open Go Go.Conc Go.RowKit Sm
set_option maxRecDepth 100000

theorem cmpF_lt {f g : Nat → Nat} : ∀ n k, cmpF f g n k < 0 ↔ ∃ t, k ≤ t ∧ t < k + n ∧ f t < g t ∧ ∀ s, k ≤ s → s < t → f s = g s
  | 0, k => by
    simp only [cmpF]
    constructor
    · intro h; omega
    · rintro ⟨t, h1, h2, _⟩; omega
  | n + 1, k => by
    simp only [cmpF]
    by_cases e : f k = g k
    · rw [if_pos e, cmpF_lt n (k + 1)]
      constructor
      · rintro ⟨t, h1, h2, h3, h4⟩
        refine ⟨t, by omega, by omega, h3, fun s hs hst => ?_⟩
        by_cases hk : s = k
        · rw [hk]; exact e
        · exact h4 s (by omega) hst
      · rintro ⟨t, h1, h2, h3, h4⟩
        have : t ≠ k := fun h => by rw [h] at h3; omega
        exact ⟨t, by omega, by omega, h3, fun s hs hst => h4 s (by omega) hst⟩
    · rw [if_neg e]
      constructor
      · intro h
        refine ⟨k, Nat.le_refl _, by omega, ?_, fun s hs hst => by omega⟩
        unfold cmpI at h
        rcases Nat.lt_or_ge (f k) (g k) with h1 | h1
        · exact h1
        · rw [if_neg (by omega)] at h
          split at h <;> omega
      · rintro ⟨t, h1, h2, h3, h4⟩
        have : t = k := by
          rcases Nat.lt_or_ge k t with h5 | h5
          · exact absurd (h4 k (Nat.le_refl _) h5) e
          · omega
        subst this
        simp [cmpI, h3]
theorem cmp_tri (f g : Nat → Nat) (q : Nat) : cmpF f g q 0 < 0 ∨ cmpF g f q 0 < 0 ∨ ∀ i, i < q → f i = g i := by
  have key : ∀ n, n ≤ q → (∃ t, t < n ∧ f t ≠ g t ∧ ∀ s, s < t → f s = g s) ∨ ∀ i, i < n → f i = g i := fun n => by
    induction n with
    | zero => exact fun _ => .inr (fun i hi => absurd hi (Nat.not_lt_zero _))
    | succ n ih =>
      intro hn
      rcases ih (by omega) with ⟨t, h1, h2, h3⟩ | h
      · exact .inl ⟨t, by omega, h2, h3⟩
      · by_cases e : f n = g n
        · exact .inr (fun i hi => by
            by_cases hh : i = n
            · rw [hh]; exact e
            · exact h i (by omega))
        · exact .inl ⟨n, by omega, e, h⟩
  rcases key q (Nat.le_refl _) with ⟨t, h1, h2, h3⟩ | h
  · rcases Nat.lt_or_ge (f t) (g t) with h4 | h4
    · exact .inl ((cmpF_lt q 0).2 ⟨t, Nat.zero_le _, by omega, h4, fun s _ hs => h3 s hs⟩)
    · exact .inr (.inl ((cmpF_lt q 0).2 ⟨t, Nat.zero_le _, by omega, by omega, fun s _ hs => (h3 s hs).symm⟩))
  · exact .inr (.inr h)
theorem cmp_trans {f g h : Nat → Nat} {q : Nat} (h1 : cmpF f g q 0 < 0) (h2 : cmpF g h q 0 < 0) : cmpF f h q 0 < 0 := by
  obtain ⟨t, _, a2, a3, a4⟩ := (cmpF_lt q 0).1 h1
  obtain ⟨u, _, b2, b3, b4⟩ := (cmpF_lt q 0).1 h2
  refine (cmpF_lt q 0).2 ?_
  rcases Nat.lt_trichotomy t u with hh | rfl | hh
  · exact ⟨t, Nat.zero_le _, a2, by rw [← b4 t (Nat.zero_le _) hh]; exact a3, fun s hs hst => (a4 s hs hst).trans (b4 s hs (by omega))⟩
  · exact ⟨t, Nat.zero_le _, a2, Nat.lt_trans a3 b3, fun s hs hst => (a4 s hs hst).trans (b4 s hs hst)⟩
  · exact ⟨u, Nat.zero_le _, b2, by rw [a4 u (Nat.zero_le _) hh]; exact b3, fun s hs hst => (a4 s hs (by omega)).trans (b4 s hs hst)⟩
theorem cmp_irr (f : Nat → Nat) (q : Nat) : ¬ cmpF f f q 0 < 0 := fun h => by
  obtain ⟨t, _, _, h3, _⟩ := (cmpF_lt q 0).1 h
  exact Nat.lt_irrefl _ h3
theorem cmp_congr {f g f' g' : Nat → Nat} {q : Nat} (e1 : ∀ i, i < q → f i = f' i) (e2 : ∀ i, i < q → g i = g' i) (h : cmpF f g q 0 < 0) : cmpF f' g' q 0 < 0 := by
  obtain ⟨t, a1, a2, a3, a4⟩ := (cmpF_lt q 0).1 h
  exact (cmpF_lt q 0).2 ⟨t, a1, a2, by rw [← e1 t (by omega), ← e2 t (by omega)]; exact a3, fun s hs hst => by rw [← e1 s (by omega), ← e2 s (by omega)]; exact a4 s hs hst⟩
/-- The place of a list, or the first place. -/
def cl (n j : Nat) : Nat := if j < n then j else 0
theorem cl_lt {n j : Nat} (h : 0 < n) : cl n j < n := by unfold cl; split <;> omega
theorem cl_in {n j : Nat} (h : j < n) : cl n j = j := if_pos h
def cfG (G : Nat → Nat → Nat) (n q : Nat) (x y : Nat) : Int := cmpF (G (cl n x)) (G (cl n y)) q 0
theorem swoG (G : Nat → Nat → Nat) (n q : Nat) : Go.Sort.SWO (ltOf (cfG G n q)) where
  irrefl x := by simp only [ltOf, cfG]; exact decide_eq_false (cmp_irr _ _)
  trans x y z h1 h2 := by
    simp only [ltOf, cfG] at *
    exact decide_eq_true (cmp_trans (of_decide_eq_true h1) (of_decide_eq_true h2))
  ntrans x y z h1 h2 := by
    simp only [ltOf, cfG] at *
    have n1 := of_decide_eq_false h1
    have n2 := of_decide_eq_false h2
    refine decide_eq_false fun h => ?_
    rcases cmp_tri (G (cl n x)) (G (cl n y)) q with a | a | a
    · exact n1 a
    · rcases cmp_tri (G (cl n y)) (G (cl n z)) q with b | b | b
      · exact n2 b
      · exact cmp_irr _ _ (cmp_trans (cmp_trans b a) h)
      · exact n2 (cmp_trans a h)
    · exact n2 (cmp_congr a (fun _ _ => rfl) h)
/-- The places, sorted. -/
structure Prm (n : Nat) (p : Nat → Nat) : Prop where
  lt : ∀ j, j < n → p j < n
  all : ∀ a, a < n → ∃ j, j < n ∧ p j = a
  ne : ∀ j k, j < k → k < n → p j ≠ p k
theorem prm_of {n : Nat} {d' : Array Nat} (h : Go.Sort.PermIn 0 n (List.range n).toArray d') : d'.size = n ∧ Prm n (fun j => d'[j]!) := by
  obtain ⟨h1, _, h3⟩ := h
  have hs : d'.size = n := by simpa using h1
  have e1 : (d'.extract 0 n).toList = d'.toList := by rw [← hs]; simp
  have e2 : ((List.range n).toArray.extract 0 n).toList = List.range n := by simp
  rw [e1, e2] at h3
  have at' : ∀ j, (hj : j < n) → d'[j]! = d'.toList[j]'(by simpa [hs] using hj) := fun j hj => by
    rw [getElem!_pos d' j (by omega)]; simp
  refine ⟨hs, fun j hj => ?_, fun a ha => ?_, fun j k hjk hk => ?_⟩
  · show d'[j]! < n
    rw [at' j hj]
    exact List.mem_range.1 (h3.mem_iff.1 (List.getElem_mem _))
  · obtain ⟨j, hj, e⟩ := List.getElem_of_mem (h3.mem_iff.2 (List.mem_range.2 ha))
    have hj' : j < n := by simpa [hs] using hj
    exact ⟨j, hj', by show d'[j]! = a; rw [at' j hj']; exact e⟩
  · show d'[j]! ≠ d'[k]!
    rw [at' j (by omega), at' k hk]
    have hnd : d'.toList.Nodup := h3.nodup_iff.2 List.nodup_range
    intro e
    have := (List.getElem_inj hnd).1 e
    omega
theorem Row.al {w : World} {a : Option Addr} {n : Nat} {f : Nat → Int} (h : Row w a n f) (o : Obj) : Row (w.alloc o) a n f := (HB.of (B := w.heap.size) ((Below.refl _ w).alloc (Nat.le_refl _) _) (Nat.le_refl _)).row h
/-- grown's first closure. -/
theorem gn_less {N ra rb : Nat} {f g : Nat → Nat} (W : World) (hN : N ≤ 40) (ha : Row W (some ⟨ra, 0, none⟩) N (fun k => (f k : Nat))) (hb : Row W (some ⟨rb, 0, none⟩) N (fun k => (g k : Nat))) :
    Calls Tryd.prog 51 #[.agg #[.int .i64 (N : Nat), .slice (some ⟨ra, 0, none⟩) N N], .agg #[.int .i64 (N : Nat), .slice (some ⟨rb, 0, none⟩) N N]] W fun e w' => e = .returned (.int .i64 (cmpF f g N 0)) ∧ ∃ os', w' = Go.Sort.grow W os' := by
  have HA : Hid (Row W (some ⟨ra, 0, none⟩) N (fun k => (f k : Nat))) := ha
  have HB : Hid (Row W (some ⟨rb, 0, none⟩) N (fun k => (g k : Nat))) := hb
  clear ha hb
  go_enter Tryd.func51, Tryd.ntmps51
  go_wp2_with (go_at_call 43; refine (compare_any N _ _ N N f g _ hN ((HA.out.al _).al _) ((HB.out.al _).al _)).mono ?_; rintro e w' ⟨rfl, rfl⟩)
  go_ret
  exact ⟨rfl, _, by rw [Go.Sort.alloc_eq_grow, Go.Sort.alloc_eq_grow, Go.Sort.grow_grow]⟩
end Go.Proofs.YtfbdgdphpdhcpaaDoor
