/-
  grown, to its end. Conditions: the forms handed in are orders of one length; so are those that come, a thousand at most.
  All's pieces, alone. Condition: five points at most.
-/
import Derived.Test.YtfbdgdphpdhcpaaDoorGnO
namespace Go.Proofs.YtfbdgdphpdhcpaaDoor
open Go Go.Conc Go.RowKit Sm
set_option maxRecDepth 100000

theorem Srt.tail {N : Nat} {x : List Nat} {xs : List (List Nat)} (h : Srt N (x :: xs)) : Srt N xs := fun j k a b hjk ha hb => h (j + 1) (k + 1) a b (by omega) (by simpa using ha) (by simpa using hb)
theorem Srt.head {N : Nat} {x : List Nat} {xs : List (List Nat)} (h : Srt N (x :: xs)) {y : List Nat} (hy : y ∈ xs) : ¬ cmpF (nth y) (nth x) N 0 < 0 := by
  obtain ⟨k, hk, e⟩ := List.getElem_of_mem hy
  exact h 0 (k + 1) x y (by omega) rfl (by simp [hk, e])
/-- Sorted in one way alone. -/
theorem srt_uniq {N : Nat} : ∀ (a b : List (List Nat)), (∀ y ∈ a, y.length = N) → a.Perm b → Srt N a → Srt N b → a = b
  | [], b, _, hp, _, _ => (List.nil_perm.1 hp).symm
  | x :: xs, [], _, hp, _, _ => absurd (List.perm_nil.1 hp) (by simp)
  | x :: xs, y :: ys, hl, hp, ha, hb => by
    have hxy : x = y := by
      rcases List.mem_cons.1 (hp.mem_iff.1 (List.mem_cons_self : x ∈ x :: xs)) with h | h
      · exact h
      · rcases List.mem_cons.1 (hp.mem_iff.2 (List.mem_cons_self : y ∈ y :: ys)) with h' | h'
        · exact h'.symm
        · have lx : x.length = N := hl x (by simp)
          have ly : y.length = N := hl y (List.mem_cons_of_mem _ h')
          rcases cmp_tri (nth x) (nth y) N with q | q | q
          · exact absurd q (hb.head h)
          · exact absurd q (ha.head h')
          · refine List.ext_getElem (by omega) fun i h1 h2 => ?_
            have := q i (by omega)
            simpa [nth, h1, h2] using this
    subst hxy
    rw [srt_uniq xs ys (fun y hy => hl y (List.mem_cons_of_mem _ hy)) ((List.perm_cons x).1 hp) ha.tail hb.tail]
theorem hn_grown {v w : World} {gv : Nat} {cur : Array Value} {fr : Nat × Nat} (hg : v.grownBy w (some gv)) (hb : v.heap[gv]? = some (.cells cur 24 fr)) : HN 24 v w :=
  ⟨hg.size, fun b c t f ht hv => (hg.block b (Array.getElem?_eq_some_iff.1 hv).1 fun e => by
    cases e
    rw [hb] at hv
    cases hv
    exact ht rfl).trans hv⟩
theorem hl_grown {v w : World} {B gv : Nat} (hg : v.grownBy w (some gv)) (hv : v.heap.size ≥ B) (hB : B ≤ gv) : ∀ b, b < B → w.heap[b]? = v.heap[b]? := fun b hb => hg.block b (by omega) (fun e => by cases e; omega)
theorem GRow.lo {v : World} {B gv n cv : Nat} {ys : List (List Nat)} (h : GRow v B (.slice (some ⟨gv, 0, none⟩) n cv) ys) : B ≤ gv ∧ gv < v.heap.size := by
  obtain ⟨xs, h1, _⟩ := h
  exact h1.lt gv rfl
theorem GRow.blk {v : World} {B gv n cv : Nat} {ys : List (List Nat)} (h : GRow v B (.slice (some ⟨gv, 0, none⟩) n cv) ys) : ∃ cur, v.heap[gv]? = some (.cells cur 24 (0, 0)) := by
  obtain ⟨xs, ⟨_, h2⟩, _⟩ := h
  rcases h2 with ⟨e, _⟩ | ⟨g, cap, cur, e, _, a2, _⟩
  · cases e
  · simp only [Value.slice.injEq, Option.some.injEq, Addr.mk.injEq] at e
    obtain ⟨⟨rfl, _, _⟩, _, rfl⟩ := e
    exact ⟨cur, a2⟩
theorem GRow.slice {v : World} {B : Nat} {z : Value} {ys : List (List Nat)} (h : GRow v B z ys) (h0 : 0 < ys.length) : ∃ gv cv, z = .slice (some ⟨gv, 0, none⟩) ys.length cv := by
  obtain ⟨xs, h1, _⟩ := h
  rcases h1.2 with ⟨_, e⟩ | ⟨g, cap, cur, e, _⟩
  · omega
  · exact ⟨g, cap, e⟩
/-- The sort. -/
theorem gn_r17 (tm : Array Value) (B N gv cv : Nat) (ys : List (List Nat)) (v : World) (hs : tm.size = 49) (h6 : tm[6]? = some (.slice (some ⟨gv, 0, none⟩) ys.length cv)) (hN : N ≤ 40) (hl : ∀ y ∈ ys, y.length = N) (h0 : 0 < ys.length) (hn : ys.length ≤ 1000) (h : GRow v B (.slice (some ⟨gv, 0, none⟩) ys.length cv) ys) :
    (atc [1, 1, 1, 1, 1, 0] (Tryd.f36.body.getD .skip)).wp Tryd.prog (fun e s w => e = .normal ∧ s.defers = [] ∧ s.tmps.size = 49 ∧ s.tmps[6]? = some (.slice (some ⟨gv, 0, none⟩) ys.length cv) ∧ ∃ ys' : List (List Nat), List.Perm ys' ys ∧ Srt N ys' ∧ GRow w B (.slice (some ⟨gv, 0, none⟩) ys'.length cv) ys' ∧ HN 24 v w ∧ ∀ b, b < B → w.heap[b]? = v.heap[b]?) ⟨tm, []⟩ v := by
  have HS : Hid (tm.size = 49) := hs
  have s6 : 6 < tm.size := by omega
  have E6 : Hid (tm[6] = .slice (some ⟨gv, 0, none⟩) ys.length cv) := by
    rw [Array.getElem?_eq_getElem s6] at h6
    exact Option.some.inj h6
  have s45 : 45 < tm.size := by omega
  have s46 : 46 < tm.size := by omega
  have HC := (show Hid _ from sortF_any v hN hl h0 hn h)
  obtain ⟨cur, HCUR⟩ := h.blk
  have HCUR := (show Hid _ from HCUR)
  have HLO := (show Hid _ from h.lo)
  clear hs h hl
  simp only [Tryd.f36, Option.getD_some, atc]
  go_wp2_with (go_at_call 50; rw [E6.out]; refine Calls.mono HC.out ?_; rintro e w' ⟨rfl, ys', q1, q2, q3, q4⟩; replace q4 := And.intro (hn_grown q4 HCUR.out) (hl_grown q4 (by have := HLO.out; omega) HLO.out.1))
  exact ⟨HS.out, E6.out, ys', q1, q2, q3, q4.2⟩
/-- The same once. -/
theorem gn_r18 (tm : Array Value) (B N gv cv : Nat) (ys : List (List Nat)) (v : World) (hs : tm.size = 49) (h6 : tm[6]? = some (.slice (some ⟨gv, 0, none⟩) ys.length cv)) (hN : N ≤ 40) (hl : ∀ y ∈ ys, y.length = N) (h0 : 0 < ys.length) (hn : ys.length ≤ 1000) (h : GRow v B (.slice (some ⟨gv, 0, none⟩) ys.length cv) ys) :
    (atc [1, 1, 1, 1, 1, 1, 0] (Tryd.f36.body.getD .skip)).wp Tryd.prog (fun e s w => e = .normal ∧ s.defers = [] ∧ s.tmps.size = 49 ∧ s.tmps[2]? = some (.slice (some ⟨gv, 0, none⟩) (compL ys).length cv) ∧ GRow w B (.slice (some ⟨gv, 0, none⟩) (compL ys).length cv) (compL ys) ∧ HN 24 v w ∧ ∀ b, b < B → w.heap[b]? = v.heap[b]?) ⟨tm, []⟩ v := by
  have HS : Hid (tm.size = 49) := hs
  have s6 : 6 < tm.size := by omega
  have E6 : Hid (tm[6] = .slice (some ⟨gv, 0, none⟩) ys.length cv) := by
    rw [Array.getElem?_eq_getElem s6] at h6
    exact Option.some.inj h6
  have s2 : 2 < tm.size := by omega
  have s47 : 47 < tm.size := by omega
  have s48 : 48 < tm.size := by omega
  have HC := (show Hid _ from compF_any v hN hl h0 hn h)
  obtain ⟨cur, HCUR⟩ := h.blk
  have HCUR := (show Hid _ from HCUR)
  have HLO := (show Hid _ from h.lo)
  clear hs h hl
  simp only [Tryd.f36, Option.getD_some, atc]
  go_wp2_with (go_at_call 52; rw [E6.out]; refine Calls.mono HC.out ?_; rintro e w' ⟨rfl, q3, q4⟩; replace q4 := And.intro (hn_grown q4 HCUR.out) (hl_grown q4 (by have := HLO.out; omega) HLO.out.1))
  exact ⟨HS.out, q4.2⟩
section
variable {Fin : Value → World → Prop} {K : World} {k : List Item} {rc : List Frame}
theorem flatMap_map {α β γ : Type} (f : α → β) (g : β → List γ) (l : List α) : (l.map f).flatMap g = l.flatMap fun x => g (f x) := by
  induction l with
  | nil => rfl
  | cons x l ih => simp [ih]
/-- grown, from its start to its return. -/
theorem grown_all {C : Code} (hC : IsN C) {bf capf N : Nat} {Ls L0 : List (List Nat)} (hLs : ∀ o ∈ Ls, FOk o) (hm : Ls.length < 1000) (hN : N ≤ 40) (hl : ∀ y ∈ L0, y.length = N) (h0 : 0 < L0.length) (hn : L0.length ≤ 1000) (hp : L0.Perm (Ls.flatMap outsL)) (hs0 : Srt N L0)
    {r : Nat → Nat → Prop} {v : World} {tm tm' : Array Value} (hx : XR (Rg Tryd.prog afs cgs r) tm tm') (hg : ∀ g ∈ cgs, r g g) (hs : tm.size = 49) (t0 : tm[0]? = some (.slice (some ⟨bf, 0, none⟩) Ls.length capf)) (hL : LObj v bf Ls) (hT : Tab v) (hlow : Tryd.prog.globals.size ≤ v.heap.size) (hp0 : PureB v 0) (hp1 : PureB v 1)
    (hk : ∀ r' v' tm1 tm1' B gv cv, (∀ b b', r b b' → r' b b') → HB v v' → (∀ g ∈ cgs, r' g g) → XR (Rg Tryd.prog afs cgs r') tm1 tm1' → tm1.size = 49 → tm1[2]? = some (.slice (some ⟨gv, 0, none⟩) (compL L0).length cv) → GRow v' B (.slice (some ⟨gv, 0, none⟩) (compL L0).length cv) (compL L0) → Tab v' → Tryd.prog.globals.size ≤ v'.heap.size → PureB v' 0 → PureB v' 1 →
      Mc Fin K r' v' (fun _ => none) none (G (fF GN tm1' (.code .ret :: k) [] .normal) rc)) :
    Mc Fin K r v (fun _ => none) none (G (fF GN tm' (.code C :: k) [] .normal) rc) := by
  rw [gn_shape hC]
  refine mmv (mv_seq _ _) ?_
  -- nothing yet
  refine mpiece gn_in (gn_ok hC (by simp)) hg hx (Q := fun s w => HB v w ∧ s.tmps = tm.setIfInBounds 2 (.slice none 0 0)) (fun τ => ?_) fun r1 v1 tm1 tm1' hr1 hx1 hq => ?_
  · rw [hC]; exact gn_r0 tm (tap τ v)
  obtain ⟨hb1, e1⟩ := hq
  have e1 : tm1 = _ := e1
  have s1 : tm1.size = 49 := by rw [e1]; simp [hs]
  have a0 : tm1[0]? = some (.slice (some ⟨bf, 0, none⟩) Ls.length capf) := by rw [e1, set_ne (by decide)]; exact t0
  refine mmv (mv_seq _ _) ?_
  -- the row of channels
  refine mpiece gn_in (gn_ok hC (by simp)) (fun g h => hr1 _ _ (hg g h)) hx1 (Q := fun s w => HB v1 w ∧ s.tmps.size = 49 ∧ s.tmps[3]? = some (.slice (some ⟨v1.heap.size, 0, none⟩) Ls.length Ls.length) ∧ (∀ i, i ≠ 3 → (i < 10 ∨ 12 < i) → s.tmps[i]? = tm1[i]?) ∧ ChR w v1.heap.size [] Ls.length) (fun τ => ?_) fun r2 v2 tm2 tm2' hr2 hx2 hq => ?_
  · rw [hC]; exact gn_r1 tm1 _ Ls.length capf (tap τ v1) s1 a0 (by omega)
  obtain ⟨hb2, s2, b3, e2, hch⟩ := hq
  have b0 := (e2 0 (by decide) (by decide)).trans a0
  have b3 : tm2[3]? = _ := b3
  have hbc : v.heap.size ≤ v1.heap.size := hb1.1
  generalize v1.heap.size = bc at b3 hch hbc
  refine mmv (mv_seq _ _) ?_
  refine mmv (mv_seq _ _) ?_
  refine mpiece gn_in (gn_ok hC (by simp)) (fun g h => hr2 _ _ (hr1 _ _ (hg g h))) hx2 (Q := fun s w => HB v2 w ∧ s.tmps = ((tm2.setIfInBounds 13 (.slice (some ⟨bf, 0, none⟩) Ls.length capf)).setIfInBounds 14 (.int .i64 (Ls.length : Nat))).setIfInBounds 15 (.int .i64 0)) (fun τ => ?_) fun r3 v3 tm3 tm3' hr3 hx3 hq => ?_
  · rw [hC]; exact gn_r2 tm2 _ Ls.length capf (tap τ v2) s2 b0
  obtain ⟨hb3, e3⟩ := hq
  have e3 : tm3 = _ := e3
  have s2 : tm2.size = 49 := s2
  have hb : HB v v3 := (hb1.trans hb2).trans hb3
  refine mmv (mv_block _ _) ?_
  refine mmv (mv_loop _) ?_
  refine n_loop1 (r0 := r) (v0 := v) hC (capf := capf) (bf := bf) (bc := bc) hLs hm (fun r4 v4 tm4 tm4' ps h4 => ?_) Ls.length 0 (by omega) r3 v3 tm3 tm3' [] ⟨fun b b' q => hr3 _ _ (hr2 _ _ (hr1 _ _ q)), hb, hbc, hx3, fun g h => hr3 _ _ (hr2 _ _ (hr1 _ _ (hg g h))), by rw [e3]; simp [s2], by rw [e3, set_ne (by decide), set_ne (by decide), set_ne (by decide)]; exact b3, by rw [e3, set_ne (by decide), set_ne (by decide), set_at (by rw [s2]; decide)], by rw [e3, set_ne (by decide), set_at (by simp [s2])], by rw [e3, set_at (by simp [s2])]; rfl, hL.hn (hb.hn 70), (hb3.2 _ (Array.getElem?_eq_some_iff.1 hch).1).trans hch, rfl, by simp, by simp, hT, Nat.le_trans hlow hb.1, hp0, hp1⟩
  -- what comes
  refine mmv (mv_seq _ _) ?_
  refine mpiece gn_in (gn_ok hC (by simp)) h4.rg h4.xr (Q := fun s w => HB v4 w ∧ s.tmps = tm4.setIfInBounds 6 (.slice none 0 0)) (fun τ => ?_) fun r5 v5 tm5 tm5' hr5 hx5 hq => ?_
  · rw [hC]; exact gn_r8 tm4 (tap τ v4)
  obtain ⟨hb5, e5⟩ := hq
  have e5 : tm5 = _ := e5
  have h5 := h4.mv hr5 hb5 hx5 (by rw [e5]; simp [h4.sz]) fun j hj => by rw [e5]; exact set_ne (by omega) _
  have c6 : tm5[6]? = some (.slice none 0 0) := by rw [e5, set_at (by rw [h4.sz]; decide)]
  refine mmv (mv_seq _ _) ?_
  refine mmv (mv_seq _ _) ?_
  refine mpiece gn_in (gn_ok hC (by simp)) h5.rg h5.xr (Q := fun s w => HB v5 w ∧ s.tmps = ((tm5.setIfInBounds 30 (.slice (some ⟨bc, 0, none⟩) Ls.length Ls.length)).setIfInBounds 31 (.int .i64 (Ls.length : Nat))).setIfInBounds 32 (.int .i64 0)) (fun τ => ?_) fun r6 v6 tm6 tm6' hr6 hx6 hq => ?_
  · rw [hC]; exact gn_r9 tm5 _ Ls.length Ls.length (tap τ v5) h5.sz h5.t3
  obtain ⟨hb6, e6⟩ := hq
  have e6 : tm6 = _ := e6
  have h6 := h5.mv hr6 hb6 hx6 (by rw [e6]; simp [h5.sz]) fun j hj => by rw [e6, set_ne (by omega), set_ne (by omega), set_ne (by omega)]
  refine mmv (mv_block _ _) ?_
  refine mmv (mv_loop _) ?_
  have hfl : ps.flatMap Prod.snd = Ls.flatMap outsL := by
    have h := congrArg (fun l => l.flatMap id) h6.outs
    simp only [List.take_length, flatMap_map, id] at h
    exact h
  have hcl : (ps.map Prod.fst).length = Ls.length := by simpa using h6.len
  refine n_loop2 (r0 := r) (v0 := v) hC (m := Ls.length) (bc := bc) (B := v6.heap.size) (cs := ps.map Prod.fst) hm ps 0 [] r6 v6 tm6 tm6' ⟨h6.le, h6.hb, h6.hb.1, hx6, h6.rg, h6.sz, by rw [e6, set_ne (by decide), set_ne (by decide), set_at (by rw [h5.sz]; decide)], by rw [e6, set_ne (by decide), set_at (by simp [h5.sz])], by rw [e6, set_at (by simp [h5.sz])]; rfl, ⟨_, by rw [e6, set_ne (by decide), set_ne (by decide), set_ne (by decide)]; exact c6, [], World.ownsRow_nil _ _ _ _, fun k y hk => by simp at hk⟩, Nat.le_refl _, h6.ch, hcl, h6.tab0, h6.low, h6.q0, h6.q1⟩ (Nat.zero_le _) (by simp) h6.nd (by rw [hfl, ← hp.length_eq]; simpa using hn) fun r7 v7 tm7 tm7' h7 => ?_
  rw [hfl, List.nil_append] at h7
  obtain ⟨z, t6, hrow⟩ := h7.row
  generalize hY : Ls.flatMap outsL = ys at *
  have hyl : ∀ y ∈ ys, y.length = N := fun y hy => hl y (hp.mem_iff.2 hy)
  have hy0 : 0 < ys.length := by rw [← hp.length_eq]; exact h0
  have hyn : ys.length ≤ 1000 := by rw [← hp.length_eq]; exact hn
  obtain ⟨gv, cv, rfl⟩ := hrow.slice hy0
  refine mmv (mv_seq _ _) ?_
  refine mpiece gn_in (gn_ok hC (by simp)) h7.rg h7.xr (Q := fun s w => s.tmps.size = 49 ∧ s.tmps[6]? = some (.slice (some ⟨gv, 0, none⟩) ys.length cv) ∧ ∃ ys' : List (List Nat), List.Perm ys' ys ∧ Srt N ys' ∧ GRow w v6.heap.size (.slice (some ⟨gv, 0, none⟩) ys'.length cv) ys' ∧ HN 24 v7 w ∧ ∀ b, b < v6.heap.size → w.heap[b]? = v7.heap[b]?) (fun τ => ?_) fun r8 v8 tm8 tm8' hr8 hx8 hq => ?_
  · rw [hC]; exact gn_r17 tm7 _ N gv cv ys (tap τ v7) h7.sz t6 hN hyl hy0 hyn hrow
  obtain ⟨s8, d6, ys', q1, q2, q3, q4, l8⟩ := hq
  have hE : ys' = L0 := srt_uniq ys' L0 (fun y hy => hyl y (q1.mem_iff.1 hy)) (q1.trans hp.symm) q2 hs0
  subst hE
  have hn8 := q4
  rw [← q1.length_eq] at d6
  refine mmv (mv_seq _ _) ?_
  refine mpiece gn_in (gn_ok hC (by simp)) (fun g h => hr8 _ _ (h7.rg g h)) hx8 (Q := fun s w => s.tmps.size = 49 ∧ s.tmps[2]? = some (.slice (some ⟨gv, 0, none⟩) (compL ys').length cv) ∧ GRow w v6.heap.size (.slice (some ⟨gv, 0, none⟩) (compL ys').length cv) (compL ys') ∧ HN 24 v8 w ∧ ∀ b, b < v6.heap.size → w.heap[b]? = v8.heap[b]?) (fun τ => ?_) fun r9 v9 tm9 tm9' hr9 hx9 hq => ?_
  · rw [hC]; exact gn_r18 tm8 _ N gv cv ys' (tap τ v8) s8 d6 hN hl h0 hn q3
  obtain ⟨s9, d2, q5, q6, l9⟩ := hq
  have hn9 := q6
  have hHB : HB v v9 := ⟨Nat.le_trans h7.hb.1 (Nat.le_trans hn8.1 hn9.1), fun b hlt => ((l9 b (Nat.lt_of_lt_of_le hlt h7.lo)).trans (l8 b (Nat.lt_of_lt_of_le hlt h7.lo))).trans (h7.hb.2 b hlt)⟩
  exact hk r9 v9 tm9 tm9' _ gv cv (fun b b' q => hr9 _ _ (hr8 _ _ (h7.le b b' q))) hHB (fun g h => hr9 _ _ (hr8 _ _ (h7.rg g h))) hx9 s9 d2 q5 (hHB.tab hT) (Nat.le_trans h7.low (Nat.le_trans hn8.1 hn9.1)) (hHB.pure hp0) (hHB.pure hp1)
end
end Go.Proofs.YtfbdgdphpdhcpaaDoor
namespace Go.Proofs.YtfbdgdphpdhcpaaDoor
open Go Go.Conc Go.RowKit Sm
set_option maxRecDepth 100000

abbrev GA : FuncId := 22
/-- What a condition leads to. -/
def thenT : Code → Code
  | .seq _ (.cond _ a _) => a
  | c => c
/-- All's code. -/
def IsA (C : Code) : Prop := C = Tryd.f22.body.getD .skip
theorem ga_shape {C : Code} (hC : IsA C) : C = .seq (atc [0] C) (.seq (.seq (atc [1, 0, 0] C) (.cond (.tmp 10) (thenT (atc [1, 0] C)) .skip)) (.seq (atc [1, 1, 0] C) (.seq (.seq (atc [1, 1, 1, 0, 0] C) (.block 0 (.loop (.seq (atc [1, 1, 1, 0, 1, 2, 2, 0] C) (.seq (.cond (.tmp 15) .skip (.exit 0)) (.seq (.block 1 (atc [1, 1, 1, 0, 1, 2, 2, 1, 1, 0, 2] C)) (atc [1, 1, 1, 0, 1, 2, 2, 1, 1, 1] C))))))) (.seq (atc [1, 1, 1, 1, 0] C) .ret)))) := by
  rw [hC]
  kernel_rfl
abbrev gal : List (List Nat) := [[0], [1, 0, 0], [1, 1, 0], [1, 1, 1, 0, 0], [1, 1, 1, 0, 1, 2, 2, 0], [1, 1, 1, 0, 1, 2, 2, 1, 1, 1], [1, 1, 1, 1, 0]]
theorem ga_item : (gal.all fun l => itemB Tryd.prog afs cgs (.code (atc l (Tryd.f22.body.getD .skip)))) = true := by kernel_rfl
theorem ga_ok {C : Code} (hC : IsA C) {l : List Nat} (h : l ∈ gal) : itemB Tryd.prog afs cgs (.code (atc l C)) = true := by
  rw [hC]
  exact List.all_eq_true.1 ga_item l h
theorem ga_in : ∃ f, Tryd.prog.funcs[GA]? = some f := ⟨_, Tryd.func22⟩
abbrev P6 : List Nat := [1, 1, 1, 0, 1, 2, 2, 1, 1, 0, 2]
theorem ga6_shape {C : Code} (hC : IsA C) : atc P6 C = .region 6 (opsOf (atc P6 C)) false := by
  rw [hC]
  kernel_rfl
theorem ga6_ops {C : Code} (hC : IsA C) : ((opsOf (atc P6 C)).map fun o => (o.dst, o.op, o.guard)).toList = [(some 16, .move (.tmp 4), none), (some 17, .call { callee := .value (.func GN), args := #[.tmp 16], argTypes := #[45] }, none), (some 4, .assign (.tmp 17), none)] := by
  rw [hC]
  kernel_rfl
theorem ga_r0 (tm : Array Value) (v : World) : (atc [0] (Tryd.f22.body.getD .skip)).wp Tryd.prog (fun e s w => e = .normal ∧ s.defers = [] ∧ HB v w ∧ ∃ u, s.tmps = (tm.setIfInBounds 2 (.slice none 0 0)).setIfInBounds 3 u) ⟨tm, []⟩ v := by
  simp only [Tryd.f22, Option.getD_some, atc]
  go_wp2_with fail
  exact ⟨HB.refl _, _, rfl⟩
theorem ga_r1 (tm : Array Value) (n : Nat) (v : World) (hs : tm.size = 20) (h0 : tm[0]? = some (.int .i64 (n : Nat))) (hn : n ≤ 5) : (atc [1, 0, 0] (Tryd.f22.body.getD .skip)).wp Tryd.prog (fun e s w => e = .normal ∧ s.defers = [] ∧ HB v w ∧ s.tmps.size = 20 ∧ s.tmps[10]? = some (.bool false) ∧ ∀ j, (j < 5 ∨ 10 < j) → s.tmps[j]? = tm[j]?) ⟨tm, []⟩ v := by
  have HS : Hid (tm.size = 20) := hs
  have s5 : 5 < tm.size := by omega
  have s6 : 6 < tm.size := by omega
  have s7 : 7 < tm.size := by omega
  have s8 : 8 < tm.size := by omega
  have s9 : 9 < tm.size := by omega
  have s10 : 10 < tm.size := by omega
  have n0 : ¬ (n : Int) < 0 := by omega
  have n5 : ¬ (5 : Int) < (n : Int) := by omega
  clear hs
  simp only [Tryd.f22, Option.getD_some, atc]
  go_wp2_with fail
  refine ⟨HB.refl _, HS.out, fun j hj => ?_⟩
  repeat rw [Array.getElem?_setIfInBounds_ne (by omega)]
theorem ga_r3 (tm : Array Value) (v : World) (hs : tm.size = 20) : (atc [1, 1, 0] (Tryd.f22.body.getD .skip)).wp Tryd.prog (fun e s w => e = .normal ∧ s.defers = [] ∧ HB v w ∧ s.tmps.size = 20 ∧ s.tmps[4]? = some (.slice (some ⟨v.heap.size, 0, none⟩) 1 1) ∧ LObj w v.heap.size [[]] ∧ ∀ j, j ≠ 4 → (j < 11 ∨ 12 < j) → s.tmps[j]? = tm[j]?) ⟨tm, []⟩ v := by
  have HS : Hid (tm.size = 20) := hs
  have s4 : 4 < tm.size := by omega
  have s11 : 11 < tm.size := by omega
  have s12 : 12 < tm.size := by omega
  clear hs
  simp only [Tryd.f22, Option.getD_some, atc]
  go_wp2_with fail
  refine ⟨HB.of (B := v.heap.size) ((Below.refl _ v).alloc (Nat.le_refl _) _) (Nat.le_refl _), HS.out, ⟨_, _, heap_new v _, fun k o hk => ?_⟩, fun j h4 hj => ?_⟩
  · cases k with
    | zero => exact ⟨_, _, .inl ⟨by simpa using hk.symm, rfl⟩, rfl, rfl⟩
    | succ k => simp at hk
  · repeat rw [Array.getElem?_setIfInBounds_ne (by omega)]
theorem ga_r4 (tm : Array Value) (n : Nat) (v : World) (hs : tm.size = 20) (h0 : tm[0]? = some (.int .i64 (n : Nat))) : (atc [1, 1, 1, 0, 0] (Tryd.f22.body.getD .skip)).wp Tryd.prog (fun e s w => e = .normal ∧ s.defers = [] ∧ HB v w ∧ s.tmps = (tm.setIfInBounds 13 (.int .i64 (n : Nat))).setIfInBounds 14 (.int .i64 0)) ⟨tm, []⟩ v := by
  have s13 : 13 < tm.size := by omega
  clear hs
  simp only [Tryd.f22, Option.getD_some, atc]
  go_wp2_with fail
  exact HB.refl _
theorem ga_r5 (tm : Array Value) (i l : Nat) (v : World) (h14 : tm[14]? = some (.int .i64 (i : Nat))) (h13 : tm[13]? = some (.int .i64 (l : Nat))) :
    (atc [1, 1, 1, 0, 1, 2, 2, 0] (Tryd.f22.body.getD .skip)).wp Tryd.prog (fun e s w => e = .normal ∧ s.defers = [] ∧ HB v w ∧ s.tmps = tm.setIfInBounds 15 (.bool (decide ((i : Int) < (l : Int))))) ⟨tm, []⟩ v := by
  simp only [Tryd.f22, Option.getD_some, atc]
  go_wp2_with fail
  exact HB.refl _
theorem ga_r7 (tm : Array Value) (i : Nat) (v : World) (hs : tm.size = 20) (h14 : tm[14]? = some (.int .i64 (i : Nat))) (hi : i < 1000) :
    (atc [1, 1, 1, 0, 1, 2, 2, 1, 1, 1] (Tryd.f22.body.getD .skip)).wp Tryd.prog (fun e s w => e = .normal ∧ s.defers = [] ∧ HB v w ∧ s.tmps = (tm.setIfInBounds 18 (.int .i64 ((i + 1 : Nat) : Int))).setIfInBounds 14 (.int .i64 ((i + 1 : Nat) : Int))) ⟨tm, []⟩ v := by
  have s18 : 18 < tm.size := by omega
  clear hs
  simp only [Tryd.f22, Option.getD_some, atc]
  go_wp2_with fail
  exact HB.refl _
theorem ga_r8 (tm : Array Value) (z : Value) (v : World) (hs : tm.size = 20) (h4 : tm[4]? = some z) : (atc [1, 1, 1, 1, 0] (Tryd.f22.body.getD .skip)).wp Tryd.prog (fun e s w => e = .normal ∧ s.defers = [] ∧ HB v w ∧ s.tmps = ((tm.setIfInBounds 19 z).setIfInBounds 2 z).setIfInBounds 3 (.int .i64 0)) ⟨tm, []⟩ v := by
  have s19 : 19 < tm.size := by omega
  clear hs
  simp only [Tryd.f22, Option.getD_some, atc]
  go_wp2_with fail
  exact HB.refl _
end Go.Proofs.YtfbdgdphpdhcpaaDoor
