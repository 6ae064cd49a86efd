/-
  growOne, a worker: its loop, and its whole script. Conditions: as in GrU.
-/
import Derived.Test.YtfbdgdphpdhcpaaDoorGrS
namespace Go.Proofs.YtfbdgdphpdhcpaaDoor
open Go Go.Conc Go.RowKit Sm
set_option maxRecDepth 100000

theorem grow_shapeC {C : Code} (hC : IsG C) : C = .seq (atc [0] C) (.seq (atc [1, 0] C) (.seq (atc [1, 1, 0] C) (.seq (atc [1, 1, 1, 0] C) (.block 0 (.loop (gbody C)))))) := by
  rw [hC]
  exact grow_shape
theorem grow_innerC {C : Code} (hC : IsG C) : atc [1, 1, 1, 1, 2, 2, 1, 1, 0, 2] C = .seq (atc [1, 1, 1, 1, 2, 2, 1, 1, 0, 2, 0] C) (.seq (atc [1, 1, 1, 1, 2, 2, 1, 1, 0, 2, 1, 0] C) (.seq (atc [1, 1, 1, 1, 2, 2, 1, 1, 0, 2, 1, 1, 0] C) (atc [1, 1, 1, 1, 2, 2, 1, 1, 0, 2, 1, 1, 1] C))) := by
  rw [hC]
  exact grow_inner
theorem GI.mv {r r' : Nat → Nat → Prop} {v v' : World} {tm tm' tm1 tm1' : Array Value} {c b0 n cap : Nat} {a : Option Addr} {g : Nat → Nat} {L : List Nat} {ai : Option Addr} {ci i : Nat} (h : GI r v tm tm' c b0 n cap a g L ai ci i)
    (hr : ∀ b b', r b b' → r' b b') (hv : CE v v') (hx : XR (Rg Tryd.prog cfs cgs r') tm1 tm1') (hs : tm1.size = 41) (ht : ∀ j, j = 1 ∨ j = 2 ∨ j = 17 ∨ j = 18 ∨ j = 19 → tm1[j]? = tm[j]?) : GI r' v' tm1 tm1' c b0 n cap a g L ai ci i where
  xr := hx
  rg g hg := hr _ _ (h.rg g hg)
  sz := hs
  t1 := (ht 1 (by simp)).trans h.t1
  t2 := (ht 2 (by simp)).trans h.t2
  t17 := (ht 17 (by simp)).trans h.t17
  t18 := (ht 18 (by simp)).trans h.t18
  t19 := (ht 19 (by simp)).trans h.t19
  box := hv.box h.box
  row := hv.row h.row
  tab := hv.tab h.tab
  low := Nat.le_trans h.low hv.1
section
variable {c b0 n cap : Nat} {a : Option Addr} {g : Nat → Nat} {L : List Nat} {ai : Option Addr} {ci : Nat} {ats : Array TypeId} {ty : TypeId} {cs : Array Bool}
theorem grow_loop {C : Code} (hC : IsG C) (hn : n ≤ 5) (hg : ∀ k, k < n → g k < 1024) (hL : ∀ k, k < L.length → nth L k < 1024) (hl : L.length ≤ 1024) : ∀ m i, i + m = L.length → ∀ (r : Nat → Nat → Prop) (v : World) (tm tm' : Array Value), GI r v tm tm' c b0 n cap a g L ai ci i →
    Wc r v c ((L.drop i).map fun d => frmL ((List.range n).map g ++ [d])) (G (fF GO tm' [.code (gbody C), .inLoop (gbody C), .inBlock 0] [clD ats ty cs c] .deferred) [bornF Tryd.prog]) := by
  intro m
  induction m with
  | zero =>
    intro i hi r v tm tm' h
    have e : L.drop i = [] := List.drop_eq_nil_of_le (by omega)
    rw [e]
    refine gmv (mv_seq _ _) ?_
    refine gpiece (gi_ok hC (by simp)) h.rg h.xr (Q := fun s w => HB v w ∧ s.tmps = tm.setIfInBounds 20 (.bool (decide ((i : Int) < (L.length : Int))))) (fun τ => ?_) fun r1 v1 tm1 tm1' hr1 hx1 hq => ?_
    · rw [hC]; exact grow_r4 tm i L.length (tap τ v) h.t19 h.t18
    obtain ⟨hb1, e1⟩ := hq
    have e1 : tm1 = _ := e1
    have e20 : tm1[20]? = some (.bool false) := by
      rw [e1, set_at (by rw [h.sz]; decide), decide_eq_false (by omega)]
    refine gmv (mv_seq _ _) ?_
    refine gmv (mv_cond (b := false) ?_) ?_
    · exact eval_tmp (D := []) (vr_bool hx1 e20)
    refine gmv (mv_exit (k' := []) rfl) ?_
    exact WV.done ats ty cs Tryd.func49 rfl
  | succ m ih =>
    intro i hi r v tm tm' h
    have hil : i < L.length := by omega
    have e : L.drop i = nth L i :: L.drop (i + 1) := by
      rw [List.drop_eq_getElem_cons hil]
      simp [nth, hil]
    rw [e, List.map_cons]
    refine gmv (mv_seq _ _) ?_
    refine gpiece (gi_ok hC (by simp)) h.rg h.xr (Q := fun s w => HB v w ∧ s.tmps = tm.setIfInBounds 20 (.bool (decide ((i : Int) < (L.length : Int))))) (fun τ => ?_) fun r1 v1 tm1 tm1' hr1 hx1 hq => ?_
    · rw [hC]; exact grow_r4 tm i L.length (tap τ v) h.t19 h.t18
    obtain ⟨hb1, e1⟩ := hq
    have e1 : tm1 = _ := e1
    have e20 : tm1[20]? = some (.bool true) := by
      rw [e1, set_at (by rw [h.sz]; decide), decide_eq_true (by omega)]
    have h1 : GI r1 v1 tm1 tm1' c b0 n cap a g L ai ci i := h.mv hr1 hb1.ce hx1 (by rw [e1]; simp [h.sz]) fun j hj => by rw [e1]; exact set_ne (by omega) _
    refine gmv (mv_seq _ _) ?_
    refine gmv (mv_cond (b := true) ?_) ?_
    · exact eval_tmp (D := []) (vr_bool hx1 e20)
    refine gmv mv_skip ?_
    refine gmv (mv_seq _ _) ?_
    refine gmv (mv_block _ _) ?_
    rw [grow_innerC hC]
    refine gmv (mv_seq _ _) ?_
    clear hr1 hx1 hb1 e20 e1 h
    -- the next ideal
    refine gpiece (gi_ok hC (by simp)) h1.rg h1.xr (Q := fun s w => HB v1 w ∧ ∃ z, s.tmps = ((tm1.setIfInBounds 21 z).setIfInBounds 22 (.int .i64 (nth L i : Nat))).setIfInBounds 7 (.int .i64 (nth L i : Nat))) (fun τ => ?_) fun r2 v2 tm2 tm2' hr2 hx2 hq => ?_
    · rw [hC]; exact grow_r5 tm1 ai i L.length ci (fun k => (nth L k : Nat)) (tap τ v1) h1.sz h1.t17 h1.t19 hil h1.row
    obtain ⟨hb2, z, e2⟩ := hq
    have e2 : tm2 = _ := e2
    have h2 : GI r2 v2 tm2 tm2' c b0 n cap a g L ai ci i := h1.mv hr2 hb2.ce hx2 (by rw [e2]; simp [h1.sz]) fun j hj => by rw [e2, set_ne (by omega), set_ne (by omega), set_ne (by omega)]
    have e7 : tm2[7]? = some (.int .i64 (nth L i : Nat)) := by rw [e2, set_at (by simp [h1.sz])]
    clear hr2 hx2 hb2 e2 h1
    -- it is put behind the row
    refine gmv (mv_seq _ _) ?_
    refine gpiece (gi_ok hC (by simp)) h2.rg h2.xr (Q := fun s w => HB v2 w ∧ ∃ z, w.ownsRow v2.heap.size 3 1 z (n + 1) (natVals ((List.range n).map g ++ [nth L i])) ∧ s.tmps[8]? = some z ∧ s.tmps.size = 41 ∧ (∀ j, (j < 23 ∨ 28 < j) → j ≠ 8 → s.tmps[j]? = tm2[j]?)) (fun τ => ?_) fun r3 v3 tm3 tm3' hr3 hx3 hq => ?_
    · rw [hC]; exact grow_r6 tm2 b0 n (nth L i) a cap g (tap τ v2) h2.sz hn h2.box h2.t2 e7
    obtain ⟨hb3, z3, ho3, e8, s3, e3⟩ := hq
    have h3 : GI r3 v3 tm3 tm3' c b0 n cap a g L ai ci i := h2.mv hr3 hb3.ce hx3 s3 fun j hj => e3 j (by omega) (by omega)
    clear hr3 hx3 hb3 e3 h2
    -- its form
    refine gmv (mv_seq _ _) ?_
    refine gpiece (gi_ok hC (by simp)) h3.rg h3.xr (Q := fun s w => HB v3 w ∧ ∃ bl b9, v3.heap.size ≤ bl ∧ bl < b9 ∧ w.heap[bl]? = some (.cells (rowC (frmL ((List.range n).map g ++ [nth L i]))) 3 (0, 0)) ∧
      w.heap[b9]? = some (.cells #[.int .i64 ((n + 1 : Nat) : Int), .slice (some ⟨bl, 0, none⟩) (n + 1) (n + 1)] 24 (0, 0)) ∧ (frmL ((List.range n).map g ++ [nth L i])).length = n + 1 ∧ s.tmps.size = 41 ∧
      s.tmps[9]? = some (.pointer (some ⟨b9, 0, none⟩)) ∧ (∀ j, (j < 29 ∨ 37 < j) → j ≠ 9 → j ≠ 10 → s.tmps[j]? = tm3[j]?)) (fun τ => ?_) fun r4 v4 tm4 tm4' hr4 hx4 hq => ?_
    · rw [hC]; exact grow_r7 tm3 b0 n (nth L i) a cap g z3 (tap τ v3) h3.sz hn h3.box h3.tab _ ho3 hg (hL i hil) h3.t2 e8
    obtain ⟨hb4, bl, b9, q1, q2, q3, q4, q5, s4, e9, e4⟩ := hq
    have h4 : GI r4 v4 tm4 tm4' c b0 n cap a g L ai ci i := h3.mv hr4 hb4.ce hx4 s4 fun j hj => e4 j (by omega) (by omega) (by omega)
    generalize frmL ((List.range n).map g ++ [nth L i]) = o at q3 q5 ⊢
    clear hr4 hx4 hb4 e4 ho3 e8
    -- it goes over
    rw [← q5] at q4
    refine grow_send hC h4.xr h4.rg s4 h4.t1 e9 q3 q4 (by omega) (Nat.le_trans h3.low q1) fun r5 v5 tm5 tm5' hr5 hv5 hx5 s5 e5 => ?_
    have h5 : GI r5 v5 tm5 tm5' c b0 n cap a g L ai ci i := h4.mv hr5 hv5 hx5 s5 fun j hj => e5 j (by omega) (by omega)
    refine gmv (mv_inBlock _) ?_
    clear hr5 hv5 hx5 e5
    -- the count
    refine gpiece (gi_ok hC (by simp)) h5.rg h5.xr (Q := fun s w => HB v5 w ∧ s.tmps = (tm5.setIfInBounds 40 (.int .i64 ((i + 1 : Nat) : Int))).setIfInBounds 19 (.int .i64 ((i + 1 : Nat) : Int))) (fun τ => ?_) fun r6 v6 tm6 tm6' hr6 hx6 hq => ?_
    · rw [hC]; exact grow_r9 tm5 i (tap τ v5) s5 h5.t19 (by omega)
    obtain ⟨hb6, e6⟩ := hq
    have e6 : tm6 = _ := e6
    refine gmv (mv_inLoop _) ?_
    refine ih (i + 1) (by omega) r6 v6 tm6 tm6' ⟨hx6, fun g hg => hr6 _ _ (h5.rg g hg), by rw [e6]; simp [s5], ?_, ?_, ?_, ?_, ?_, hb6.ce.box h5.box, hb6.ce.row h5.row, hb6.ce.tab h5.tab, Nat.le_trans h5.low hb6.1⟩
    · rw [e6, set_ne (by decide), set_ne (by decide)]; exact h5.t1
    · rw [e6, set_ne (by decide), set_ne (by decide)]; exact h5.t2
    · rw [e6, set_ne (by decide), set_ne (by decide)]; exact h5.t17
    · rw [e6, set_ne (by decide), set_ne (by decide)]; exact h5.t18
    · rw [e6, set_at (by simp [s5])]
end
theorem g1_shape {C : Code} (hC : IsG C) : atc [1, 0] C = .region 1 (opsOf (atc [1, 0] C)) false := by
  rw [hC]
  kernel_rfl
theorem g1_ops {C : Code} (hC : IsG C) : ((opsOf (atc [1, 0] C)).map fun o => (o.dst, o.op, o.guard)).toList = [(some 11, .move (.tmp 1), none), (none, .defer { callee := .builtin .close, args := #[.tmp 11], argTypes := #[75] }, none)] := by
  rw [hC]
  kernel_rfl
theorem range_nth (o : List Nat) : (List.range o.length).map (nth o) = o := by
  refine List.ext_getElem (by simp) fun i h1 h2 => ?_
  simp [nth, h2]
theorem xr_init {R : Ren} {x x' y y' : Value} (hx : VR R x x') (hy : VR R y y') (m : Nat) : XR R (#[x, y] ++ Array.replicate m undef) (#[x', y'] ++ Array.replicate m undef) := by
  refine ⟨by simp, fun i u u' h1 h2 => ?_⟩
  match i with
  | 0 =>
    have e1 : (#[x, y] ++ Array.replicate m undef)[0]? = some x := by rw [Array.getElem?_append_left (by simp)]; rfl
    have e2 : (#[x', y'] ++ Array.replicate m undef)[0]? = some x' := by rw [Array.getElem?_append_left (by simp)]; rfl
    rw [e1] at h1; rw [e2] at h2; cases h1; cases h2; exact hx
  | 1 =>
    have e1 : (#[x, y] ++ Array.replicate m undef)[1]? = some y := by rw [Array.getElem?_append_left (by simp)]; rfl
    have e2 : (#[x', y'] ++ Array.replicate m undef)[1]? = some y' := by rw [Array.getElem?_append_left (by simp)]; rfl
    rw [e1] at h1; rw [e2] at h2; cases h1; cases h2; exact hy
  | i + 2 =>
    rw [Array.getElem?_append_right (by simp)] at h1 h2
    rw [Array.getElem?_replicate] at h1 h2
    split at h1
    · cases h1
      split at h2
      · cases h2; exact VR.tuple XR.nil
      · cases h2
    · cases h1
theorem idls_lt {g : Nat → Nat} {n : Nat} (hn : n ≤ 5) : (idls g n).length ≤ 1024 ∧ ∀ k, k < (idls g n).length → nth (idls g n) k < 1024 := by
  have hp : pw n ≤ 32 := by
    unfold pw
    exact Nat.le_trans (Nat.pow_le_pow_right (by decide) hn) (by decide)
  have mem : ∀ (I : Nat → Bool) (m x : Nat), x ∈ fil I m → x < m := by
    intro I m
    induction m with
    | zero => intro x h; simp [fil] at h
    | succ m ih =>
      intro x h
      cases hI : I m with
      | true =>
        rw [fil_yes hI, List.mem_append] at h
        rcases h with h | h
        · have := ih x h; omega
        · simp at h; omega
      | false => rw [fil_no hI] at h; have := ih x h; omega
  refine ⟨Nat.le_trans (fil_len _ _) (by omega), fun k hk => ?_⟩
  have h1 : nth (idls g n) k ∈ idls g n := by
    unfold nth
    rw [List.getD_eq_getElem?_getD, List.getElem?_eq_getElem hk]
    exact List.getElem_mem hk
  have := mem _ _ _ h1
  omega
/-- A worker, from its birth on. -/
theorem grow_ws {r : Nat → Nat → Prop} {v : World} {c cap : Nat} {a : Option Addr} {o : List Nat} {x' : Value} (hn : o.length ≤ 5) (hlt : ∀ k, k < o.length → nth o k < 1024) (hc : Chk o.length o.length (fun k => (nth o k : Nat)) 0) (hr : Row v a o.length (fun k => (nth o k : Nat))) (hT : Tab v) (hg : ∀ g ∈ cgs, r g g)
    (hlow : Tryd.prog.globals.size ≤ v.heap.size) (hx : VR (Rg Tryd.prog cfs cgs r) (.agg #[.int .i64 (o.length : Nat), .slice a o.length cap]) x') :
    Wc r v c (outsL o) (born Tryd.prog { target := .fn (.func GO) #[], args := #[x', .chan (some c)] }) := by
  obtain ⟨C, hC⟩ : ∃ C, IsG C := ⟨_, rfl⟩
  have hb : Tryd.f49.body = some C := by rw [hC]; rfl
  refine WV.mv ⟨rfl, rfl⟩ ⟨rfl, rfl⟩ (step_born (P := Tryd.prog) #[x', .chan (some c)] Tryd.func49 (by decide) hb) ?_
  obtain ⟨x, hxe⟩ : ∃ x, x = Value.agg #[.int .i64 (o.length : Nat), .slice a o.length cap] := ⟨_, rfl⟩
  rw [← hxe] at hx
  have ht0 := xr_init (m := 39) hx (VR.chan (Rg Tryd.prog cfs cgs r) (some c))
  have hz : (#[x, Value.chan (some c)] ++ Array.replicate 39 undef).size = 41 := by simp
  have ht1 : (#[x, Value.chan (some c)] ++ Array.replicate 39 undef)[1]? = some (.chan (some c)) := by rw [Array.getElem?_append_left (by simp)]; rfl
  have h0 : (#[x, Value.chan (some c)] ++ Array.replicate 39 undef)[0]? = some x := by rw [Array.getElem?_append_left (by simp)]; rfl
  show Wc r v c (outsL o) (G (fF GO (#[x', .chan (some c)] ++ Array.replicate 39 undef) [.code C] [] .deferred) [bornF Tryd.prog])
  generalize (#[x', Value.chan (some c)] ++ Array.replicate 39 undef) = tm0' at ht0 ⊢
  generalize (#[x, Value.chan (some c)] ++ Array.replicate 39 undef) = tm0 at ht0 hz ht1 h0
  have e := grow_shapeC hC
  rw [e]
  refine gmv (mv_seq _ _) ?_
  refine gpiece (gi_ok hC (by simp)) hg ht0 (Q := fun s w => HB v w ∧ s.tmps = tm0.setIfInBounds 2 (.pointer (some ⟨v.heap.size, 0, none⟩)) ∧ Bxd w v.heap.size #[.int .i64 (o.length : Nat), .slice a o.length cap]) (fun τ => ?_) fun r1 v1 tm1 tm1' hr1 hx1 hq => ?_
  · rw [hC]
    exact grow_r0 _ _ tm0 (tap τ v) (by rw [h0, hxe])
  obtain ⟨hb1, e1, hbox⟩ := hq
  have e1 : tm1 = _ := e1
  have s1 : tm1.size = 41 := by rw [e1]; simpa using hz
  have u1 : tm1[1]? = some (.chan (some c)) := by rw [e1, set_ne (by decide)]; exact ht1
  have u2 : tm1[2]? = some (.pointer (some ⟨v.heap.size, 0, none⟩)) := by rw [e1]; exact set_at (by rw [hz]; decide) _
  have hB1 : FBox v1 v.heap.size o.length a cap (nth o) := by
    refine ⟨?_, ?_, hb1.row hr⟩
    · unfold World.cell?; rw [show v1.heap[v.heap.size]? = _ from hbox]; rfl
    · unfold World.cell?; rw [show v1.heap[v.heap.size]? = _ from hbox]; rfl
  have hg1 : ∀ g ∈ cgs, r1 g g := fun g h => hr1 _ _ (hg g h)
  have hT1 := hb1.tab hT
  have hl1 := Nat.le_trans hlow hb1.1
  clear hbox e1 ht0 hx hT hr hr1 hlow
  refine gmv (mv_seq _ _) ?_
  rw [g1_shape hC]
  refine gmv (mv_region _ _) ?_
  have z1 : (opsOf (atc [1, 0] C)).size = 2 := by
    have := congrArg List.length (g1_ops hC)
    simpa using this
  rw [show List.range (opsOf (atc [1, 0] C)).size = [0, 1] by rw [z1]; rfl]
  obtain ⟨o0, p1, p2, p3, p4⟩ := op_at (g1_ops hC) 0 rfl
  obtain ⟨o1, q1, q2, q3, q4⟩ := op_at (g1_ops hC) 1 rfl
  generalize opsOf (atc [1, 0] C) = ops at p1 q1 ⊢
  refine gval hg1 p1 (by rw [p3]; rfl) p4 hx1 (x := .chan (some c)) (fun τ => by
    unfold execOp
    rw [p3]
    simp only [eval_tmp u1]
    rfl) fun r2 tm2' hr2 hx2 => ?_
  rw [p2] at hx2
  have hx2 : XR (Rg Tryd.prog cfs cgs r2) (tm1.setIfInBounds 11 (.chan (some c))) tm2' := hx2
  have u11 := vr_chan hx2 (set_at (by omega) _)
  have hg2 : ∀ g ∈ cgs, r2 g g := fun g h => hr2 _ _ (hg1 g h)
  refine WV.mv (g' := G (fF GO tm2' (.inRegion ops [] :: [.code (.seq (atc [1, 1, 0] C) (.seq (atc [1, 1, 1, 0] C) (.block 0 (.loop (gbody C)))))]) [clD #[75] o1.type #[false] c] .deferred) [bornF Tryd.prog]) ⟨rfl, rfl⟩ ⟨rfl, rfl⟩ (fun w => ?_) ?_
  · have h := stepG_deferX (P := Tryd.prog) (m := false) (fn := GO) (tm := tm2') (rest := []) (k := [.code (.seq (atc [1, 1, 0] C) (.seq (atc [1, 1, 1, 0] C) (.block 0 (.loop (gbody C)))))]) (D := []) (kd := .deferred) (by decide) (rc := [bornF Tryd.prog]) q1 (by unfold Region.wanted; rw [q4]) (d := clD #[75] o1.type #[false] c) (w := w) (by
      unfold execOp
      rw [q3]
      simp [resolve, eval_tmp u11, clD]) (by
      unfold execOp
      rw [q3]
      rfl)
    rw [h, q2]
    rfl
  refine gmv (mv_done _) ?_
  have s2 : (tm1.setIfInBounds 11 (.chan (some c))).size = 41 := by simp [s1]
  refine gmv (mv_seq _ _) ?_
  refine gpiece (gi_ok hC (by simp)) hg2 hx2 (Q := fun s w => HB v1 w ∧ ∃ c' z, IdealsPost v1.heap.size o.length o.length (fun k => (nth o k : Nat)) (.returned (.tuple #[z, .int .i64 c'])) w ∧ s.tmps[4]? = some z ∧ s.tmps.size = 41 ∧ (∀ i, i ≠ 4 → i ≠ 5 → (i < 12 ∨ 16 < i) → s.tmps[i]? = (tm1.setIfInBounds 11 (.chan (some c)))[i]?)) (fun τ => ?_) fun r3 v3 tm3 tm3' hr3 hx3 hq => ?_
  · rw [hC]
    intro b k cs
    obtain ⟨e, s, w, ⟨h1, h2, c', z, h3, h4, h5, h6, h7⟩, h8⟩ := grow_r2 (tm1.setIfInBounds 11 (.chan (some c))) v.heap.size o.length a cap (nth o) (tap τ v1) s2 (by rw [set_ne (by decide)]; exact u2) (by omega) hB1 b k cs
    exact ⟨e, s, w, ⟨h1, h2, h4, c', z, h3, h5, h6, h7⟩, h8⟩
  obtain ⟨hb3, c', z, hid, u4, s3, e3⟩ := hq
  have u4 : tm3[4]? = some z := u4
  have s3 : tm3.size = 41 := s3
  have e3 : ∀ i, i ≠ 4 → i ≠ 5 → (i < 12 ∨ 16 < i) → tm3[i]? = (tm1.setIfInBounds 11 (.chan (some c)))[i]? := e3
  obtain ⟨c2, z2, hc2, e4, hz⟩ := hid
  have hc0 := Chk.unique hc hc2
  subst hc0
  obtain ⟨rfl, rfl⟩ : z = z2 ∧ c' = 0 := by
    injection e4 with e5
    simp only [Value.tuple.injEq, Array.mk.injEq, List.cons.injEq, Value.int.injEq, true_and, and_true] at e5
    exact ⟨e5.1, e5.2⟩
  rcases hz with ⟨h, _⟩ | ⟨_, ⟨ai, ci, rfl, hrow⟩, _⟩
  · exact absurd rfl h
  have en : (nat fun k => ((nth o k : Nat) : Int)) = nth o := by funext k; simp [nat]
  rw [en] at hrow u4
  have ho : outsL o = ((idls (nth o) o.length).drop 0).map fun d => frmL ((List.range o.length).map (nth o) ++ [d]) := by
    rw [List.drop_zero, range_nth]; rfl
  rw [ho]
  obtain ⟨k1, k2⟩ := idls_lt (g := nth o) hn
  generalize idls (nth o) o.length = L at hrow u4 k1 k2 ⊢
  -- how many
  refine gmv (mv_seq _ _) ?_
  refine gpiece (gi_ok hC (by simp)) (fun g h => hr3 _ _ (hg2 g h)) hx3 (Q := fun s w => HB v3 w ∧ s.tmps = ((tm3.setIfInBounds 17 (.slice ai L.length ci)).setIfInBounds 18 (.int .i64 (L.length : Nat))).setIfInBounds 19 (.int .i64 0)) (fun τ => ?_) fun r4 v4 tm4 tm4' hr4 hx4 hq => ?_
  · rw [hC]; exact grow_r3 tm3 ai L.length ci (tap τ v3) s3 u4
  obtain ⟨hb4, e4⟩ := hq
  have e4 : tm4 = _ := e4
  refine gmv (mv_block _ _) ?_
  refine gmv (mv_loop _) ?_
  have hk := hb3.ce.trans hb4.ce
  refine grow_loop hC (b0 := v.heap.size) (a := a) (cap := cap) (ai := ai) (ci := ci) hn hlt k2 k1 L.length 0 (by omega) r4 v4 tm4 tm4' ⟨hx4, fun g h => hr4 _ _ (hr3 _ _ (hg2 g h)), by rw [e4]; simp [s3], ?_, ?_, ?_, ?_, ?_, hk.box hB1, hb4.row hrow, hk.tab hT1, Nat.le_trans hl1 hk.1⟩
  · rw [e4, set_ne (by decide), set_ne (by decide), set_ne (by decide), e3 1 (by decide) (by decide) (by decide), set_ne (by decide)]; exact u1
  · rw [e4, set_ne (by decide), set_ne (by decide), set_ne (by decide), e3 2 (by decide) (by decide) (by decide), set_ne (by decide)]; exact u2
  · rw [e4, set_ne (by decide), set_ne (by decide)]; exact set_at (by omega) _
  · rw [e4, set_ne (by decide)]; exact set_at (by simp [s3]) _
  · rw [e4]; exact set_at (by simp [s3]) _
end Go.Proofs.YtfbdgdphpdhcpaaDoor
