/-
  One operation from a view, by its value, whatever stands behind it in its region. Condition: Zs.
  growOne, a worker: its whole script. Conditions: the form is an order of five points at most, its row lies in what it is handed; the library's table.
  growOne, a worker: its loop. Conditions: as in GrU.
-/
import Derived.Test.YtfbdgdphpdhcpaaDoorGrV
namespace Go.Proofs.YtfbdgdphpdhcpaaDoor.Sm
open Go Go.Conc

/-- What an operation is done with: a value, or nothing. -/
def Vl (n : Next) (x : Value) : Prop := n = .value x ∨ (n = .skip ∧ x = undef)
section
variable {P : Program} {fs gs : List Nat}
theorem er_rg {r : Nat → Nat → Prop} {tm tm' : Array Value} (D : List Deferred) (h : XR (Rg P fs gs r) tm tm') : ER (Rg P fs gs r) (Act.eval ⟨tm, []⟩) (Act.eval ⟨tm', D⟩) := by
  intro x hx
  cases x with
  | tmp t => exact h.getD t
  | const v => exact hx _
  | global g => exact VR.pointer (a := some _) (a' := some _) ⟨hx.1, rfl, rfl, by rw [hx.2]; exact Nat.le_refl _⟩
  | func f => exact VR.func (f := .func f) (f' := .func f) ⟨rfl, hx⟩ XR.nil XR.nil
theorem xr_put {r : Nat → Nat → Prop} {tm tm' : Array Value} (D : List Deferred) (h : XR (Rg P fs gs r) tm tm') (d : Option Tmp) {x x' : Value} (hx : VR (Rg P fs gs r) x x') : XR (Rg P fs gs r) (Act.put ⟨tm, []⟩ d x).tmps (Act.put ⟨tm', D⟩ d x').tmps := by
  cases d with
  | none => exact h
  | some t => exact h.set t hx
/-- An operation from a view. -/
theorem val_view (hz : Zs P) (hf : fs.all (funcB P fs gs) = true) {r : Nat → Nat → Prop} (hg : ∀ g ∈ gs, r g g) {o : Oper} (hx : opB P fs gs o.op = true) {tm tm' : Array Value} {v v1 w : World} (hw : WR0 (Rg P fs gs r) v w) (ht : XR (Rg P fs gs r) tm tm')
    {nx : Next} {x : Value} (hv : Vl nx x) (hr : ∀ τ, (execOp (Act.eval ⟨tm, []⟩) o).run P (tap τ v) = .ok nx (tap τ v1)) (D : List Deferred) :
    ∃ r' nx' x' w2 es, (execOp (Act.eval ⟨tm', D⟩) o).runT P w #[] = (.ok nx' w2, es) ∧ Vl nx' x' ∧ VR (Rg P fs gs r') x x' ∧ WR0 (Rg P fs gs r') v1 w2 ∧ (∀ b b', r b b' → r' b b') ∧
      (∀ b b', r' b b' → r b b' ∨ (v.heap.size ≤ b ∧ w.heap.size ≤ b')) ∧ ∀ fn, Gd (Seen (Rg P fs gs r)) (Open (Rg P fs gs r) v) (Seen (Rg P fs gs r')) (Open (Rg P fs gs r') v1) w w2 (Go.seen P fn es) := by
  have hgd : Good P (Rg P fs gs r) := rg_good hf hg
  have hop : OkOp P (Rg P fs gs r) o.op := OkOp.imp (R := R0 P fs gs (fun b => r b b)) (fun _ q => q) (fun g q => ⟨q.1.2, rfl⟩) (okop_of hg hx)
  have q := (sr_execOp hz hgd (er_rg D ht) o hop (Rg P fs gs r) (Le.refl _) (tap (syn v w) v) w #[] hw.wr).1
  rw [hr] at q
  obtain ⟨R', n', w', es', e, hn, hgu⟩ := q
  have hn : NR R' nx n' := hn
  have hrg := rg_of hgu.le
  have hgd2 : ∀ fn, Gd (Seen (Rg P fs gs r)) (Open (Rg P fs gs r) v) (Seen (Rg P fs gs R'.rel)) (Open (Rg P fs gs R'.rel) v1) w w' (Go.seen P fn es') := fun fn => by
    have h1 := (hgu.seenE (P := P) fn).gd
    rw [← hrg]
    exact h1
  have key : ∃ x', Vl n' x' ∧ VR R' x x' := by
    rcases hv with rfl | ⟨rfl, rfl⟩
    · cases n' with
      | value x' => exact ⟨x', .inl rfl, hn⟩
      | _ => exact hn.elim
    · cases n' with
      | skip => exact ⟨undef, .inr ⟨rfl, rfl⟩, VR.tuple XR.nil⟩
      | _ => exact hn.elim
  obtain ⟨x', hv', hvr⟩ := key
  refine ⟨R'.rel, n', x', w', es', by rw [e, Array.empty_append], hv', by rw [← hrg]; exact hvr, by rw [← hrg]; exact hgu.wr.zero.heap (v' := v1) rfl, hgu.le.1, hgu.new, hgd2⟩
theorem step_vl {m : Bool} {fn : FuncId} {ops : Array Oper} {i : Nat} {rest : List Nat} {o : Oper} {tm : Array Value} {k : List Item} {D : List Deferred} {kd : CallKind} (hkd : kd ≠ .early) {rc : List Frame} (ho : ops[i]? = some o) (hwt : Region.wanted o (yielded ops tm) = true)
    {nx : Next} {x : Value} (hv : Vl nx x) {w w2 : World} {es : Array Event} (hr : (execOp (Act.eval ⟨tm, D⟩) o).runT P w #[] = (.ok nx w2, es)) :
    stepG P m (G (fF fn tm (.inRegion ops (i :: rest) :: k) D kd) rc) w = .go (G (fF fn (Act.put ⟨tm, D⟩ o.dst x).tmps (.inRegion ops rest :: k) D kd) rc) w2 (Go.seen P fn es) := by
  have h1 : (execOp (Act.eval ⟨tm, D⟩) o).run P w = .ok nx w2 := by rw [← run_runT, hr]
  have h2 : listed P (fF fn tm [] D kd).fn ⟨tm, D⟩ o w = Go.seen P fn es := by
    unfold listed Sem.events
    rw [hr]
    rfl
  have e : (fF fn tm [] D kd).at (Act.put ⟨tm, D⟩ o.dst x) (.inRegion ops rest :: k) = fF fn (Act.put ⟨tm, D⟩ o.dst x).tmps (.inRegion ops rest :: k) D kd := by
    cases o.dst <;> rfl
  rcases hv with rfl | ⟨rfl, rfl⟩
  · have h := stepG_value (P := P) (main := m) (b := fF fn tm [] D kd) (a := ⟨tm, D⟩) (k := k) (cs := rc) (w := w) (rest := rest) ho hwt hkd h1
    rw [h2, e] at h
    exact h
  · have h := stepG_none (P := P) (main := m) (b := fF fn tm [] D kd) (a := ⟨tm, D⟩) (k := k) (cs := rc) (w := w) (rest := rest) ho hwt hkd h1
    rw [h2, e] at h
    exact h
end
section
variable {μ : Type} {P : Program} {fs gs : List Nat} {Msg : World → (Nat → Prop) → Value → μ → Prop} {Fin : Value → World → Prop} {K : World} {r : Nat → Nat → Prop} {v : World} {ch : Nat → Option (List μ)} {X : Option Nat} {c : Nat} {out : List μ}
theorem WV.val (hz : Zs P) (hf : fs.all (funcB P fs gs) = true) (hg : ∀ g ∈ gs, r g g) {fn : FuncId} {ops : Array Oper} {i : Nat} {rest : List Nat} {o : Oper} {tm tm' : Array Value} {v1 : World} {k : List Item} {D : List Deferred} {kd : CallKind} (hkd : kd ≠ .early) {rc : List Frame}
    (ho : ops[i]? = some o) (hx : opB P fs gs o.op = true) (hwt : Region.wanted o (yielded ops tm) = true) (ht : XR (Rg P fs gs r) tm tm')
    {nx : Next} {x : Value} (hv : Vl nx x) (hr : ∀ τ, (execOp (Act.eval ⟨tm, []⟩) o).run P (tap τ v) = .ok nx (tap τ v1))
    (hn : ∀ r' tm1', (∀ b b', r b b' → r' b b') → XR (Rg P fs gs r') (Act.put ⟨tm, []⟩ o.dst x).tmps tm1' → WV P fs gs Msg r' v1 c out (G (fF fn tm1' (.inRegion ops rest :: k) D kd) rc)) : WV P fs gs Msg r v c out (G (fF fn tm' (.inRegion ops (i :: rest) :: k) D kd) rc) := fun _ _ _ hw =>
  WS.step rfl rfl rfl fun w1 hry => by
    obtain ⟨r', nx', x', w2, es, h1, h2, h3, h4, h5, _, h6⟩ := val_view hz hf hg hx (hw.rely hry) ht hv hr D
    exact ⟨_, w2, _, _, _, step_vl hkd ho (by rw [ht.yields]; exact hwt) h2 h1, h6 fn, ⟨rfl, rfl⟩, hn r' _ h5 (xr_put D (ht.mono (rg_le h5)) o.dst h3) w2 _ _ h4⟩
theorem MV.val (hz : Zs P) (hf : fs.all (funcB P fs gs) = true) (hg : ∀ g ∈ gs, r g g) {fn : FuncId} {ops : Array Oper} {i : Nat} {rest : List Nat} {o : Oper} {tm tm' : Array Value} {v1 : World} {k : List Item} {D : List Deferred} {kd : CallKind} (hkd : kd ≠ .early) {rc : List Frame}
    (ho : ops[i]? = some o) (hx : opB P fs gs o.op = true) (hwt : Region.wanted o (yielded ops tm) = true) (ht : XR (Rg P fs gs r) tm tm')
    {nx : Next} {x : Value} (hv : Vl nx x) (hr : ∀ τ, (execOp (Act.eval ⟨tm, []⟩) o).run P (tap τ v) = .ok nx (tap τ v1))
    (hn : ∀ r' tm1', (∀ b b', r b b' → r' b b') → XR (Rg P fs gs r') (Act.put ⟨tm, []⟩ o.dst x).tmps tm1' → MV P fs gs Msg Fin K r' v1 ch X (G (fF fn tm1' (.inRegion ops rest :: k) D kd) rc)) : MV P fs gs Msg Fin K r v ch X (G (fF fn tm' (.inRegion ops (i :: rest) :: k) D kd) rc) := fun w hk hop hw hc hX =>
  MS.step rfl fun w1 hry => by
    have hw1 := hw.rely (ry_x hry)
    have hk1 := ry_k hk hry
    have hX1 := x_rely hry hX
    obtain ⟨r', nx', x', w2, es, h1, h2, h3, h4, h5, h7, h6⟩ := val_view hz hf hg hx hw1 ht hv hr D
    have h6 := h6 fn
    refine ⟨_, w2, _, _, _, step_vl hkd ho (by rw [ht.yields]; exact hwt) h2 h1, ⟨h6.size, fun b hb hnb => h6.kept b hb fun z => hnb (.inl z), h6.os, fun b hb => ?_, fun b hb => ?_, mv_sub, fun e he => (h6.evs e he).mono (fun _ => .inl) (fun _ => .inl)⟩,
      hn r' _ h5 (xr_put D (ht.mono (rg_le h5)) o.dst h3) w2 (hk1.gd h6 hop) (newW_kp hk1 h6 hop) h4 (fun c q => Nat.lt_of_lt_of_le (hc c q) (Nat.le_trans hry.1 h6.size)) fun c e => ?_⟩
    · rcases hb with hb | hb
      · exact (h6.newO b hb).imp .inl id
      · exact .inl (.inr hb)
    · rcases hb with hb | hb
      · exact (h6.newW b hb).imp .inl id
      · exact .inl (.inr hb)
    · obtain ⟨q0, q1, q2, q3⟩ := hX1 c e
      have hlt : c < w1.heap.size := (Array.getElem?_eq_some_iff.1 q1).1
      refine ⟨q0, (h6.kept c hlt fun z => q2 (open_seen z)).trans q1, fun ⟨b, hb⟩ => ?_, q3⟩
      rcases h7 b c hb with z | z
      · exact q2 ⟨b, z⟩
      · omega
end
end Go.Proofs.YtfbdgdphpdhcpaaDoor.Sm
namespace Go.Proofs.YtfbdgdphpdhcpaaDoor
open Go Go.Conc Go.RowKit Sm
set_option maxRecDepth 100000

abbrev GO : FuncId := 49
abbrev Wc (r : Nat → Nat → Prop) (v : World) (c : Nat) (out : List (List Nat)) (g : Goroutine) : Prop := WV Tryd.prog cfs cgs OMsg r v c out g
section
variable {r : Nat → Nat → Prop} {v : World} {c : Nat} {out : List (List Nat)} {k : List Item} {D : List Deferred} {rc : List Frame}
theorem gmv {f f' : Frame} (h : Mv Tryd.prog false f f') (hn : Wc r v c out (G f' rc)) : Wc r v c out (G f rc) := WV.mv ⟨rfl, rfl⟩ ⟨rfl, rfl⟩ (h rc) hn
theorem gpiece {cd : Code} (hB : itemB Tryd.prog cfs cgs (.code cd) = true) (hg : ∀ g ∈ cgs, r g g) {tm tm' : Array Value} (ht : XR (Rg Tryd.prog cfs cgs r) tm tm') {Q : Act → World → Prop}
    (H : ∀ τ, cd.wp Tryd.prog (fun e a w => e = .normal ∧ a.defers = [] ∧ Q a w) ⟨tm, []⟩ (tap τ v)) (hn : ∀ r' v1 tm1 tm1', (∀ b b', r b b' → r' b b') → XR (Rg Tryd.prog cfs cgs r') tm1 tm1' → Q ⟨tm1, []⟩ v1 → Wc r' v1 c out (G (fF GO tm1' k D .deferred) rc)) :
    Wc r v c out (G (fF GO tm' (.code cd :: k) D .deferred) rc) :=
  WV.piece tryd_zs cfs_ok hg ⟨_, Tryd.func49⟩ hB ht (Q := fun a w => a.defers = [] ∧ Q a w) (fun τ => piece_of_wp (by
    have h := H τ
    intro b k cs
    obtain ⟨e, a, w, ⟨h1, h2, h3⟩, h4⟩ := h b k cs
    exact ⟨e, a, w, ⟨h1, h2, h2, h3⟩, h4⟩)) (by decide) fun r' v1 a x' hr hx hq => by
    obtain ⟨tm1, D1⟩ := a
    have hd : D1 = [] := hq.1
    subst hd
    exact hn r' v1 tm1 x' hr hx hq.2
theorem gval (hg : ∀ g ∈ cgs, r g g) {ops : Array Oper} {i : Nat} {rest : List Nat} {o : Oper} {tm tm' : Array Value} (ho : ops[i]? = some o) (hx : opB Tryd.prog cfs cgs o.op = true) (hgd : o.guard = none) (ht : XR (Rg Tryd.prog cfs cgs r) tm tm')
    {x : Value} (hr : ∀ τ, (execOp (Act.eval ⟨tm, []⟩) o).run Tryd.prog (tap τ v) = .ok (.value x) (tap τ v))
    (hn : ∀ r' tm1', (∀ b b', r b b' → r' b b') → XR (Rg Tryd.prog cfs cgs r') (Act.put ⟨tm, []⟩ o.dst x).tmps tm1' → Wc r' v c out (G (fF GO tm1' (.inRegion ops rest :: k) D .deferred) rc)) : Wc r v c out (G (fF GO tm' (.inRegion ops (i :: rest) :: k) D .deferred) rc) :=
  WV.val tryd_zs cfs_ok hg (by decide) ho hx (by unfold Region.wanted; rw [hgd]) ht (.inl rfl) hr hn
end
theorem vr_order {R : Ren} {m : Int} {bl l q : Nat} {x' : Value} (h : VR R (.agg #[.int .i64 m, .slice (some ⟨bl, 0, none⟩) l q]) x') : ∃ bl', x' = .agg #[.int .i64 m, .slice (some ⟨bl', 0, none⟩) l q] ∧ R.rel bl bl' := by
  obtain ⟨c', rfl, hs, hx⟩ := h.out
  have e0 : c'[0]? = some (.int .i64 m) := by
    have hlt : 0 < c'.size := by rw [hs]; simp
    have h1 := (hx 0 _ _ rfl (Array.getElem?_eq_getElem hlt)).out
    rw [Array.getElem?_eq_getElem hlt]; exact congrArg some h1
  have hlt : 1 < c'.size := by rw [hs]; simp
  obtain ⟨a', e1, ha⟩ := (hx 1 _ _ rfl (Array.getElem?_eq_getElem hlt)).out
  cases a' with
  | none => exact ha.elim
  | some a' =>
    obtain ⟨b', off', sp'⟩ := a'
    have h1 : off' = 0 := ha.2.1
    have h2 : sp' = none := ha.2.2.1
    subst h1 h2
    refine ⟨b', ?_, ha.1⟩
    congr 1
    refine Array.ext (by rw [hs]; rfl) fun i hi hi2 => ?_
    match i, hi with
    | 0, hi => rw [Array.getElem?_eq_getElem hi] at e0; exact Option.some.inj e0
    | 1, hi => exact e1
    | i + 2, hi => rw [hs] at hi; simp at hi; omega
end Go.Proofs.YtfbdgdphpdhcpaaDoor
namespace Go.Proofs.YtfbdgdphpdhcpaaDoor
open Go Go.Conc Go.RowKit Sm
set_option maxRecDepth 100000

/-- growOne's code. -/
def IsG (C : Code) : Prop := C = Tryd.f49.body.getD .skip
theorem gi_item : ([[0], [1, 1, 0], [1, 1, 1, 0], [1, 1, 1, 1, 2, 2, 0], [1, 1, 1, 1, 2, 2, 1, 1, 0, 2, 0], [1, 1, 1, 1, 2, 2, 1, 1, 0, 2, 1, 0], [1, 1, 1, 1, 2, 2, 1, 1, 0, 2, 1, 1, 0], [1, 1, 1, 1, 2, 2, 1, 1, 1]].all fun l => itemB Tryd.prog cfs cgs (.code (atc l (Tryd.f49.body.getD .skip)))) = true := by kernel_rfl
theorem gi_ok {C : Code} (hC : IsG C) {l : List Nat} (h : l ∈ [[0], [1, 1, 0], [1, 1, 1, 0], [1, 1, 1, 1, 2, 2, 0], [1, 1, 1, 1, 2, 2, 1, 1, 0, 2, 0], [1, 1, 1, 1, 2, 2, 1, 1, 0, 2, 1, 0], [1, 1, 1, 1, 2, 2, 1, 1, 0, 2, 1, 1, 0], [1, 1, 1, 1, 2, 2, 1, 1, 1]]) : itemB Tryd.prog cfs cgs (.code (atc l C)) = true := by
  rw [hC]
  exact List.all_eq_true.1 gi_item l h
/-- Region 8: the send. -/
def opsOf : Code → Array Oper
  | .region _ ops _ => ops
  | _ => #[]
theorem g8_shape {C : Code} (hC : IsG C) : atc [1, 1, 1, 1, 2, 2, 1, 1, 0, 2, 1, 1, 1] C = .region 8 (opsOf (atc [1, 1, 1, 1, 2, 2, 1, 1, 0, 2, 1, 1, 1] C)) false := by
  rw [hC]
  kernel_rfl
theorem g8_ops {C : Code} (hC : IsG C) : ((opsOf (atc [1, 1, 1, 1, 2, 2, 1, 1, 0, 2, 1, 1, 1] C)).map fun o => (o.dst, o.op, o.guard)).toList = [(some 38, .move (.tmp 1), none), (some 39, .load 24 (.tmp 9), none), (none, .send (.tmp 38) (.tmp 39), none)] := by
  rw [hC]
  kernel_rfl
theorem op_at {ops : Array Oper} {l : List (Option Tmp × Op × Option (Nat × Bool))} (h : (ops.map fun o => (o.dst, o.op, o.guard)).toList = l) (i : Nat) {d : Option Tmp} {op : Op} {g : Option (Nat × Bool)} (hi : l[i]? = some (d, op, g)) : ∃ o, ops[i]? = some o ∧ o.dst = d ∧ o.op = op ∧ o.guard = g := by
  subst h
  simp only [Array.toList_map, List.getElem?_map, Array.getElem?_toList, Option.map_eq_some_iff, Prod.mk.injEq] at hi
  obtain ⟨o, h1, h2, h3, h4⟩ := hi
  exact ⟨o, h1, h2, h3, h4⟩
theorem g8_size {C : Code} (hC : IsG C) : (opsOf (atc [1, 1, 1, 1, 2, 2, 1, 1, 0, 2, 1, 1, 1] C)).size = 3 := by
  have := congrArg List.length (g8_ops hC)
  simpa using this
/-- What the loop is entered with. -/
structure GI (r : Nat → Nat → Prop) (v : World) (tm tm' : Array Value) (c b0 n cap : Nat) (a : Option Addr) (g : Nat → Nat) (L : List Nat) (ai : Option Addr) (ci i : Nat) : Prop where
  xr : XR (Rg Tryd.prog cfs cgs r) tm tm'
  rg : ∀ g ∈ cgs, r g g
  sz : tm.size = 41
  t1 : tm[1]? = some (.chan (some c))
  t2 : tm[2]? = some (.pointer (some ⟨b0, 0, none⟩))
  t17 : tm[17]? = some (.slice ai L.length ci)
  t18 : tm[18]? = some (.int .i64 (L.length : Nat))
  t19 : tm[19]? = some (.int .i64 (i : Nat))
  box : FBox v b0 n a cap g
  row : Row v ai L.length (fun k => (nth L k : Nat))
  tab : Tab v
  low : Tryd.prog.globals.size ≤ v.heap.size
abbrev gbody (C : Code) : Code := .seq (atc [1, 1, 1, 1, 2, 2, 0] C) (.seq (.cond (.tmp 20) .skip (.exit 0)) (.seq (.block 1 (atc [1, 1, 1, 1, 2, 2, 1, 1, 0, 2] C)) (atc [1, 1, 1, 1, 2, 2, 1, 1, 1] C)))
theorem set_at {x : Array Value} {i : Nat} (h : i < x.size) (u : Value) : (x.setIfInBounds i u)[i]? = some u := by rw [Array.getElem?_setIfInBounds_self_of_lt h]
theorem set_ne {x : Array Value} {i j : Nat} (h : i ≠ j) (u : Value) : (x.setIfInBounds i u)[j]? = x[j]? := Array.getElem?_setIfInBounds_ne h
theorem vr_bool {R : Ren} {x x' : Array Value} (h : XR R x x') {i : Nat} {b : Bool} (hi : x[i]? = some (.bool b)) : x'[i]? = some (.bool b) := by
  obtain ⟨v', e, hv⟩ := h.at hi
  rw [e]
  exact congrArg some hv.out
theorem vr_chan {R : Ren} {x x' : Array Value} (h : XR R x x') {i : Nat} {c : Option Nat} (hi : x[i]? = some (.chan c)) : x'[i]? = some (.chan c) := by
  obtain ⟨v', e, hv⟩ := h.at hi
  obtain ⟨a', rfl, rfl⟩ := hv.out
  exact e
theorem eval_tmp {x : Array Value} {D : List Deferred} {i : Nat} {u : Value} (h : x[i]? = some u) : Act.eval ⟨x, D⟩ (.tmp i) = u := by
  show x.getD i undef = u
  rw [Array.getD_eq_getD_getElem?, h]; rfl
section
variable {c n cap : Nat} {a : Option Addr} {g : Nat → Nat} {L : List Nat} {ai : Option Addr} {ci : Nat} {D : List Deferred} {rc : List Frame}
/-- The send: what goes over is the order that lies in box b9. -/
theorem grow_send {C : Code} (hC : IsG C) {r : Nat → Nat → Prop} {v : World} {tm tm' : Array Value} {bl b9 : Nat} {o : List Nat} {out : List (List Nat)} {k : List Item} (hx : XR (Rg Tryd.prog cfs cgs r) tm tm') (hg : ∀ g ∈ cgs, r g g) (hs : tm.size = 41) (t1 : tm[1]? = some (.chan (some c))) (t9 : tm[9]? = some (.pointer (some ⟨b9, 0, none⟩)))
    (hb' : v.heap[bl]? = some (.cells (rowC o) 3 (0, 0))) (h9 : v.heap[b9]? = some (.cells #[.int .i64 (o.length : Nat), .slice (some ⟨bl, 0, none⟩) o.length o.length] 24 (0, 0))) (ho : 0 < o.length) (hlow : Tryd.prog.globals.size ≤ bl)
    (hn : ∀ r' v' tm1 tm1', (∀ b b', r b b' → r' b b') → CE v v' → XR (Rg Tryd.prog cfs cgs r') tm1 tm1' → tm1.size = 41 → (∀ i, i ≠ 38 → i ≠ 39 → tm1[i]? = tm[i]?) → Wc r' v' c out (G (fF GO tm1' k D .deferred) rc)) :
    Wc r v c (o :: out) (G (fF GO tm' (.code (atc [1, 1, 1, 1, 2, 2, 1, 1, 0, 2, 1, 1, 1] C) :: k) D .deferred) rc) := by
  rw [g8_shape hC]
  refine gmv (mv_region _ _) ?_
  rw [show List.range (opsOf (atc [1, 1, 1, 1, 2, 2, 1, 1, 0, 2, 1, 1, 1] C)).size = [0, 1, 2] by rw [g8_size hC]; rfl]
  obtain ⟨o0, p1, p2, p3, p4⟩ := op_at (g8_ops hC) 0 rfl
  obtain ⟨o1, q1, q2, q3, q4⟩ := op_at (g8_ops hC) 1 rfl
  obtain ⟨o2, s1, s2, s3, s4⟩ := op_at (g8_ops hC) 2 rfl
  generalize opsOf (atc [1, 1, 1, 1, 2, 2, 1, 1, 0, 2, 1, 1, 1] C) = ops at p1 q1 s1 ⊢
  refine gval hg p1 (by rw [p3]; rfl) p4 hx (x := .chan (some c)) (fun τ => by
    unfold execOp
    rw [p3]
    simp only [eval_tmp t1]
    rfl) fun r1 tm1' hr1 hx1 => ?_
  rw [p2] at hx1
  have hg1 : ∀ g ∈ cgs, r1 g g := fun g h => hr1 _ _ (hg g h)
  have hx1 : XR (Rg Tryd.prog cfs cgs r1) (tm.setIfInBounds 38 (.chan (some c))) tm1' := hx1
  have t9' : (tm.setIfInBounds 38 (.chan (some c)))[9]? = some (.pointer (some ⟨b9, 0, none⟩)) := by rw [set_ne (by decide)]; exact t9
  refine gval hg1 q1 (by rw [q3]; rfl) q4 hx1 (x := .agg #[.int .i64 (o.length : Nat), .slice (some ⟨bl, 0, none⟩) o.length o.length]) (fun τ => by
    unfold execOp
    rw [q3]
    simp only [eval_tmp t9']
    have c0 : (tap τ v).cell? ⟨b9, 0, none⟩ = some (.int .i64 (o.length : Nat)) := by unfold World.cell?; rw [show (tap τ v).heap = v.heap from rfl, h9]; rfl
    have c1 : (tap τ v).cell? ⟨b9, 1, none⟩ = some (.slice (some ⟨bl, 0, none⟩) o.length o.length) := by unfold World.cell?; rw [show (tap τ v).heap = v.heap from rfl, h9]; rfl
    go_simp) fun r2 tm2' hr2 hx2 => ?_
  rw [q2] at hx2
  have hx2 : XR (Rg Tryd.prog cfs cgs r2) ((tm.setIfInBounds 38 (.chan (some c))).setIfInBounds 39 (.agg #[.int .i64 (o.length : Nat), .slice (some ⟨bl, 0, none⟩) o.length o.length])) tm2' := hx2
  have e38 : ((tm.setIfInBounds 38 (.chan (some c))).setIfInBounds 39 (.agg #[.int .i64 (o.length : Nat), .slice (some ⟨bl, 0, none⟩) o.length o.length]))[38]? = some (.chan (some c)) := by rw [set_ne (by decide), set_at (by omega)]
  have e39 : ((tm.setIfInBounds 38 (.chan (some c))).setIfInBounds 39 (.agg #[.int .i64 (o.length : Nat), .slice (some ⟨bl, 0, none⟩) o.length o.length]))[39]? = some (.agg #[.int .i64 (o.length : Nat), .slice (some ⟨bl, 0, none⟩) o.length o.length]) := set_at (by simp; omega) _
  have u38 := vr_chan hx2 e38
  obtain ⟨x', u39, hvx⟩ := hx2.at e39
  obtain ⟨bl', rfl, hrel⟩ := vr_order hvx
  have hrel : r2 bl bl' := hrel
  have hz : ¬ Sm.Shut (Obj.cells (rowC o) 3 (0, 0)) := fun q => by
    have := (q 0 (by simp [rowC, natVals]; omega)).2
    omega
  refine WV.send (by decide) s1 (by unfold Region.wanted; rw [s4]) (x' := .agg #[.int .i64 (o.length : Nat), .slice (some ⟨bl', 0, none⟩) o.length o.length]) (z := .tuple #[]) (fun w => by
    unfold execOp
    rw [s3]
    simp only [eval_tmp u38, eval_tmp u39]
    rfl) (fun w => by
    unfold execOp
    rw [s3]
    rfl) (v2 := Sm.fz (fun b => b == bl) v) (fun w hw => hw.fz _) (fun w hw => ⟨fun b => b = bl', fun b hb => ?_, fun b hb => ?_, fun w1 hw1 => ?_⟩) ?_
  · subst hb
    exact ⟨bl, _, hrel, hb', hz⟩
  · obtain ⟨b0, o0, h1, h2, h3, h4⟩ := open_fz hb
    refine ⟨⟨b0, o0, h1, h2, h3⟩, fun e => ?_⟩
    subst e
    have e0 : b0 = bl := hw.inj _ _ _ h1 hrel
    subst e0
    have h5 := h4 (by simp)
    rw [hb'] at h2
    cases h2
    cases h5
  · obtain ⟨o', h1, h2⟩ := hw1.obj _ _ _ hrel hb'
    cases o' with
    | cells c' e' fr' =>
      obtain ⟨rfl, h3, h4⟩ := h2
      refine ⟨bl', c', fr', fun b => Iff.rfl, rfl, h1, fun j hj => ?_, ?_⟩
      · refine XL.same h3 (Nat.zero_le _) ?_
        simp [rowC, natVals, nth, hj]
      · rcases Nat.lt_or_ge bl' Tryd.prog.globals.size with q | q
        · have := hw1.same _ _ hrel (.inr q)
          omega
        · exact q
    | _ => exact h2.elim
  · have e : (Act.put ⟨tm2', D⟩ o2.dst undef).tmps = tm2' := by rw [s2]; rfl
    rw [e]
    refine gmv (mv_done _) ?_
    exact hn r2 _ _ _ (fun b b' q => hr2 _ _ (hr1 _ _ q)) (ce_fz _ _) hx2 (by simp [hs]) fun i h1 h2 => by rw [set_ne (fun e => h2 e.symm), set_ne (fun e => h1 e.symm)]
end
end Go.Proofs.YtfbdgdphpdhcpaaDoor
