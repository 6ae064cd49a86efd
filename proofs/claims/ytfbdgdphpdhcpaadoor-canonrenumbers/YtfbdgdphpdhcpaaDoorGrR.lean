/-
  One operation from a view, by its value, whatever stands behind it in its region. Condition: Zs.
  growOne, a worker: its whole script. Conditions: the form is an order of five points at most, its row lies in what it is handed; the library's table.
  growOne, a worker: its loop. Conditions: as in GrU.
  growOne, a worker: its loop, and its whole script. Conditions: as in GrU.
-/
import Derived.Test.YtfbdgdphpdhcpaaDoorGrV
namespace Go.Proofs.YtfbdgdphpdhcpaaDoor.Sm
open Go Go.Conc

/-- What an operation is done with: a value, or nothing. -/
def Vl (n : Next) (x : Value) : Prop := n = .value x ∨ (n = .skip ∧ x = undef)
section
variable {P : Program} {fs gs : List Nat}
theorem er_rg {r : Nat → Nat → Prop} {tm tm' : Array Value} (D : List Deferred) (h : XR (Rg P fs gs r) tm tm') : ER (Rg P fs gs r) (Act.eval ⟨tm, []⟩) (Act.eval ⟨tm', D⟩) := by
  intro x hx
  cases x with
  | tmp t => exact h.getD t
  | const v => exact hx _
  | global g => exact VR.pointer (a := some _) (a' := some _) ⟨hx.1, rfl, rfl, by rw [hx.2]; exact Nat.le_refl _⟩
  | func f => exact VR.func (f := .func f) (f' := .func f) ⟨rfl, hx⟩ XR.nil XR.nil
theorem xr_put {r : Nat → Nat → Prop} {tm tm' : Array Value} (D : List Deferred) (h : XR (Rg P fs gs r) tm tm') (d : Option Tmp) {x x' : Value} (hx : VR (Rg P fs gs r) x x') : XR (Rg P fs gs r) (Act.put ⟨tm, []⟩ d x).tmps (Act.put ⟨tm', D⟩ d x').tmps := by
  cases d with
  | none => exact h
  | some t => exact h.set t hx
/-- An operation from a view. -/
theorem val_view (hz : Zs P) (hf : fs.all (funcB P fs gs) = true) {r : Nat → Nat → Prop} (hg : ∀ g ∈ gs, r g g) {o : Oper} (hx : opB P fs gs o.op = true) {tm tm' : Array Value} {v v1 w : World} (hw : WR0 (Rg P fs gs r) v w) (ht : XR (Rg P fs gs r) tm tm')
    {nx : Next} {x : Value} (hv : Vl nx x) (hr : ∀ τ, (execOp (Act.eval ⟨tm, []⟩) o).run P (tap τ v) = .ok nx (tap τ v1)) (D : List Deferred) :
    ∃ r' nx' x' w2 es, (execOp (Act.eval ⟨tm', D⟩) o).runT P w #[] = (.ok nx' w2, es) ∧ Vl nx' x' ∧ VR (Rg P fs gs r') x x' ∧ WR0 (Rg P fs gs r') v1 w2 ∧ (∀ b b', r b b' → r' b b') ∧
      (∀ b b', r' b b' → r b b' ∨ (v.heap.size ≤ b ∧ w.heap.size ≤ b')) ∧ ∀ fn, Gd (Seen (Rg P fs gs r)) (Open (Rg P fs gs r) v) (Seen (Rg P fs gs r')) (Open (Rg P fs gs r') v1) w w2 (Go.seen P fn es) := by
  have hgd : Good P (Rg P fs gs r) := rg_good hf hg
  have hop : OkOp P (Rg P fs gs r) o.op := OkOp.imp (R := R0 P fs gs (fun b => r b b)) (fun _ q => q) (fun g q => ⟨q.1.2, rfl⟩) (okop_of hg hx)
  have q := (sr_execOp hz hgd (er_rg D ht) o hop (Rg P fs gs r) (Le.refl _) (tap (syn v w) v) w #[] hw.wr).1
  rw [hr] at q
  obtain ⟨R', n', w', es', e, hn, hgu⟩ := q
  have hn : NR R' nx n' := hn
  have hrg := rg_of hgu.le
  have hgd2 : ∀ fn, Gd (Seen (Rg P fs gs r)) (Open (Rg P fs gs r) v) (Seen (Rg P fs gs R'.rel)) (Open (Rg P fs gs R'.rel) v1) w w' (Go.seen P fn es') := fun fn => by
    have h1 := (hgu.seenE (P := P) fn).gd
    rw [← hrg]
    exact h1
  have key : ∃ x', Vl n' x' ∧ VR R' x x' := by
    rcases hv with rfl | ⟨rfl, rfl⟩
    · cases n' with
      | value x' => exact ⟨x', .inl rfl, hn⟩
      | _ => exact hn.elim
    · cases n' with
      | skip => exact ⟨undef, .inr ⟨rfl, rfl⟩, VR.tuple XR.nil⟩
      | _ => exact hn.elim
  obtain ⟨x', hv', hvr⟩ := key
  refine ⟨R'.rel, n', x', w', es', by rw [e, Array.empty_append], hv', by rw [← hrg]; exact hvr, by rw [← hrg]; exact hgu.wr.zero.heap (v' := v1) rfl, hgu.le.1, hgu.new, hgd2⟩
theorem step_vl {m : Bool} {fn : FuncId} {ops : Array Oper} {i : Nat} {rest : List Nat} {o : Oper} {tm : Array Value} {k : List Item} {D : List Deferred} {kd : CallKind} (hkd : kd ≠ .early) {rc : List Frame} (ho : ops[i]? = some o) (hwt : Region.wanted o (yielded ops tm) = true)
    {nx : Next} {x : Value} (hv : Vl nx x) {w w2 : World} {es : Array Event} (hr : (execOp (Act.eval ⟨tm, D⟩) o).runT P w #[] = (.ok nx w2, es)) :
    stepG P m (G (fF fn tm (.inRegion ops (i :: rest) :: k) D kd) rc) w = .go (G (fF fn (Act.put ⟨tm, D⟩ o.dst x).tmps (.inRegion ops rest :: k) D kd) rc) w2 (Go.seen P fn es) := by
  have h1 : (execOp (Act.eval ⟨tm, D⟩) o).run P w = .ok nx w2 := by rw [← run_runT, hr]
  have h2 : listed P (fF fn tm [] D kd).fn ⟨tm, D⟩ o w = Go.seen P fn es := by
    unfold listed Sem.events
    rw [hr]
    rfl
  have e : (fF fn tm [] D kd).at (Act.put ⟨tm, D⟩ o.dst x) (.inRegion ops rest :: k) = fF fn (Act.put ⟨tm, D⟩ o.dst x).tmps (.inRegion ops rest :: k) D kd := by
    cases o.dst <;> rfl
  rcases hv with rfl | ⟨rfl, rfl⟩
  · have h := stepG_value (P := P) (main := m) (b := fF fn tm [] D kd) (a := ⟨tm, D⟩) (k := k) (cs := rc) (w := w) (rest := rest) ho hwt hkd h1
    rw [h2, e] at h
    exact h
  · have h := stepG_none (P := P) (main := m) (b := fF fn tm [] D kd) (a := ⟨tm, D⟩) (k := k) (cs := rc) (w := w) (rest := rest) ho hwt hkd h1
    rw [h2, e] at h
    exact h
end
section
variable {μ : Type} {P : Program} {fs gs : List Nat} {Msg : World → (Nat → Prop) → Value → μ → Prop} {Fin : Value → World → Prop} {K : World} {r : Nat → Nat → Prop} {v : World} {ch : Nat → Option (List μ)} {X : Option Nat} {c : Nat} {out : List μ}
theorem WV.val (hz : Zs P) (hf : fs.all (funcB P fs gs) = true) (hg : ∀ g ∈ gs, r g g) {fn : FuncId} {ops : Array Oper} {i : Nat} {rest : List Nat} {o : Oper} {tm tm' : Array Value} {v1 : World} {k : List Item} {D : List Deferred} {kd : CallKind} (hkd : kd ≠ .early) {rc : List Frame}
    (ho : ops[i]? = some o) (hx : opB P fs gs o.op = true) (hwt : Region.wanted o (yielded ops tm) = true) (ht : XR (Rg P fs gs r) tm tm')
    {nx : Next} {x : Value} (hv : Vl nx x) (hr : ∀ τ, (execOp (Act.eval ⟨tm, []⟩) o).run P (tap τ v) = .ok nx (tap τ v1))
    (hn : ∀ r' tm1', (∀ b b', r b b' → r' b b') → XR (Rg P fs gs r') (Act.put ⟨tm, []⟩ o.dst x).tmps tm1' → WV P fs gs Msg r' v1 c out (G (fF fn tm1' (.inRegion ops rest :: k) D kd) rc)) : WV P fs gs Msg r v c out (G (fF fn tm' (.inRegion ops (i :: rest) :: k) D kd) rc) := fun _ _ _ hw =>
  WS.step rfl rfl rfl fun w1 hry => by
    obtain ⟨r', nx', x', w2, es, h1, h2, h3, h4, h5, _, h6⟩ := val_view hz hf hg hx (hw.rely hry) ht hv hr D
    exact ⟨_, w2, _, _, _, step_vl hkd ho (by rw [ht.yields]; exact hwt) h2 h1, h6 fn, ⟨rfl, rfl⟩, hn r' _ h5 (xr_put D (ht.mono (rg_le h5)) o.dst h3) w2 _ _ h4⟩
theorem MV.val (hz : Zs P) (hf : fs.all (funcB P fs gs) = true) (hg : ∀ g ∈ gs, r g g) {fn : FuncId} {ops : Array Oper} {i : Nat} {rest : List Nat} {o : Oper} {tm tm' : Array Value} {v1 : World} {k : List Item} {D : List Deferred} {kd : CallKind} (hkd : kd ≠ .early) {rc : List Frame}
    (ho : ops[i]? = some o) (hx : opB P fs gs o.op = true) (hwt : Region.wanted o (yielded ops tm) = true) (ht : XR (Rg P fs gs r) tm tm')
    {nx : Next} {x : Value} (hv : Vl nx x) (hr : ∀ τ, (execOp (Act.eval ⟨tm, []⟩) o).run P (tap τ v) = .ok nx (tap τ v1))
    (hn : ∀ r' tm1', (∀ b b', r b b' → r' b b') → XR (Rg P fs gs r') (Act.put ⟨tm, []⟩ o.dst x).tmps tm1' → MV P fs gs Msg Fin K r' v1 ch X (G (fF fn tm1' (.inRegion ops rest :: k) D kd) rc)) : MV P fs gs Msg Fin K r v ch X (G (fF fn tm' (.inRegion ops (i :: rest) :: k) D kd) rc) := fun w hk hop hw hc hX =>
  MS.step rfl fun w1 hry => by
    have hw1 := hw.rely (ry_x hry)
    have hk1 := ry_k hk hry
    have hX1 := x_rely hry hX
    obtain ⟨r', nx', x', w2, es, h1, h2, h3, h4, h5, h7, h6⟩ := val_view hz hf hg hx hw1 ht hv hr D
    have h6 := h6 fn
    refine ⟨_, w2, _, _, _, step_vl hkd ho (by rw [ht.yields]; exact hwt) h2 h1, ⟨h6.size, fun b hb hnb => h6.kept b hb fun z => hnb (.inl z), h6.os, fun b hb => ?_, fun b hb => ?_, mv_sub, fun e he => (h6.evs e he).mono (fun _ => .inl) (fun _ => .inl)⟩,
      hn r' _ h5 (xr_put D (ht.mono (rg_le h5)) o.dst h3) w2 (hk1.gd h6 hop) (newW_kp hk1 h6 hop) h4 (fun c q => Nat.lt_of_lt_of_le (hc c q) (Nat.le_trans hry.1 h6.size)) fun c e => ?_⟩
    · rcases hb with hb | hb
      · exact (h6.newO b hb).imp .inl id
      · exact .inl (.inr hb)
    · rcases hb with hb | hb
      · exact (h6.newW b hb).imp .inl id
      · exact .inl (.inr hb)
    · obtain ⟨q0, q1, q2, q3⟩ := hX1 c e
      have hlt : c < w1.heap.size := (Array.getElem?_eq_some_iff.1 q1).1
      refine ⟨q0, (h6.kept c hlt fun z => q2 (open_seen z)).trans q1, fun ⟨b, hb⟩ => ?_, q3⟩
      rcases h7 b c hb with z | z
      · exact q2 ⟨b, z⟩
      · omega
end
end Go.Proofs.YtfbdgdphpdhcpaaDoor.Sm
namespace Go.Proofs.YtfbdgdphpdhcpaaDoor
open Go Go.Conc Go.RowKit Sm
set_option maxRecDepth 100000

abbrev GO : FuncId := 49
abbrev Wc (r : Nat → Nat → Prop) (v : World) (c : Nat) (out : List (List Nat)) (g : Goroutine) : Prop := WV Tryd.prog cfs cgs OMsg r v c out g
section
variable {r : Nat → Nat → Prop} {v : World} {c : Nat} {out : List (List Nat)} {k : List Item} {D : List Deferred} {rc : List Frame}
theorem gmv {f f' : Frame} (h : Mv Tryd.prog false f f') (hn : Wc r v c out (G f' rc)) : Wc r v c out (G f rc) := WV.mv ⟨rfl, rfl⟩ ⟨rfl, rfl⟩ (h rc) hn
theorem gpiece {cd : Code} (hB : itemB Tryd.prog cfs cgs (.code cd) = true) (hg : ∀ g ∈ cgs, r g g) {tm tm' : Array Value} (ht : XR (Rg Tryd.prog cfs cgs r) tm tm') {Q : Act → World → Prop}
    (H : ∀ τ, cd.wp Tryd.prog (fun e a w => e = .normal ∧ a.defers = [] ∧ Q a w) ⟨tm, []⟩ (tap τ v)) (hn : ∀ r' v1 tm1 tm1', (∀ b b', r b b' → r' b b') → XR (Rg Tryd.prog cfs cgs r') tm1 tm1' → Q ⟨tm1, []⟩ v1 → Wc r' v1 c out (G (fF GO tm1' k D .deferred) rc)) :
    Wc r v c out (G (fF GO tm' (.code cd :: k) D .deferred) rc) :=
  WV.piece tryd_zs cfs_ok hg ⟨_, Tryd.func49⟩ hB ht (Q := fun a w => a.defers = [] ∧ Q a w) (fun τ => piece_of_wp (by
    have h := H τ
    intro b k cs
    obtain ⟨e, a, w, ⟨h1, h2, h3⟩, h4⟩ := h b k cs
    exact ⟨e, a, w, ⟨h1, h2, h2, h3⟩, h4⟩)) (by decide) fun r' v1 a x' hr hx hq => by
    obtain ⟨tm1, D1⟩ := a
    have hd : D1 = [] := hq.1
    subst hd
    exact hn r' v1 tm1 x' hr hx hq.2
theorem gval (hg : ∀ g ∈ cgs, r g g) {ops : Array Oper} {i : Nat} {rest : List Nat} {o : Oper} {tm tm' : Array Value} (ho : ops[i]? = some o) (hx : opB Tryd.prog cfs cgs o.op = true) (hgd : o.guard = none) (ht : XR (Rg Tryd.prog cfs cgs r) tm tm')
    {x : Value} (hr : ∀ τ, (execOp (Act.eval ⟨tm, []⟩) o).run Tryd.prog (tap τ v) = .ok (.value x) (tap τ v))
    (hn : ∀ r' tm1', (∀ b b', r b b' → r' b b') → XR (Rg Tryd.prog cfs cgs r') (Act.put ⟨tm, []⟩ o.dst x).tmps tm1' → Wc r' v c out (G (fF GO tm1' (.inRegion ops rest :: k) D .deferred) rc)) : Wc r v c out (G (fF GO tm' (.inRegion ops (i :: rest) :: k) D .deferred) rc) :=
  WV.val tryd_zs cfs_ok hg (by decide) ho hx (by unfold Region.wanted; rw [hgd]) ht (.inl rfl) hr hn
end
theorem vr_order {R : Ren} {m : Int} {bl l q : Nat} {x' : Value} (h : VR R (.agg #[.int .i64 m, .slice (some ⟨bl, 0, none⟩) l q]) x') : ∃ bl', x' = .agg #[.int .i64 m, .slice (some ⟨bl', 0, none⟩) l q] ∧ R.rel bl bl' := by
  obtain ⟨c', rfl, hs, hx⟩ := h.out
  have e0 : c'[0]? = some (.int .i64 m) := by
    have hlt : 0 < c'.size := by rw [hs]; simp
    have h1 := (hx 0 _ _ rfl (Array.getElem?_eq_getElem hlt)).out
    rw [Array.getElem?_eq_getElem hlt]; exact congrArg some h1
  have hlt : 1 < c'.size := by rw [hs]; simp
  obtain ⟨a', e1, ha⟩ := (hx 1 _ _ rfl (Array.getElem?_eq_getElem hlt)).out
  cases a' with
  | none => exact ha.elim
  | some a' =>
    obtain ⟨b', off', sp'⟩ := a'
    have h1 : off' = 0 := ha.2.1
    have h2 : sp' = none := ha.2.2.1
    subst h1 h2
    refine ⟨b', ?_, ha.1⟩
    congr 1
    refine Array.ext (by rw [hs]; rfl) fun i hi hi2 => ?_
    match i, hi with
    | 0, hi => rw [Array.getElem?_eq_getElem hi] at e0; exact Option.some.inj e0
    | 1, hi => exact e1
    | i + 2, hi => rw [hs] at hi; simp at hi; omega
end Go.Proofs.YtfbdgdphpdhcpaaDoor
namespace Go.Proofs.YtfbdgdphpdhcpaaDoor
open Go Go.Conc Go.RowKit Sm
set_option maxRecDepth 100000

/-- growOne's code. -/
def IsG (C : Code) : Prop := C = Tryd.f49.body.getD .skip
theorem gi_item : ([[0], [1, 1, 0], [1, 1, 1, 0], [1, 1, 1, 1, 2, 2, 0], [1, 1, 1, 1, 2, 2, 1, 1, 0, 2, 0], [1, 1, 1, 1, 2, 2, 1, 1, 0, 2, 1, 0], [1, 1, 1, 1, 2, 2, 1, 1, 0, 2, 1, 1, 0], [1, 1, 1, 1, 2, 2, 1, 1, 1]].all fun l => itemB Tryd.prog cfs cgs (.code (atc l (Tryd.f49.body.getD .skip)))) = true := by kernel_rfl
theorem gi_ok {C : Code} (hC : IsG C) {l : List Nat} (h : l ∈ [[0], [1, 1, 0], [1, 1, 1, 0], [1, 1, 1, 1, 2, 2, 0], [1, 1, 1, 1, 2, 2, 1, 1, 0, 2, 0], [1, 1, 1, 1, 2, 2, 1, 1, 0, 2, 1, 0], [1, 1, 1, 1, 2, 2, 1, 1, 0, 2, 1, 1, 0], [1, 1, 1, 1, 2, 2, 1, 1, 1]]) : itemB Tryd.prog cfs cgs (.code (atc l C)) = true := by
  rw [hC]
  exact List.all_eq_true.1 gi_item l h
/-- Region 8: the send. -/
def opsOf : Code → Array Oper
  | .region _ ops _ => ops
  | _ => #[]
theorem g8_shape {C : Code} (hC : IsG C) : atc [1, 1, 1, 1, 2, 2, 1, 1, 0, 2, 1, 1, 1] C = .region 8 (opsOf (atc [1, 1, 1, 1, 2, 2, 1, 1, 0, 2, 1, 1, 1] C)) false := by
  rw [hC]
  kernel_rfl
theorem g8_ops {C : Code} (hC : IsG C) : ((opsOf (atc [1, 1, 1, 1, 2, 2, 1, 1, 0, 2, 1, 1, 1] C)).map fun o => (o.dst, o.op, o.guard)).toList = [(some 38, .move (.tmp 1), none), (some 39, .load 24 (.tmp 9), none), (none, .send (.tmp 38) (.tmp 39), none)] := by
  rw [hC]
  kernel_rfl
theorem op_at {ops : Array Oper} {l : List (Option Tmp × Op × Option (Nat × Bool))} (h : (ops.map fun o => (o.dst, o.op, o.guard)).toList = l) (i : Nat) {d : Option Tmp} {op : Op} {g : Option (Nat × Bool)} (hi : l[i]? = some (d, op, g)) : ∃ o, ops[i]? = some o ∧ o.dst = d ∧ o.op = op ∧ o.guard = g := by
  subst h
  simp only [Array.toList_map, List.getElem?_map, Array.getElem?_toList, Option.map_eq_some_iff, Prod.mk.injEq] at hi
  obtain ⟨o, h1, h2, h3, h4⟩ := hi
  exact ⟨o, h1, h2, h3, h4⟩
theorem g8_size {C : Code} (hC : IsG C) : (opsOf (atc [1, 1, 1, 1, 2, 2, 1, 1, 0, 2, 1, 1, 1] C)).size = 3 := by
  have := congrArg List.length (g8_ops hC)
  simpa using this
/-- What the loop is entered with. -/
structure GI (r : Nat → Nat → Prop) (v : World) (tm tm' : Array Value) (c b0 n cap : Nat) (a : Option Addr) (g : Nat → Nat) (L : List Nat) (ai : Option Addr) (ci i : Nat) : Prop where
  xr : XR (Rg Tryd.prog cfs cgs r) tm tm'
  rg : ∀ g ∈ cgs, r g g
  sz : tm.size = 41
  t1 : tm[1]? = some (.chan (some c))
  t2 : tm[2]? = some (.pointer (some ⟨b0, 0, none⟩))
  t17 : tm[17]? = some (.slice ai L.length ci)
  t18 : tm[18]? = some (.int .i64 (L.length : Nat))
  t19 : tm[19]? = some (.int .i64 (i : Nat))
  box : FBox v b0 n a cap g
  row : Row v ai L.length (fun k => (nth L k : Nat))
  tab : Tab v
  low : Tryd.prog.globals.size ≤ v.heap.size
abbrev gbody (C : Code) : Code := .seq (atc [1, 1, 1, 1, 2, 2, 0] C) (.seq (.cond (.tmp 20) .skip (.exit 0)) (.seq (.block 1 (atc [1, 1, 1, 1, 2, 2, 1, 1, 0, 2] C)) (atc [1, 1, 1, 1, 2, 2, 1, 1, 1] C)))
theorem set_at {x : Array Value} {i : Nat} (h : i < x.size) (u : Value) : (x.setIfInBounds i u)[i]? = some u := by rw [Array.getElem?_setIfInBounds_self_of_lt h]
theorem set_ne {x : Array Value} {i j : Nat} (h : i ≠ j) (u : Value) : (x.setIfInBounds i u)[j]? = x[j]? := Array.getElem?_setIfInBounds_ne h
theorem vr_bool {R : Ren} {x x' : Array Value} (h : XR R x x') {i : Nat} {b : Bool} (hi : x[i]? = some (.bool b)) : x'[i]? = some (.bool b) := by
  obtain ⟨v', e, hv⟩ := h.at hi
  rw [e]
  exact congrArg some hv.out
theorem vr_chan {R : Ren} {x x' : Array Value} (h : XR R x x') {i : Nat} {c : Option Nat} (hi : x[i]? = some (.chan c)) : x'[i]? = some (.chan c) := by
  obtain ⟨v', e, hv⟩ := h.at hi
  obtain ⟨a', rfl, rfl⟩ := hv.out
  exact e
theorem eval_tmp {x : Array Value} {D : List Deferred} {i : Nat} {u : Value} (h : x[i]? = some u) : Act.eval ⟨x, D⟩ (.tmp i) = u := by
  show x.getD i undef = u
  rw [Array.getD_eq_getD_getElem?, h]; rfl
section
variable {c n cap : Nat} {a : Option Addr} {g : Nat → Nat} {L : List Nat} {ai : Option Addr} {ci : Nat} {D : List Deferred} {rc : List Frame}
/-- The send: what goes over is the order that lies in box b9. -/
theorem grow_send {C : Code} (hC : IsG C) {r : Nat → Nat → Prop} {v : World} {tm tm' : Array Value} {bl b9 : Nat} {o : List Nat} {out : List (List Nat)} {k : List Item} (hx : XR (Rg Tryd.prog cfs cgs r) tm tm') (hg : ∀ g ∈ cgs, r g g) (hs : tm.size = 41) (t1 : tm[1]? = some (.chan (some c))) (t9 : tm[9]? = some (.pointer (some ⟨b9, 0, none⟩)))
    (hb' : v.heap[bl]? = some (.cells (rowC o) 3 (0, 0))) (h9 : v.heap[b9]? = some (.cells #[.int .i64 (o.length : Nat), .slice (some ⟨bl, 0, none⟩) o.length o.length] 24 (0, 0))) (ho : 0 < o.length) (hlow : Tryd.prog.globals.size ≤ bl)
    (hn : ∀ r' v' tm1 tm1', (∀ b b', r b b' → r' b b') → CE v v' → XR (Rg Tryd.prog cfs cgs r') tm1 tm1' → tm1.size = 41 → (∀ i, i ≠ 38 → i ≠ 39 → tm1[i]? = tm[i]?) → Wc r' v' c out (G (fF GO tm1' k D .deferred) rc)) :
    Wc r v c (o :: out) (G (fF GO tm' (.code (atc [1, 1, 1, 1, 2, 2, 1, 1, 0, 2, 1, 1, 1] C) :: k) D .deferred) rc) := by
  rw [g8_shape hC]
  refine gmv (mv_region _ _) ?_
  rw [show List.range (opsOf (atc [1, 1, 1, 1, 2, 2, 1, 1, 0, 2, 1, 1, 1] C)).size = [0, 1, 2] by rw [g8_size hC]; rfl]
  obtain ⟨o0, p1, p2, p3, p4⟩ := op_at (g8_ops hC) 0 rfl
  obtain ⟨o1, q1, q2, q3, q4⟩ := op_at (g8_ops hC) 1 rfl
  obtain ⟨o2, s1, s2, s3, s4⟩ := op_at (g8_ops hC) 2 rfl
  generalize opsOf (atc [1, 1, 1, 1, 2, 2, 1, 1, 0, 2, 1, 1, 1] C) = ops at p1 q1 s1 ⊢
  refine gval hg p1 (by rw [p3]; rfl) p4 hx (x := .chan (some c)) (fun τ => by
    unfold execOp
    rw [p3]
    simp only [eval_tmp t1]
    rfl) fun r1 tm1' hr1 hx1 => ?_
  rw [p2] at hx1
  have hg1 : ∀ g ∈ cgs, r1 g g := fun g h => hr1 _ _ (hg g h)
  have hx1 : XR (Rg Tryd.prog cfs cgs r1) (tm.setIfInBounds 38 (.chan (some c))) tm1' := hx1
  have t9' : (tm.setIfInBounds 38 (.chan (some c)))[9]? = some (.pointer (some ⟨b9, 0, none⟩)) := by rw [set_ne (by decide)]; exact t9
  refine gval hg1 q1 (by rw [q3]; rfl) q4 hx1 (x := .agg #[.int .i64 (o.length : Nat), .slice (some ⟨bl, 0, none⟩) o.length o.length]) (fun τ => by
    unfold execOp
    rw [q3]
    simp only [eval_tmp t9']
    have c0 : (tap τ v).cell? ⟨b9, 0, none⟩ = some (.int .i64 (o.length : Nat)) := by unfold World.cell?; rw [show (tap τ v).heap = v.heap from rfl, h9]; rfl
    have c1 : (tap τ v).cell? ⟨b9, 1, none⟩ = some (.slice (some ⟨bl, 0, none⟩) o.length o.length) := by unfold World.cell?; rw [show (tap τ v).heap = v.heap from rfl, h9]; rfl
    go_simp) fun r2 tm2' hr2 hx2 => ?_
  rw [q2] at hx2
  have hx2 : XR (Rg Tryd.prog cfs cgs r2) ((tm.setIfInBounds 38 (.chan (some c))).setIfInBounds 39 (.agg #[.int .i64 (o.length : Nat), .slice (some ⟨bl, 0, none⟩) o.length o.length])) tm2' := hx2
  have e38 : ((tm.setIfInBounds 38 (.chan (some c))).setIfInBounds 39 (.agg #[.int .i64 (o.length : Nat), .slice (some ⟨bl, 0, none⟩) o.length o.length]))[38]? = some (.chan (some c)) := by rw [set_ne (by decide), set_at (by omega)]
  have e39 : ((tm.setIfInBounds 38 (.chan (some c))).setIfInBounds 39 (.agg #[.int .i64 (o.length : Nat), .slice (some ⟨bl, 0, none⟩) o.length o.length]))[39]? = some (.agg #[.int .i64 (o.length : Nat), .slice (some ⟨bl, 0, none⟩) o.length o.length]) := set_at (by simp; omega) _
  have u38 := vr_chan hx2 e38
  obtain ⟨x', u39, hvx⟩ := hx2.at e39
  obtain ⟨bl', rfl, hrel⟩ := vr_order hvx
  have hrel : r2 bl bl' := hrel
  have hz : ¬ Sm.Shut (Obj.cells (rowC o) 3 (0, 0)) := fun q => by
    have := (q 0 (by simp [rowC, natVals]; omega)).2
    omega
  refine WV.send (by decide) s1 (by unfold Region.wanted; rw [s4]) (x' := .agg #[.int .i64 (o.length : Nat), .slice (some ⟨bl', 0, none⟩) o.length o.length]) (z := .tuple #[]) (fun w => by
    unfold execOp
    rw [s3]
    simp only [eval_tmp u38, eval_tmp u39]
    rfl) (fun w => by
    unfold execOp
    rw [s3]
    rfl) (v2 := Sm.fz (fun b => b == bl) v) (fun w hw => hw.fz _) (fun w hw => ⟨fun b => b = bl', fun b hb => ?_, fun b hb => ?_, fun w1 hw1 => ?_⟩) ?_
  · subst hb
    exact ⟨bl, _, hrel, hb', hz⟩
  · obtain ⟨b0, o0, h1, h2, h3, h4⟩ := open_fz hb
    refine ⟨⟨b0, o0, h1, h2, h3⟩, fun e => ?_⟩
    subst e
    have e0 : b0 = bl := hw.inj _ _ _ h1 hrel
    subst e0
    have h5 := h4 (by simp)
    rw [hb'] at h2
    cases h2
    cases h5
  · obtain ⟨o', h1, h2⟩ := hw1.obj _ _ _ hrel hb'
    cases o' with
    | cells c' e' fr' =>
      obtain ⟨rfl, h3, h4⟩ := h2
      refine ⟨bl', c', fr', fun b => Iff.rfl, rfl, h1, fun j hj => ?_, ?_⟩
      · refine XL.same h3 (Nat.zero_le _) ?_
        simp [rowC, natVals, nth, hj]
      · rcases Nat.lt_or_ge bl' Tryd.prog.globals.size with q | q
        · have := hw1.same _ _ hrel (.inr q)
          omega
        · exact q
    | _ => exact h2.elim
  · have e : (Act.put ⟨tm2', D⟩ o2.dst undef).tmps = tm2' := by rw [s2]; rfl
    rw [e]
    refine gmv (mv_done _) ?_
    exact hn r2 _ _ _ (fun b b' q => hr2 _ _ (hr1 _ _ q)) (ce_fz _ _) hx2 (by simp [hs]) fun i h1 h2 => by rw [set_ne (fun e => h2 e.symm), set_ne (fun e => h1 e.symm)]
end
end Go.Proofs.YtfbdgdphpdhcpaaDoor
namespace Go.Proofs.YtfbdgdphpdhcpaaDoor
open Go Go.Conc Go.RowKit Sm
set_option maxRecDepth 100000

theorem grow_shapeC {C : Code} (hC : IsG C) : C = .seq (atc [0] C) (.seq (atc [1, 0] C) (.seq (atc [1, 1, 0] C) (.seq (atc [1, 1, 1, 0] C) (.block 0 (.loop (gbody C)))))) := by
  rw [hC]
  exact grow_shape
theorem grow_innerC {C : Code} (hC : IsG C) : atc [1, 1, 1, 1, 2, 2, 1, 1, 0, 2] C = .seq (atc [1, 1, 1, 1, 2, 2, 1, 1, 0, 2, 0] C) (.seq (atc [1, 1, 1, 1, 2, 2, 1, 1, 0, 2, 1, 0] C) (.seq (atc [1, 1, 1, 1, 2, 2, 1, 1, 0, 2, 1, 1, 0] C) (atc [1, 1, 1, 1, 2, 2, 1, 1, 0, 2, 1, 1, 1] C))) := by
  rw [hC]
  exact grow_inner
theorem GI.mv {r r' : Nat → Nat → Prop} {v v' : World} {tm tm' tm1 tm1' : Array Value} {c b0 n cap : Nat} {a : Option Addr} {g : Nat → Nat} {L : List Nat} {ai : Option Addr} {ci i : Nat} (h : GI r v tm tm' c b0 n cap a g L ai ci i)
    (hr : ∀ b b', r b b' → r' b b') (hv : CE v v') (hx : XR (Rg Tryd.prog cfs cgs r') tm1 tm1') (hs : tm1.size = 41) (ht : ∀ j, j = 1 ∨ j = 2 ∨ j = 17 ∨ j = 18 ∨ j = 19 → tm1[j]? = tm[j]?) : GI r' v' tm1 tm1' c b0 n cap a g L ai ci i where
  xr := hx
  rg g hg := hr _ _ (h.rg g hg)
  sz := hs
  t1 := (ht 1 (by simp)).trans h.t1
  t2 := (ht 2 (by simp)).trans h.t2
  t17 := (ht 17 (by simp)).trans h.t17
  t18 := (ht 18 (by simp)).trans h.t18
  t19 := (ht 19 (by simp)).trans h.t19
  box := hv.box h.box
  row := hv.row h.row
  tab := hv.tab h.tab
  low := Nat.le_trans h.low hv.1
section
variable {c b0 n cap : Nat} {a : Option Addr} {g : Nat → Nat} {L : List Nat} {ai : Option Addr} {ci : Nat} {ats : Array TypeId} {ty : TypeId} {cs : Array Bool}
theorem grow_loop {C : Code} (hC : IsG C) (hn : n ≤ 5) (hg : ∀ k, k < n → g k < 1024) (hL : ∀ k, k < L.length → nth L k < 1024) (hl : L.length ≤ 1024) : ∀ m i, i + m = L.length → ∀ (r : Nat → Nat → Prop) (v : World) (tm tm' : Array Value), GI r v tm tm' c b0 n cap a g L ai ci i →
    Wc r v c ((L.drop i).map fun d => frmL ((List.range n).map g ++ [d])) (G (fF GO tm' [.code (gbody C), .inLoop (gbody C), .inBlock 0] [clD ats ty cs c] .deferred) [bornF Tryd.prog]) := by
  intro m
  induction m with
  | zero =>
    intro i hi r v tm tm' h
    have e : L.drop i = [] := List.drop_eq_nil_of_le (by omega)
    rw [e]
    refine gmv (mv_seq _ _) ?_
    refine gpiece (gi_ok hC (by simp)) h.rg h.xr (Q := fun s w => HB v w ∧ s.tmps = tm.setIfInBounds 20 (.bool (decide ((i : Int) < (L.length : Int))))) (fun τ => ?_) fun r1 v1 tm1 tm1' hr1 hx1 hq => ?_
    · rw [hC]; exact grow_r4 tm i L.length (tap τ v) h.t19 h.t18
    obtain ⟨hb1, e1⟩ := hq
    have e1 : tm1 = _ := e1
    have e20 : tm1[20]? = some (.bool false) := by
      rw [e1, set_at (by rw [h.sz]; decide), decide_eq_false (by omega)]
    refine gmv (mv_seq _ _) ?_
    refine gmv (mv_cond (b := false) ?_) ?_
    · exact eval_tmp (D := []) (vr_bool hx1 e20)
    refine gmv (mv_exit (k' := []) rfl) ?_
    exact WV.done ats ty cs Tryd.func49 rfl
  | succ m ih =>
    intro i hi r v tm tm' h
    have hil : i < L.length := by omega
    have e : L.drop i = nth L i :: L.drop (i + 1) := by
      rw [List.drop_eq_getElem_cons hil]
      simp [nth, hil]
    rw [e, List.map_cons]
    refine gmv (mv_seq _ _) ?_
    refine gpiece (gi_ok hC (by simp)) h.rg h.xr (Q := fun s w => HB v w ∧ s.tmps = tm.setIfInBounds 20 (.bool (decide ((i : Int) < (L.length : Int))))) (fun τ => ?_) fun r1 v1 tm1 tm1' hr1 hx1 hq => ?_
    · rw [hC]; exact grow_r4 tm i L.length (tap τ v) h.t19 h.t18
    obtain ⟨hb1, e1⟩ := hq
    have e1 : tm1 = _ := e1
    have e20 : tm1[20]? = some (.bool true) := by
      rw [e1, set_at (by rw [h.sz]; decide), decide_eq_true (by omega)]
    have h1 : GI r1 v1 tm1 tm1' c b0 n cap a g L ai ci i := h.mv hr1 hb1.ce hx1 (by rw [e1]; simp [h.sz]) fun j hj => by rw [e1]; exact set_ne (by omega) _
    refine gmv (mv_seq _ _) ?_
    refine gmv (mv_cond (b := true) ?_) ?_
    · exact eval_tmp (D := []) (vr_bool hx1 e20)
    refine gmv mv_skip ?_
    refine gmv (mv_seq _ _) ?_
    refine gmv (mv_block _ _) ?_
    rw [grow_innerC hC]
    refine gmv (mv_seq _ _) ?_
    clear hr1 hx1 hb1 e20 e1 h
    -- the next ideal
    refine gpiece (gi_ok hC (by simp)) h1.rg h1.xr (Q := fun s w => HB v1 w ∧ ∃ z, s.tmps = ((tm1.setIfInBounds 21 z).setIfInBounds 22 (.int .i64 (nth L i : Nat))).setIfInBounds 7 (.int .i64 (nth L i : Nat))) (fun τ => ?_) fun r2 v2 tm2 tm2' hr2 hx2 hq => ?_
    · rw [hC]; exact grow_r5 tm1 ai i L.length ci (fun k => (nth L k : Nat)) (tap τ v1) h1.sz h1.t17 h1.t19 hil h1.row
    obtain ⟨hb2, z, e2⟩ := hq
    have e2 : tm2 = _ := e2
    have h2 : GI r2 v2 tm2 tm2' c b0 n cap a g L ai ci i := h1.mv hr2 hb2.ce hx2 (by rw [e2]; simp [h1.sz]) fun j hj => by rw [e2, set_ne (by omega), set_ne (by omega), set_ne (by omega)]
    have e7 : tm2[7]? = some (.int .i64 (nth L i : Nat)) := by rw [e2, set_at (by simp [h1.sz])]
    clear hr2 hx2 hb2 e2 h1
    -- it is put behind the row
    refine gmv (mv_seq _ _) ?_
    refine gpiece (gi_ok hC (by simp)) h2.rg h2.xr (Q := fun s w => HB v2 w ∧ ∃ z, w.ownsRow v2.heap.size 3 1 z (n + 1) (natVals ((List.range n).map g ++ [nth L i])) ∧ s.tmps[8]? = some z ∧ s.tmps.size = 41 ∧ (∀ j, (j < 23 ∨ 28 < j) → j ≠ 8 → s.tmps[j]? = tm2[j]?)) (fun τ => ?_) fun r3 v3 tm3 tm3' hr3 hx3 hq => ?_
    · rw [hC]; exact grow_r6 tm2 b0 n (nth L i) a cap g (tap τ v2) h2.sz hn h2.box h2.t2 e7
    obtain ⟨hb3, z3, ho3, e8, s3, e3⟩ := hq
    have h3 : GI r3 v3 tm3 tm3' c b0 n cap a g L ai ci i := h2.mv hr3 hb3.ce hx3 s3 fun j hj => e3 j (by omega) (by omega)
    clear hr3 hx3 hb3 e3 h2
    -- its form
    refine gmv (mv_seq _ _) ?_
    refine gpiece (gi_ok hC (by simp)) h3.rg h3.xr (Q := fun s w => HB v3 w ∧ ∃ bl b9, v3.heap.size ≤ bl ∧ bl < b9 ∧ w.heap[bl]? = some (.cells (rowC (frmL ((List.range n).map g ++ [nth L i]))) 3 (0, 0)) ∧
      w.heap[b9]? = some (.cells #[.int .i64 ((n + 1 : Nat) : Int), .slice (some ⟨bl, 0, none⟩) (n + 1) (n + 1)] 24 (0, 0)) ∧ (frmL ((List.range n).map g ++ [nth L i])).length = n + 1 ∧ s.tmps.size = 41 ∧
      s.tmps[9]? = some (.pointer (some ⟨b9, 0, none⟩)) ∧ (∀ j, (j < 29 ∨ 37 < j) → j ≠ 9 → j ≠ 10 → s.tmps[j]? = tm3[j]?)) (fun τ => ?_) fun r4 v4 tm4 tm4' hr4 hx4 hq => ?_
    · rw [hC]; exact grow_r7 tm3 b0 n (nth L i) a cap g z3 (tap τ v3) h3.sz hn h3.box h3.tab _ ho3 hg (hL i hil) h3.t2 e8
    obtain ⟨hb4, bl, b9, q1, q2, q3, q4, q5, s4, e9, e4⟩ := hq
    have h4 : GI r4 v4 tm4 tm4' c b0 n cap a g L ai ci i := h3.mv hr4 hb4.ce hx4 s4 fun j hj => e4 j (by omega) (by omega) (by omega)
    generalize frmL ((List.range n).map g ++ [nth L i]) = o at q3 q5 ⊢
    clear hr4 hx4 hb4 e4 ho3 e8
    -- it goes over
    rw [← q5] at q4
    refine grow_send hC h4.xr h4.rg s4 h4.t1 e9 q3 q4 (by omega) (Nat.le_trans h3.low q1) fun r5 v5 tm5 tm5' hr5 hv5 hx5 s5 e5 => ?_
    have h5 : GI r5 v5 tm5 tm5' c b0 n cap a g L ai ci i := h4.mv hr5 hv5 hx5 s5 fun j hj => e5 j (by omega) (by omega)
    refine gmv (mv_inBlock _) ?_
    clear hr5 hv5 hx5 e5
    -- the count
    refine gpiece (gi_ok hC (by simp)) h5.rg h5.xr (Q := fun s w => HB v5 w ∧ s.tmps = (tm5.setIfInBounds 40 (.int .i64 ((i + 1 : Nat) : Int))).setIfInBounds 19 (.int .i64 ((i + 1 : Nat) : Int))) (fun τ => ?_) fun r6 v6 tm6 tm6' hr6 hx6 hq => ?_
    · rw [hC]; exact grow_r9 tm5 i (tap τ v5) s5 h5.t19 (by omega)
    obtain ⟨hb6, e6⟩ := hq
    have e6 : tm6 = _ := e6
    refine gmv (mv_inLoop _) ?_
    refine ih (i + 1) (by omega) r6 v6 tm6 tm6' ⟨hx6, fun g hg => hr6 _ _ (h5.rg g hg), by rw [e6]; simp [s5], ?_, ?_, ?_, ?_, ?_, hb6.ce.box h5.box, hb6.ce.row h5.row, hb6.ce.tab h5.tab, Nat.le_trans h5.low hb6.1⟩
    · rw [e6, set_ne (by decide), set_ne (by decide)]; exact h5.t1
    · rw [e6, set_ne (by decide), set_ne (by decide)]; exact h5.t2
    · rw [e6, set_ne (by decide), set_ne (by decide)]; exact h5.t17
    · rw [e6, set_ne (by decide), set_ne (by decide)]; exact h5.t18
    · rw [e6, set_at (by simp [s5])]
end
theorem g1_shape {C : Code} (hC : IsG C) : atc [1, 0] C = .region 1 (opsOf (atc [1, 0] C)) false := by
  rw [hC]
  kernel_rfl
theorem g1_ops {C : Code} (hC : IsG C) : ((opsOf (atc [1, 0] C)).map fun o => (o.dst, o.op, o.guard)).toList = [(some 11, .move (.tmp 1), none), (none, .defer { callee := .builtin .close, args := #[.tmp 11], argTypes := #[75] }, none)] := by
  rw [hC]
  kernel_rfl
theorem range_nth (o : List Nat) : (List.range o.length).map (nth o) = o := by
  refine List.ext_getElem (by simp) fun i h1 h2 => ?_
  simp [nth, h2]
theorem xr_init {R : Ren} {x x' y y' : Value} (hx : VR R x x') (hy : VR R y y') (m : Nat) : XR R (#[x, y] ++ Array.replicate m undef) (#[x', y'] ++ Array.replicate m undef) := by
  refine ⟨by simp, fun i u u' h1 h2 => ?_⟩
  match i with
  | 0 =>
    have e1 : (#[x, y] ++ Array.replicate m undef)[0]? = some x := by rw [Array.getElem?_append_left (by simp)]; rfl
    have e2 : (#[x', y'] ++ Array.replicate m undef)[0]? = some x' := by rw [Array.getElem?_append_left (by simp)]; rfl
    rw [e1] at h1; rw [e2] at h2; cases h1; cases h2; exact hx
  | 1 =>
    have e1 : (#[x, y] ++ Array.replicate m undef)[1]? = some y := by rw [Array.getElem?_append_left (by simp)]; rfl
    have e2 : (#[x', y'] ++ Array.replicate m undef)[1]? = some y' := by rw [Array.getElem?_append_left (by simp)]; rfl
    rw [e1] at h1; rw [e2] at h2; cases h1; cases h2; exact hy
  | i + 2 =>
    rw [Array.getElem?_append_right (by simp)] at h1 h2
    rw [Array.getElem?_replicate] at h1 h2
    split at h1
    · cases h1
      split at h2
      · cases h2; exact VR.tuple XR.nil
      · cases h2
    · cases h1
theorem idls_lt {g : Nat → Nat} {n : Nat} (hn : n ≤ 5) : (idls g n).length ≤ 1024 ∧ ∀ k, k < (idls g n).length → nth (idls g n) k < 1024 := by
  have hp : pw n ≤ 32 := by
    unfold pw
    exact Nat.le_trans (Nat.pow_le_pow_right (by decide) hn) (by decide)
  have mem : ∀ (I : Nat → Bool) (m x : Nat), x ∈ fil I m → x < m := by
    intro I m
    induction m with
    | zero => intro x h; simp [fil] at h
    | succ m ih =>
      intro x h
      cases hI : I m with
      | true =>
        rw [fil_yes hI, List.mem_append] at h
        rcases h with h | h
        · have := ih x h; omega
        · simp at h; omega
      | false => rw [fil_no hI] at h; have := ih x h; omega
  refine ⟨Nat.le_trans (fil_len _ _) (by omega), fun k hk => ?_⟩
  have h1 : nth (idls g n) k ∈ idls g n := by
    unfold nth
    rw [List.getD_eq_getElem?_getD, List.getElem?_eq_getElem hk]
    exact List.getElem_mem hk
  have := mem _ _ _ h1
  omega
/-- A worker, from its birth on. -/
theorem grow_ws {r : Nat → Nat → Prop} {v : World} {c cap : Nat} {a : Option Addr} {o : List Nat} {x' : Value} (hn : o.length ≤ 5) (hlt : ∀ k, k < o.length → nth o k < 1024) (hc : Chk o.length o.length (fun k => (nth o k : Nat)) 0) (hr : Row v a o.length (fun k => (nth o k : Nat))) (hT : Tab v) (hg : ∀ g ∈ cgs, r g g)
    (hlow : Tryd.prog.globals.size ≤ v.heap.size) (hx : VR (Rg Tryd.prog cfs cgs r) (.agg #[.int .i64 (o.length : Nat), .slice a o.length cap]) x') :
    Wc r v c (outsL o) (born Tryd.prog { target := .fn (.func GO) #[], args := #[x', .chan (some c)] }) := by
  obtain ⟨C, hC⟩ : ∃ C, IsG C := ⟨_, rfl⟩
  have hb : Tryd.f49.body = some C := by rw [hC]; rfl
  refine WV.mv ⟨rfl, rfl⟩ ⟨rfl, rfl⟩ (step_born (P := Tryd.prog) #[x', .chan (some c)] Tryd.func49 (by decide) hb) ?_
  obtain ⟨x, hxe⟩ : ∃ x, x = Value.agg #[.int .i64 (o.length : Nat), .slice a o.length cap] := ⟨_, rfl⟩
  rw [← hxe] at hx
  have ht0 := xr_init (m := 39) hx (VR.chan (Rg Tryd.prog cfs cgs r) (some c))
  have hz : (#[x, Value.chan (some c)] ++ Array.replicate 39 undef).size = 41 := by simp
  have ht1 : (#[x, Value.chan (some c)] ++ Array.replicate 39 undef)[1]? = some (.chan (some c)) := by rw [Array.getElem?_append_left (by simp)]; rfl
  have h0 : (#[x, Value.chan (some c)] ++ Array.replicate 39 undef)[0]? = some x := by rw [Array.getElem?_append_left (by simp)]; rfl
  show Wc r v c (outsL o) (G (fF GO (#[x', .chan (some c)] ++ Array.replicate 39 undef) [.code C] [] .deferred) [bornF Tryd.prog])
  generalize (#[x', Value.chan (some c)] ++ Array.replicate 39 undef) = tm0' at ht0 ⊢
  generalize (#[x, Value.chan (some c)] ++ Array.replicate 39 undef) = tm0 at ht0 hz ht1 h0
  have e := grow_shapeC hC
  rw [e]
  refine gmv (mv_seq _ _) ?_
  refine gpiece (gi_ok hC (by simp)) hg ht0 (Q := fun s w => HB v w ∧ s.tmps = tm0.setIfInBounds 2 (.pointer (some ⟨v.heap.size, 0, none⟩)) ∧ Bxd w v.heap.size #[.int .i64 (o.length : Nat), .slice a o.length cap]) (fun τ => ?_) fun r1 v1 tm1 tm1' hr1 hx1 hq => ?_
  · rw [hC]
    exact grow_r0 _ _ tm0 (tap τ v) (by rw [h0, hxe])
  obtain ⟨hb1, e1, hbox⟩ := hq
  have e1 : tm1 = _ := e1
  have s1 : tm1.size = 41 := by rw [e1]; simpa using hz
  have u1 : tm1[1]? = some (.chan (some c)) := by rw [e1, set_ne (by decide)]; exact ht1
  have u2 : tm1[2]? = some (.pointer (some ⟨v.heap.size, 0, none⟩)) := by rw [e1]; exact set_at (by rw [hz]; decide) _
  have hB1 : FBox v1 v.heap.size o.length a cap (nth o) := by
    refine ⟨?_, ?_, hb1.row hr⟩
    · unfold World.cell?; rw [show v1.heap[v.heap.size]? = _ from hbox]; rfl
    · unfold World.cell?; rw [show v1.heap[v.heap.size]? = _ from hbox]; rfl
  have hg1 : ∀ g ∈ cgs, r1 g g := fun g h => hr1 _ _ (hg g h)
  have hT1 := hb1.tab hT
  have hl1 := Nat.le_trans hlow hb1.1
  clear hbox e1 ht0 hx hT hr hr1 hlow
  refine gmv (mv_seq _ _) ?_
  rw [g1_shape hC]
  refine gmv (mv_region _ _) ?_
  have z1 : (opsOf (atc [1, 0] C)).size = 2 := by
    have := congrArg List.length (g1_ops hC)
    simpa using this
  rw [show List.range (opsOf (atc [1, 0] C)).size = [0, 1] by rw [z1]; rfl]
  obtain ⟨o0, p1, p2, p3, p4⟩ := op_at (g1_ops hC) 0 rfl
  obtain ⟨o1, q1, q2, q3, q4⟩ := op_at (g1_ops hC) 1 rfl
  generalize opsOf (atc [1, 0] C) = ops at p1 q1 ⊢
  refine gval hg1 p1 (by rw [p3]; rfl) p4 hx1 (x := .chan (some c)) (fun τ => by
    unfold execOp
    rw [p3]
    simp only [eval_tmp u1]
    rfl) fun r2 tm2' hr2 hx2 => ?_
  rw [p2] at hx2
  have hx2 : XR (Rg Tryd.prog cfs cgs r2) (tm1.setIfInBounds 11 (.chan (some c))) tm2' := hx2
  have u11 := vr_chan hx2 (set_at (by omega) _)
  have hg2 : ∀ g ∈ cgs, r2 g g := fun g h => hr2 _ _ (hg1 g h)
  refine WV.mv (g' := G (fF GO tm2' (.inRegion ops [] :: [.code (.seq (atc [1, 1, 0] C) (.seq (atc [1, 1, 1, 0] C) (.block 0 (.loop (gbody C)))))]) [clD #[75] o1.type #[false] c] .deferred) [bornF Tryd.prog]) ⟨rfl, rfl⟩ ⟨rfl, rfl⟩ (fun w => ?_) ?_
  · have h := stepG_deferX (P := Tryd.prog) (m := false) (fn := GO) (tm := tm2') (rest := []) (k := [.code (.seq (atc [1, 1, 0] C) (.seq (atc [1, 1, 1, 0] C) (.block 0 (.loop (gbody C)))))]) (D := []) (kd := .deferred) (by decide) (rc := [bornF Tryd.prog]) q1 (by unfold Region.wanted; rw [q4]) (d := clD #[75] o1.type #[false] c) (w := w) (by
      unfold execOp
      rw [q3]
      simp [resolve, eval_tmp u11, clD]) (by
      unfold execOp
      rw [q3]
      rfl)
    rw [h, q2]
    rfl
  refine gmv (mv_done _) ?_
  have s2 : (tm1.setIfInBounds 11 (.chan (some c))).size = 41 := by simp [s1]
  refine gmv (mv_seq _ _) ?_
  refine gpiece (gi_ok hC (by simp)) hg2 hx2 (Q := fun s w => HB v1 w ∧ ∃ c' z, IdealsPost v1.heap.size o.length o.length (fun k => (nth o k : Nat)) (.returned (.tuple #[z, .int .i64 c'])) w ∧ s.tmps[4]? = some z ∧ s.tmps.size = 41 ∧ (∀ i, i ≠ 4 → i ≠ 5 → (i < 12 ∨ 16 < i) → s.tmps[i]? = (tm1.setIfInBounds 11 (.chan (some c)))[i]?)) (fun τ => ?_) fun r3 v3 tm3 tm3' hr3 hx3 hq => ?_
  · rw [hC]
    intro b k cs
    obtain ⟨e, s, w, ⟨h1, h2, c', z, h3, h4, h5, h6, h7⟩, h8⟩ := grow_r2 (tm1.setIfInBounds 11 (.chan (some c))) v.heap.size o.length a cap (nth o) (tap τ v1) s2 (by rw [set_ne (by decide)]; exact u2) (by omega) hB1 b k cs
    exact ⟨e, s, w, ⟨h1, h2, h4, c', z, h3, h5, h6, h7⟩, h8⟩
  obtain ⟨hb3, c', z, hid, u4, s3, e3⟩ := hq
  have u4 : tm3[4]? = some z := u4
  have s3 : tm3.size = 41 := s3
  have e3 : ∀ i, i ≠ 4 → i ≠ 5 → (i < 12 ∨ 16 < i) → tm3[i]? = (tm1.setIfInBounds 11 (.chan (some c)))[i]? := e3
  obtain ⟨c2, z2, hc2, e4, hz⟩ := hid
  have hc0 := Chk.unique hc hc2
  subst hc0
  obtain ⟨rfl, rfl⟩ : z = z2 ∧ c' = 0 := by
    injection e4 with e5
    simp only [Value.tuple.injEq, Array.mk.injEq, List.cons.injEq, Value.int.injEq, true_and, and_true] at e5
    exact ⟨e5.1, e5.2⟩
  rcases hz with ⟨h, _⟩ | ⟨_, ⟨ai, ci, rfl, hrow⟩, _⟩
  · exact absurd rfl h
  have en : (nat fun k => ((nth o k : Nat) : Int)) = nth o := by funext k; simp [nat]
  rw [en] at hrow u4
  have ho : outsL o = ((idls (nth o) o.length).drop 0).map fun d => frmL ((List.range o.length).map (nth o) ++ [d]) := by
    rw [List.drop_zero, range_nth]; rfl
  rw [ho]
  obtain ⟨k1, k2⟩ := idls_lt (g := nth o) hn
  generalize idls (nth o) o.length = L at hrow u4 k1 k2 ⊢
  -- how many
  refine gmv (mv_seq _ _) ?_
  refine gpiece (gi_ok hC (by simp)) (fun g h => hr3 _ _ (hg2 g h)) hx3 (Q := fun s w => HB v3 w ∧ s.tmps = ((tm3.setIfInBounds 17 (.slice ai L.length ci)).setIfInBounds 18 (.int .i64 (L.length : Nat))).setIfInBounds 19 (.int .i64 0)) (fun τ => ?_) fun r4 v4 tm4 tm4' hr4 hx4 hq => ?_
  · rw [hC]; exact grow_r3 tm3 ai L.length ci (tap τ v3) s3 u4
  obtain ⟨hb4, e4⟩ := hq
  have e4 : tm4 = _ := e4
  refine gmv (mv_block _ _) ?_
  refine gmv (mv_loop _) ?_
  have hk := hb3.ce.trans hb4.ce
  refine grow_loop hC (b0 := v.heap.size) (a := a) (cap := cap) (ai := ai) (ci := ci) hn hlt k2 k1 L.length 0 (by omega) r4 v4 tm4 tm4' ⟨hx4, fun g h => hr4 _ _ (hr3 _ _ (hg2 g h)), by rw [e4]; simp [s3], ?_, ?_, ?_, ?_, ?_, hk.box hB1, hb4.row hrow, hk.tab hT1, Nat.le_trans hl1 hk.1⟩
  · rw [e4, set_ne (by decide), set_ne (by decide), set_ne (by decide), e3 1 (by decide) (by decide) (by decide), set_ne (by decide)]; exact u1
  · rw [e4, set_ne (by decide), set_ne (by decide), set_ne (by decide), e3 2 (by decide) (by decide) (by decide), set_ne (by decide)]; exact u2
  · rw [e4, set_ne (by decide), set_ne (by decide)]; exact set_at (by omega) _
  · rw [e4, set_ne (by decide)]; exact set_at (by simp [s3]) _
  · rw [e4]; exact set_at (by simp [s3]) _
end Go.Proofs.YtfbdgdphpdhcpaaDoor
