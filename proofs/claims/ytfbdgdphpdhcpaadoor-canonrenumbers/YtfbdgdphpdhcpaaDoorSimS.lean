/-
  What runs well in the first world runs as well in the second: soundness of SR. No condition.
-/
import Derived.Test.YtfbdgdphpdhcpaaDoorSimR
import Derived.Conc.Events
namespace Go.Proofs.YtfbdgdphpdhcpaaDoor.Sm
open Go

/-- Ways to halt that a lone run may have: a panic, or the model's own refusals; none that waits, or that has something else done first. -/
def PlainH : Halt → Prop
  | .panic _ | .stuck _ => True
  | .unsupported (.initOrder _) => False
  | .unsupported _ => True
  | _ => False
/-- What comes out, if anything does. -/
def Out {α : Type} (A : Ren → α → α → Prop) (R : Ren) (v w : World) (r : Result α) (r2 : Result α × Array Event) (e2 : Array Event) : Prop :=
  match r with
  | .ok a v' => ∃ R' a' w' es, r2 = (.ok a' w', e2 ++ es) ∧ A R' a a' ∧ Gu R R' v v' w w' es
  | .halt x v' => PlainH x ∧ Dk v v'
theorem Out.then {α : Type} {A : Ren → α → α → Prop} {R R1 : Ren} {v v1 w w1 : World} {r : Result α} {r2 : Result α × Array Event} {e2 es : Array Event} (h : Gu R R1 v v1 w w1 es) (q : Out A R1 v1 w1 r r2 (e2 ++ es)) : Out A R v w r r2 e2 := by
  unfold Out at q ⊢
  split at q
  · obtain ⟨R', a', w', es', e, ha, hg⟩ := q
    exact ⟨R', a', w', es ++ es', by rw [e, Array.append_assoc], ha, h.then hg⟩
  · exact ⟨q.1, h.dk.trans q.2⟩
/-- What a name in R stands for is a row of cells or a loop. -/
theorem WR.kind {R : Ren} {v w : World} (h : WR R v w) {b b' : Nat} (hr : R.rel b b') : (∃ c e fr, v.heap[b]? = some (.cells c e fr)) ∨ (∃ l, v.heap[b]? = some (.loop l)) ∨ (∃ d, v.heap[b]? = some (.deferred d)) ∨ ∃ a l, v.heap[b]? = some (.number a l) := by
  have h1 := Array.getElem?_eq_getElem (h.dom b b' hr).1
  obtain ⟨o', _, ho⟩ := h.obj b b' _ hr h1
  cases q : v.heap[b]'(h.dom b b' hr).1 <;> rw [q] at ho h1 <;> first | exact .inl ⟨_, _, _, h1⟩ | exact .inr (.inl ⟨_, h1⟩) | exact .inr (.inr (.inl ⟨_, h1⟩)) | exact .inr (.inr (.inr ⟨_, _, h1⟩)) | (cases o' <;> exact ho.elim)
theorem WR.far {R : Ren} {v w : World} (h : WR R v w) (P : Program) {a : Addr} {b' : Nat} (hr : R.rel a.block b') (x : Bool) : ∃ e, v.farLoad P a x = .error e ∧ PlainH e := by
  unfold World.farLoad
  rcases h.kind hr with ⟨c, e, fr, q⟩ | ⟨l, q⟩ | ⟨l, q⟩ | ⟨a0, l, q⟩ <;> rw [q] <;> (refine ⟨_, rfl, ?_⟩; unfold World.noCell; rw [q]; trivial)
theorem WR.farS {R : Ren} {v w : World} (h : WR R v w) (P : Program) {a : Addr} {b' : Nat} (hr : R.rel a.block b') (y : Value) (x : Bool) : ∃ e, v.farStore P a y x = .error e ∧ PlainH e := by
  unfold World.farStore
  rcases h.kind hr with ⟨c, e, fr, q⟩ | ⟨l, q⟩ | ⟨l, q⟩ | ⟨a0, l, q⟩ <;> rw [q] <;> (refine ⟨_, rfl, ?_⟩; unfold World.noCell; rw [q]; trivial)
/-- A cell of the first is one of the second. -/
theorem WR.cell {R : Ren} {v w : World} (h : WR R v w) {a a' : Addr} (ha : AR R a a') {x : Value} (hx : v.cell? a = some x) :
    ∃ c e fr c' fr' x', v.heap[a.block]? = some (.cells c e fr) ∧ w.heap[a'.block]? = some (.cells c' e fr') ∧ OR R (R.lo a.block) (.cells c e fr) (.cells c' e fr') ∧ a.spot = none ∧ a'.spot = none ∧ a.off < c.size ∧ w.cell? a' = some x' ∧ VR R x x' := by
  unfold World.cell? at hx
  rcases h.kind ha.1 with ⟨c, e, fr, q⟩ | ⟨l, q⟩ | ⟨l, q⟩ | ⟨a0, l, q⟩
  · rw [q] at hx
    simp only at hx
    by_cases hs : a.spot.isSome = true
    · rw [if_pos hs] at hx; cases hx
    · rw [if_neg hs] at hx
      have hsp : a.spot = none := by cases hq : a.spot with | none => rfl | some z => rw [hq] at hs; exact (hs rfl).elim
      have hlt : a.off < c.size := by
        rcases Nat.lt_or_ge a.off c.size with z | z
        · exact z
        · rw [Array.getElem?_eq_none z] at hx; cases hx
      obtain ⟨o', hw, ho⟩ := h.obj _ _ _ ha.1 q
      cases o' with
      | cells c' e' fr' =>
        have ho' := ho
        obtain ⟨rfl, hxr, _⟩ := ho
        obtain ⟨x', h1, h2⟩ := hxr.at ha.2.2.2 hx
        refine ⟨c, e', fr, c', fr', x', q, hw, ho', hsp, ha.2.2.1.trans hsp, hlt, ?_, h2⟩
        unfold World.cell?
        rw [hw]
        simp only [ha.2.2.1, hsp, Option.isSome_none, Bool.false_eq_true, if_false, ha.2.1]
        exact h1
      | _ => exact ho.elim
  · rw [q] at hx; cases hx
  · rw [q] at hx; cases hx
  · rw [q] at hx; cases hx
theorem gu_ev {R : Ren} {v w : World} (h : WR R v w) (e : Event) (he : EvOk R v e) : Gu R R v v w w #[e] :=
  { Gu.refl h with evs := fun x hx => by rw [Array.mem_singleton.1 hx]; exact he }
theorem setCell_heap (w : World) (a : Addr) (y : Value) {c : Array Value} {e : TypeId} {fr : Nat × Nat} (hs : a.spot = none) (h : w.heap[a.block]? = some (.cells c e fr)) (i : Nat) :
    (w.setCell a y).heap[i]? = if a.block = i then some (.cells (c.setIfInBounds a.off y) e fr) else w.heap[i]? := by
  unfold World.setCell
  simp only [Array.getElem?_modify, hs, Option.isSome_none, Bool.false_eq_true, if_false]
  by_cases q : a.block = i
  · subst q; simp [h]
  · simp [q]
theorem frozen_of (w : World) (a : Addr) {c : Array Value} {e : TypeId} {fr : Nat × Nat} (h : w.heap[a.block]? = some (.cells c e fr)) : w.frozen? a = (decide (fr.1 ≤ a.off) && decide (a.off < fr.2)) := by
  unfold World.frozen?; rw [h]
/-- One object of either world is another one of the same make. -/
theorem gu_put {R : Ren} {v w v' w' : World} (h : WR R v w) {b b' : Nat} (hr : R.rel b b') {o o1 p1 : Obj} (ho : v.heap[b]? = some o) (hns : ¬ Shut o) (hns1 : ¬ Shut o1) (hor : OR R (R.lo b) o1 p1)
    (hv : ∀ i : Nat, v'.heap[i]? = if b = i then some o1 else v.heap[i]?) (hw : ∀ i : Nat, w'.heap[i]? = if b' = i then some p1 else w.heap[i]?) (hvs : v'.heap.size = v.heap.size) (hws : w'.heap.size = w.heap.size)
    (hvt : v'.tape = v.tape ∧ v'.drawn = v.drawn) (hwt : w'.tape = w.tape ∧ w'.drawn = w.drawn ∧ w'.os = w.os ∧ w'.output = w.output) (e : Event) (he : Open R v' b' → Seen R b' → EvOk R v' e) : Gu R R v v' w w' #[e] := by
  have hb := h.dom b b' hr
  have hwr : WR R v' w' := by
    refine ⟨h.inj, h.fn, fun x x' hx => by rw [hvs, hws]; exact h.dom x x' hx, fun x x' y hx hy => ?_, by rw [hvs, hws]; exact h.low, h.same, fun k => by rw [hvt.1, hvt.2, hwt.1, hwt.2.1]; exact h.tape k⟩
    rw [hv] at hy
    rw [hw]
    by_cases q : b = x
    · subst q
      rw [if_pos rfl] at hy; cases hy
      rw [if_pos (h.fn _ _ _ hr hx)]
      exact ⟨_, rfl, hor⟩
    · rw [if_neg q] at hy
      have q' : b' ≠ x' := fun z => q (h.inj _ _ _ hr (by rw [z]; exact hx))
      rw [if_neg q']
      exact h.obj x x' y hx hy
  have h1 : v'.heap[b]? = some o1 := by rw [hv, if_pos rfl]
  have hop : Open R v' b' := ⟨b, o1, hr, h1, hns1⟩
  refine ⟨Le.refl R, h, hwr, fun _ _ x => .inl x, by rw [hws]; exact Nat.le_refl _, fun x _ hx => ?_, ⟨hwt.2.2.1, hwt.2.2.2, hwt.1⟩, fun x y hy => ?_, fun x l hx => ?_, fun x hx => ?_⟩
  · rw [hw, if_neg (fun z => hx (by rw [← z]; exact ⟨b, o, hr, ho, hns⟩))]
  · rw [hv]
    by_cases q : b = x
    · subst q
      rw [ho] at hy; cases hy
      rw [if_pos rfl]
      exact ⟨o1, rfl, fun z => absurd z hns, fun z => absurd z hns1⟩
    · rw [if_neg q]
      exact ⟨y, hy, id, id⟩
  · rw [hv] at hx
    by_cases q : b = x
    · rw [if_pos q] at hx
      cases hx
      cases p1 <;> first | exact hor.elim | exact .inr hor.2
    · rw [if_neg q] at hx
      exact .inl hx
  · rw [Array.mem_singleton.1 hx]
    exact he hop ⟨b, hr⟩
/-- Both make a block. -/
def ext (R : Ren) (x x' : Nat) : Ren := { R with rel := fun b b' => R.rel b b' ∨ (b = x ∧ b' = x') }
theorem ext_le (R : Ren) (x x' : Nat) : Le R (ext R x x') := ⟨fun _ _ h => .inl h, fun _ => ⟨Iff.rfl, Iff.rfl⟩, rfl, fun _ => Iff.rfl, rfl⟩
theorem gu_new {R : Ren} {v w : World} (h : WR R v w) {o o' : Obj} (ho : OR R 0 o o') :
    Gu R (ext R v.heap.size w.heap.size) v { v with heap := v.heap.push o } w { w with heap := w.heap.push o' } #[] := by
  have hle := ext_le R v.heap.size w.heap.size
  refine ⟨hle, h, ⟨?_, ?_, ?_, ?_, ⟨⟨by show R.low ≤ (v.heap.push o).size; have := h.low.1.1; simp; omega, h.low.1.2⟩, by show R.low ≤ (w.heap.push o').size; have := h.low.2; simp; omega⟩, ?_, h.tape⟩, ?_, by simp, ?_, ⟨rfl, rfl, rfl⟩, ?_, fun b l hb => ?_, fun _ hx => absurd hx (by simp)⟩
  · rintro b c b' (h1 | ⟨rfl, rfl⟩) (h2 | ⟨rfl, h2⟩)
    · exact h.inj _ _ _ h1 h2
    · have := (h.dom _ _ h1).2; omega
    · have := (h.dom _ _ h2).2; omega
    · rfl
  · rintro b b' c' (h1 | ⟨rfl, rfl⟩) (h2 | ⟨h2, rfl⟩)
    · exact h.fn _ _ _ h1 h2
    · have := (h.dom _ _ h1).1; omega
    · have := (h.dom _ _ h2).1; omega
    · rfl
  · rintro b b' (h1 | ⟨rfl, rfl⟩)
    · have := h.dom _ _ h1; simp; omega
    · simp
  · rintro b b' y (h1 | ⟨rfl, rfl⟩) hy
    · have hd := h.dom _ _ h1
      rw [Array.getElem?_push, if_neg (by omega)] at hy
      obtain ⟨y', e, hor⟩ := h.obj _ _ _ h1 hy
      exact ⟨y', by show (w.heap.push o')[b']? = _; rw [Array.getElem?_push, if_neg (by omega)]; exact e, hor.mono hle⟩
    · rw [Array.getElem?_push, if_pos rfl] at hy
      cases hy
      exact ⟨o', by show (w.heap.push o')[w.heap.size]? = _; rw [Array.getElem?_push, if_pos rfl], by rw [show (ext R v.heap.size w.heap.size).lo v.heap.size = 0 from h.low.1.2 _]; exact ho.mono hle⟩
  · rintro b b' (h1 | ⟨rfl, rfl⟩) hb
    · exact h.same _ _ h1 hb
    · have h0 := h.low.1.1
      have h00 := h.low.2
      have hb' : v.heap.size < R.low ∨ w.heap.size < R.low := hb
      omega
  · rintro b b' (h1 | ⟨rfl, rfl⟩)
    · exact .inl h1
    · exact .inr ⟨Nat.le_refl _, Nat.le_refl _⟩
  · intro b' hb _
    show (w.heap.push o')[b']? = _
    rw [Array.getElem?_push, if_neg (by omega)]
  · intro b y hy
    have hlt : b < v.heap.size := by
      rcases Nat.lt_or_ge b v.heap.size with z | z
      · exact z
      · rw [Array.getElem?_eq_none z] at hy; cases hy
    exact ⟨y, by show (v.heap.push o)[b]? = _; rw [Array.getElem?_push, if_neg (by omega)]; exact hy, id, id⟩
  · have hb : (v.heap.push o)[b]? = some (.deferred l) := hb
    rw [Array.getElem?_push] at hb
    split at hb
    · cases hb
      cases o' <;> first | exact ho.elim | exact .inr ho.2
    · exact .inl hb
theorem VR.notAgg {R : Ren} {x x' : Value} (h : VR R x x') (h1 : ∀ c, x ≠ .agg c) (h2 : ∀ c, x ≠ .tuple c) : (∀ c, x' ≠ .agg c) ∧ ∀ c, x' ≠ .tuple c := by
  have q := h.out
  cases x with
  | agg c => exact absurd rfl (h1 c)
  | tuple c => exact absurd rfl (h2 c)
  | pointer a =>
    cases a with
    | none =>
      rcases q with rfl | q
      · exact ⟨fun _ e => (by cases e), fun _ e => (by cases e)⟩
      · exact ⟨fun _ e => (by rw [e] at q; exact q), fun _ e => (by rw [e] at q; exact q)⟩
    | some a => obtain ⟨_, rfl, _⟩ := q; exact ⟨fun _ e => (by cases e), fun _ e => (by cases e)⟩
  | slice a l c => obtain ⟨_, rfl, _⟩ := q; exact ⟨fun _ e => (by cases e), fun _ e => (by cases e)⟩
  | map a => obtain ⟨_, rfl, _⟩ := q; exact ⟨fun _ e => (by cases e), fun _ e => (by cases e)⟩
  | chan a => obtain ⟨_, rfl, _⟩ := q; exact ⟨fun _ e => (by cases e), fun _ e => (by cases e)⟩
  | func f a b => obtain ⟨_, _, _, rfl, _⟩ := q; exact ⟨fun _ e => (by cases e), fun _ e => (by cases e)⟩
  | iface t v => obtain ⟨_, rfl, _⟩ := q; exact ⟨fun _ e => (by cases e), fun _ e => (by cases e)⟩
  | _ => cases (show x' = _ from q); exact ⟨fun _ e => (by cases e), fun _ e => (by cases e)⟩
theorem runT_storeB {α : Type} (P : Program) (a : Addr) (x : Value) (k : Sem α) (w : World) (es : Array Event) (h1 : ∀ c, x ≠ .agg c) (h2 : ∀ c, x ≠ .tuple c) {z : Value} (hc : w.cell? a = some z) (hf : w.frozen? a = false) :
    (Sem.store .plain a x k).runT P w es = k.runT P (w.setCell a x) (es.push ⟨.cell a, true, false⟩) := by
  cases x with
  | agg c => exact absurd rfl (h1 c)
  | tuple c => exact absurd rfl (h2 c)
  | _ => simp only [Sem.runT, hc, hf]; rfl
theorem runB_store {α : Type} (P : Program) (a : Addr) (x : Value) (k : Sem α) (w : World) (h1 : ∀ c, x ≠ .agg c) (h2 : ∀ c, x ≠ .tuple c) :
    (Sem.store .plain a x k).run P w = match w.cell? a with
      | some _ => if w.frozen? a then .halt (.unsupported (.unsafePointer "a write to bytes that a string shares")) w else k.run P (w.setCell a x)
      | none => match w.farStore P a x false with
        | .ok (w, _) => k.run P w
        | .error h => .halt h w := by
  cases x with
  | agg c => exact absurd rfl (h1 c)
  | tuple c => exact absurd rfl (h2 c)
  | _ => rfl

/-- Terms that do the same, block for block: what runs well in the first world runs as well in the second. -/
def SR (P : Program) {α : Type} (A : Ren → α → α → Prop) (R : Ren) (s s' : Sem α) : Prop :=
  ∀ R2, Le R R2 → ∀ (v w : World) (e2 : Array Event), WR R2 v w → Out A R2 v w (s.run P v) (s'.runT P w e2) e2 ∧ Lc P s v
section
variable {P : Program} {α β : Type} {A : Ren → α → α → Prop} {R : Ren}
theorem push1 (es : Array Event) (e : Event) : es.push e = es ++ #[e] := by simp
theorem SR.mono {s s' : Sem α} (h : SR P A R s s') {R' : Ren} (hl : Le R R') : SR P A R' s s' := fun R2 h2 => h R2 (hl.trans h2)
theorem SR.bind {B : Ren → β → β → Prop} {f f' : α → Sem β} {s s' : Sem α} (h : SR P A R s s') (hf : ∀ (R' : Ren) a a', Le R R' → A R' a a' → SR P B R' (f a) (f' a')) : SR P B R (s.bind f) (s'.bind f') := by
  intro R2 hl v w e2 hw
  obtain ⟨q, ql⟩ := h R2 hl v w e2 hw
  have qf : ∀ a v1, s.run P v = .ok a v1 → Lc P (f a) v1 := fun a v1 e => by
    rw [e] at q
    obtain ⟨R', a', w', es, e, ha, hg⟩ := q
    exact (hf R' a a' (hl.trans hg.le) ha R' (Le.refl R') v1 w' (e2 ++ es) hg.wr).2
  refine ⟨?_, ql.bind qf⟩
  rw [Sem.run_bind', Sem.runT_bind']
  cases hr : s.run P v with
  | ok a v' =>
    rw [hr] at q
    obtain ⟨R', a', w', es, e, ha, hg⟩ := q
    rw [e]
    exact Out.then hg (hf R' a a' (hl.trans hg.le) ha R' (Le.refl R') v' w' (e2 ++ es) hg.wr).1
  | halt x v' => rw [hr] at q; exact q
theorem SR.pure {a a' : α} (h : ∀ R', Le R R' → A R' a a') : SR P A R (.pure a) (.pure a') :=
  fun R2 hl _ w e2 hw => ⟨⟨R2, _, w, #[], by simp [Sem.runT], h R2 hl, Gu.refl hw⟩, fun _ _ => rfl⟩
theorem SR.dead {s : Sem α} (s' : Sem α) (h : ∀ w, (∃ x w', s.run P w = .halt x w' ∧ PlainH x ∧ Dk w w') ∧ Lc P s w) : SR P A R s s' := by
  intro R2 hl v w e2 hw
  obtain ⟨⟨x, w', e, hx⟩, hlc⟩ := h v
  refine ⟨?_, hlc⟩
  rw [e]; exact hx
theorem SR.program {k k' : Program → Sem α} (hk : SR P A R (k P) (k' P)) : SR P A R (.program k) (.program k') := fun R2 hl v w e2 hw => hk R2 hl v w e2 hw
theorem SR.noRoom {k k' : Sem α} (hk : SR P A R k k') : SR P A R (.mark .noRoom k) (.mark .noRoom k') := by
  intro R2 hl v w e2 hw
  have hg : Gu R2 R2 v v w w #[⟨.mark .noRoom, false, true⟩] := gu_ev hw _ trivial
  have := hk R2 hl v w (e2 ++ #[⟨.mark .noRoom, false, true⟩]) hw
  refine ⟨Out.then hg ?_, Lc.step (fun _ => rfl) rfl rfl this.2⟩
  simp only [Sem.run, Sem.runT]
  rw [push1]; exact this.1
theorem SR.load {a a' : Addr} {k k' : Value → Sem α} (ha : AR R a a') (hk : ∀ (R' : Ren) v v', Le R R' → VR R' v v' → SR P A R' (k v) (k' v')) : SR P A R (.load .plain a k) (.load .plain a' k') := by
  intro R2 hl v w e2 hw
  cases hx : v.cell? a with
  | some x =>
    obtain ⟨c, e, fr, c', fr', x', q1, q2, hor, hs, hs', hlt, hc, hvr⟩ := hw.cell (ha.mono hl) hx
    have hg : Gu R2 R2 v v w w #[⟨.cell a', false, false⟩] := gu_ev hw _ ⟨rfl, ⟨_, hl.1 _ _ ha.1⟩, fun z => by cases z⟩
    have := hk R2 x x' hl hvr R2 (Le.refl R2) v w (e2 ++ #[⟨.cell a', false, false⟩]) hw
    have hx' : ∀ τ, (tap τ v).cell? a = some x := fun _ => hx
    refine ⟨Out.then hg ?_, Lc.step (fun τ => by simp only [Sem.run, hx']) rfl rfl this.2⟩
    simp only [Sem.run, hx, Sem.runT, hc]
    rw [push1]; exact this.1
  | none =>
    obtain ⟨e, q, hp⟩ := hw.far P (hl.1 _ _ ha.1) (Mode.plain == Mode.atomic)
    have hx' : ∀ τ, (tap τ v).cell? a = none := fun _ => hx
    have hq' : ∀ τ, (tap τ v).farLoad P a (Mode.plain == Mode.atomic) = .error e := fun _ => q
    refine ⟨?_, Lc.halt (x := e) fun τ => by simp only [Sem.run, hx', hq']⟩
    simp only [Sem.run, hx, q]
    exact ⟨hp, Dk.refl _⟩
theorem SR.store {a a' : Addr} {x x' : Value} {k k' : Sem α} (ha : AR R a a') (hv : VR R x x') (hk : SR P A R k k') : SR P A R (.store .plain a x k) (.store .plain a' x' k') := by
  intro R2 hl v w e2 hw
  by_cases h1 : ∃ c, x = .agg c
  · obtain ⟨c, rfl⟩ := h1; exact ⟨⟨trivial, Dk.refl _⟩, Lc.halt fun _ => rfl⟩
  by_cases h2 : ∃ c, x = .tuple c
  · obtain ⟨c, rfl⟩ := h2; exact ⟨⟨trivial, Dk.refl _⟩, Lc.halt fun _ => rfl⟩
  have h1' : ∀ c, x ≠ .agg c := fun c e => h1 ⟨c, e⟩
  have h2' : ∀ c, x ≠ .tuple c := fun c e => h2 ⟨c, e⟩
  obtain ⟨g1, g2⟩ := hv.notAgg h1' h2'
  have hrun : ∀ τ, (Sem.store .plain a x k).run P (tap τ v) = _ := fun τ => runB_store P a x k (tap τ v) h1' h2'
  rw [runB_store P a x k v h1' h2']
  cases hy : v.cell? a with
  | some y =>
    have hy' : ∀ τ, (tap τ v).cell? a = some y := fun _ => hy
    obtain ⟨c, e, fr, c', fr', y', q1, q2, hor, hs, hs', hlt, hc, _⟩ := hw.cell (ha.mono hl) hy
    cases hf : v.frozen? a with
    | true =>
      have hf' : ∀ τ, (tap τ v).frozen? a = true := fun _ => hf
      exact ⟨⟨trivial, Dk.refl _⟩, Lc.halt (x := .unsupported (.unsafePointer "a write to bytes that a string shares")) fun τ => by rw [hrun τ]; simp only [hy', hf', if_true]⟩
    | false =>
      have hf' : ∀ τ, (tap τ v).frozen? a = false := fun _ => hf
      have hf0 : v.frozen? a = false := hf
      rw [frozen_of v a q1] at hf0
      have hff : w.frozen? a' = false := by
        rw [frozen_of w a' q2, ha.2.1]
        rcases Bool.eq_false_or_eq_true (decide (fr'.1 ≤ a.off) && decide (a.off < fr'.2)) with z | z
        · simp only [Bool.and_eq_true, decide_eq_true_eq] at z
          have := hor.2.2 a.off z.1 z.2
          simp [this] at hf0
        · exact z
      have hns : ¬ Shut (.cells c e fr) := fun z => by
        have := z a.off hlt
        simp [this] at hf0
      have hns1 : ¬ Shut (.cells (c.setIfInBounds a.off x) e fr) := fun z => by
        have := z a.off (by simpa using hlt)
        simp [this] at hf0
      have hor1 : OR R2 (R2.lo a.block) (.cells (c.setIfInBounds a.off x) e fr) (.cells (c'.setIfInBounds a'.off x') e fr') := by
        refine ⟨rfl, ?_, hor.2.2⟩
        rw [ha.2.1]; exact hor.2.1.set _ (hv.mono hl)
      have hg : Gu R2 R2 v (v.setCell a x) w (w.setCell a' x') #[⟨.cell a', true, false⟩] :=
        gu_put hw (hl.1 _ _ ha.1) q1 hns hns1 hor1 (setCell_heap v a x hs q1) (setCell_heap w a' x' hs' q2) (by simp [World.setCell]) (by simp [World.setCell]) ⟨rfl, rfl⟩ ⟨rfl, rfl, rfl, rfl⟩ _ (fun ho hse => ⟨rfl, hse, fun _ => ho⟩)
      have hkk := hk R2 hl _ _ (e2 ++ #[⟨.cell a', true, false⟩]) hg.wr
      refine ⟨Out.then hg ?_, Lc.step (v1 := v.setCell a x) (fun τ => by rw [hrun τ]; simp only [hy', hf', Bool.false_eq_true, if_false]; rfl) rfl rfl hkk.2⟩
      rw [runT_storeB P a' x' k' w e2 g1 g2 hc hff, push1]
      exact hkk.1
  | none =>
    have hy' : ∀ τ, (tap τ v).cell? a = none := fun _ => hy
    obtain ⟨e, q, hp⟩ := hw.farS P (hl.1 _ _ ha.1) x false
    refine ⟨?_, Lc.halt (x := e) fun τ => ?_⟩
    · simp only [q]; exact ⟨hp, Dk.refl _⟩
    · rw [hrun τ]
      simp only [hy', farStore_tap, q, Except.map]
theorem SR.new {o o' : Obj} {k k' : Nat → Sem α} (ho : OR R 0 o o') (hk : ∀ (R' : Ren) r r', Le R R' → R'.rel r r' ∧ R'.lo r = 0 → SR P A R' (k r) (k' r')) : SR P A R (.new o k) (.new o' k') := by
  intro R2 hl v w e2 hw
  have hg := gu_new hw (ho.mono hl)
  have := hk (ext R2 v.heap.size w.heap.size) v.heap.size w.heap.size (hl.trans hg.le) ⟨.inr ⟨rfl, rfl⟩, hw.low.1.2 _⟩ _ (Le.refl _) _ _ (e2 ++ #[]) hg.wr
  refine ⟨Out.then hg ?_, Lc.step (v1 := { v with heap := v.heap.push o }) (fun _ => rfl) rfl rfl this.2⟩
  simpa [Sem.run, Sem.runT] using this.1
theorem SR.getObj {r r' : Nat} {k k' : Obj → Sem α} (hr : R.rel r r') (hk : ∀ (R' : Ren) l0 o o', Le R R' → OR R' l0 o o' → SR P A R' (k o) (k' o')) : SR P A R (.getObj r k) (.getObj r' k') := by
  intro R2 hl v w e2 hw
  have hr' := hl.1 _ _ hr
  rcases hw.kind hr' with ⟨c, e, fr, q⟩ | ⟨l, q⟩ | ⟨l, q⟩ | ⟨a0, l, q⟩
  · refine ⟨?_, Lc.halt (x := .stuck "getObj: a row of cells") fun τ => by simp only [Sem.run, tap, q]⟩
    simp only [Sem.run, q]; exact ⟨trivial, Dk.refl _⟩
  · obtain ⟨o', q', hor⟩ := hw.obj _ _ _ hr' q
    · cases o' with
      | loop l' =>
        have hg : Gu R2 R2 v v w w #[⟨.obj r', false, false⟩] := gu_ev hw _ ⟨rfl, ⟨_, hr'⟩, fun z => by cases z⟩
        have := hk R2 _ _ _ hl hor R2 (Le.refl R2) v w (e2 ++ #[⟨.obj r', false, false⟩]) hw
        refine ⟨Out.then hg ?_, Lc.step (fun τ => by simp only [Sem.run, tap, q]) rfl rfl this.2⟩
        simp only [Sem.run, q, Sem.runT, q']
        rw [push1]; exact this.1
      | _ => exact hor.elim
  · obtain ⟨o', q', hor⟩ := hw.obj _ _ _ hr' q
    · cases o' with
      | deferred l' =>
        have hg : Gu R2 R2 v v w w #[⟨.obj r', false, false⟩] := gu_ev hw _ ⟨rfl, ⟨_, hr'⟩, fun z => by cases z⟩
        have := hk R2 _ _ _ hl hor R2 (Le.refl R2) v w (e2 ++ #[⟨.obj r', false, false⟩]) hw
        refine ⟨Out.then hg ?_, Lc.step (fun τ => by simp only [Sem.run, tap, q]) rfl rfl this.2⟩
        simp only [Sem.run, q, Sem.runT, q']
        rw [push1]; exact this.1
      | _ => exact hor.elim
  · obtain ⟨o', q', hor⟩ := hw.obj _ _ _ hr' q
    · cases o' with
      | number a0' l' =>
        have hg : Gu R2 R2 v v w w #[⟨.obj r', false, false⟩] := gu_ev hw _ ⟨rfl, ⟨_, hr'⟩, fun z => by cases z⟩
        have := hk R2 _ _ _ hl hor R2 (Le.refl R2) v w (e2 ++ #[⟨.obj r', false, false⟩]) hw
        refine ⟨Out.then hg ?_, Lc.step (fun τ => by simp only [Sem.run, tap, q]) rfl rfl this.2⟩
        simp only [Sem.run, q, Sem.runT, q']
        rw [push1]; exact this.1
      | _ => exact hor.elim
/-- A loop, or what one puts off. -/
def LD : Obj → Prop
  | .loop _ => True
  | .deferred _ => True
  | .number _ _ => True
  | _ => False
theorem LD.no {o : Obj} (h : LD o) : ¬ Shut o ∧ o.isChan = false ∧ ∀ c e fr, o ≠ .cells c e fr := by
  cases o <;> first | exact h.elim | exact ⟨fun z => z, rfl, fun _ _ _ z => by cases z⟩
theorem LD.or {R : Ren} {l0 : Nat} {o o' : Obj} (h : LD o) (q : OR R l0 o o') : LD o' := by
  cases o <;> first | exact h.elim | (cases o' <;> first | exact q.elim | trivial)
theorem run_set {v : World} {r : Nat} {o : Obj} (h : v.heap[r]? = some o) (hl : LD o) (o1 : Obj) (k : Sem α) : (Sem.setObj r o1 k).run P v = k.run P { v with heap := v.heap.setIfInBounds r o1 } := by
  simp only [Sem.run, h]
  cases o <;> first | exact hl.elim | rfl
theorem runT_set {v : World} {r : Nat} {o : Obj} (h : v.heap[r]? = some o) (hl : LD o) (o1 : Obj) (h1 : o1.isChan = false) (k : Sem α) (es : Array Event) : (Sem.setObj r o1 k).runT P v es = k.runT P { v with heap := v.heap.setIfInBounds r o1 } (es.push ⟨.obj r, true, false⟩) := by
  simp only [Sem.runT, h, h1]
  cases o <;> first | exact hl.elim | rfl
theorem SR.setObj {r r' : Nat} {o1 o1' : Obj} {k k' : Sem α} (hr : R.rel r r') (hlo : LD o1) (ho : ∀ l0, OR R l0 o1 o1') (hk : SR P A R k k') : SR P A R (.setObj r o1 k) (.setObj r' o1' k') := by
  intro R2 hl v w e2 hw
  have hr' := hl.1 _ _ hr
  have key : ∀ o o2 : Obj, LD o → OR R2 (R2.lo r) o o2 → v.heap[r]? = some o → w.heap[r']? = some o2 → Out A R2 v w ((Sem.setObj r o1 k).run P v) ((Sem.setObj r' o1' k').runT P w e2) e2 ∧ Lc P (Sem.setObj r o1 k) v := by
    intro o o2 hL hor q q'
    have hb := hw.dom _ _ hr'
    have sv : ∀ i : Nat, (v.heap.setIfInBounds r o1)[i]? = if r = i then some o1 else v.heap[i]? := fun i => by
      rw [Array.getElem?_setIfInBounds]
      by_cases z : r = i
      · subst z; simp [hb.1]
      · simp [z]
    have sw : ∀ i : Nat, (w.heap.setIfInBounds r' o1')[i]? = if r' = i then some o1' else w.heap[i]? := fun i => by
      rw [Array.getElem?_setIfInBounds]
      by_cases z : r' = i
      · subst z; simp [hb.2]
      · simp [z]
    have hL2 := hL.or hor
    have hg : Gu R2 R2 v { v with heap := v.heap.setIfInBounds r o1 } w { w with heap := w.heap.setIfInBounds r' o1' } #[⟨.obj r', true, false⟩] :=
      gu_put (v' := { v with heap := v.heap.setIfInBounds r o1 }) (w' := { w with heap := w.heap.setIfInBounds r' o1' }) hw hr' (o := o) (o1 := o1) (p1 := o1') q hL.no.1 hlo.no.1 ((ho _).mono hl) sv sw (by simp) (by simp) ⟨rfl, rfl⟩ ⟨rfl, rfl, rfl, rfl⟩ ⟨.obj r', true, false⟩ (fun hop hse => ⟨rfl, hse, fun _ => hop⟩)
    have hkk := hk R2 hl _ _ (e2 ++ #[⟨.obj r', true, false⟩]) hg.wr
    refine ⟨Out.then hg ?_, Lc.step (v1 := { v with heap := v.heap.setIfInBounds r o1 }) (fun τ => run_set (v := tap τ v) q hL o1 k) rfl rfl hkk.2⟩
    rw [run_set q hL, runT_set q' hL2 o1' (hlo.or (ho 0)).no.2.1, push1]
    exact hkk.1
  rcases hw.kind hr' with ⟨c, e, fr, q⟩ | ⟨l, q⟩ | ⟨l, q⟩ | ⟨a0, l, q⟩
  · refine ⟨?_, Lc.halt (x := .stuck "setObj: a row of cells") fun τ => by simp only [Sem.run, tap, q]⟩
    simp only [Sem.run, q]; exact ⟨trivial, Dk.refl _⟩
  · obtain ⟨o2, q', hor⟩ := hw.obj _ _ _ hr' q
    · exact key (.loop l) o2 trivial hor q q'
  · obtain ⟨o2, q', hor⟩ := hw.obj _ _ _ hr' q
    · exact key (.deferred l) o2 trivial hor q q'
  · obtain ⟨o2, q', hor⟩ := hw.obj _ _ _ hr' q
    · exact key (.number a0 l) o2 trivial hor q q'
theorem SR.choose (q : Question) {k k' : Nat → Sem α} (hk : ∀ n, SR P A R (k n) (k' n)) : SR P A R (.choose q k) (.choose q k') := by
  intro R2 hl v w e2 hw
  cases hf : q.forced with
  | true =>
    have := hk 0 R2 hl v w e2 hw
    refine ⟨?_, Lc.step (fun τ => by simp only [Sem.run, hf, if_true]) rfl rfl this.2⟩
    simp only [Sem.run, Sem.runT, hf, if_true]
    exact this.1
  | false =>
    have e : v.tape v.drawn = w.tape w.drawn := by simpa using hw.tape 0
    have hw1 : WR R2 { v with drawn := v.drawn + 1 } { w with drawn := w.drawn + 1 } := ⟨hw.inj, hw.fn, hw.dom, hw.obj, hw.low, hw.same, fun j => by
      have := hw.tape (1 + j)
      simp only [← Nat.add_assoc] at this
      exact this⟩
    have hg : Gu R2 R2 v { v with drawn := v.drawn + 1 } w { w with drawn := w.drawn + 1 } #[] :=
      { Gu.refl hw with wr := hw1 }
    have this := hk (q.cut (w.tape w.drawn q)) R2 hl _ _ (e2 ++ #[]) hw1
    refine ⟨?_, fun τ hτ => ?_⟩
    · simp only [Sem.run, Sem.runT, hf, Bool.false_eq_true, if_false]
      rw [e]
      refine Out.then hg ?_
      simpa using this.1
    · have h1 := this.2
      rw [← e] at h1
      simp only [Sem.run, hf, Bool.false_eq_true, if_false] at hτ ⊢
      have hm : v.drawn + 1 ≤ (rworld ((k (q.cut (v.tape v.drawn q))).run P { v with drawn := v.drawn + 1 })).drawn := run_mono (P := P) (k (q.cut (v.tape v.drawn q))) { v with drawn := v.drawn + 1 }
      have h0 : v.tape v.drawn = τ v.drawn := hτ v.drawn (Nat.le_refl _) (by omega)
      have e2 : (tap τ v).tape (tap τ v).drawn = v.tape v.drawn := h0.symm
      rw [e2]
      exact h1 τ (fun d h2 h3 => hτ d (by have : v.drawn + 1 ≤ d := h2; omega) h3)
end
end Go.Proofs.YtfbdgdphpdhcpaaDoor.Sm
