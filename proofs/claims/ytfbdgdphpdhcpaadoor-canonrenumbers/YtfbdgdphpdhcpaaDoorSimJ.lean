/-
  Operations, block for block: the guard of ==, conversions, parts put together. Conditions: as in SimF; Zs.
  Operations, block for block: fields, parts put together, conversions between ints, closures; operands. Conditions: Zs.
  One operation, block for block. Conditions: Zs; the operation is one of those that the workers' functions have (OkOp); the functions that a value may name have bodies that may be run (Good).
-/
import Derived.Test.YtfbdgdphpdhcpaaDoorSimG
namespace Go.Proofs.YtfbdgdphpdhcpaaDoor.Sm
open Go

section
variable {P : Program} {R : Ren}
theorem sr_eqGuard (op : BinOp) (t : TypeId) (hs : op = .eql ∨ op = .neq → simpleT P t = true) (x y : Operand) {a a' b b' : Value} (ha : VR R a a') (hb : VR R b b') : SR P EqA R (eqGuard op t x y a b) (eqGuard op t x y a' b') := by
  unfold eqGuard
  by_cases ho : op = .eql ∨ op = .neq
  case neg =>
    cases op <;> first | exact absurd (.inl rfl) ho | exact absurd (.inr rfl) ho | exact sr_eq _
  have hst := hs ho
  have hnil : ∀ {R1 : Ren} (v v' w w' : Value), SR P BA R1 (Op.eqGuardIn Op.maxDepth t v w) (Op.eqGuardIn Op.maxDepth t v' w') := fun v v' w w' => by
    rw [show Op.maxDepth = 9999 + 1 from rfl]
    generalize 9999 = dp
    simp only [Op.eqGuardIn]
    refine (sr_under t).bind' fun R1 d d' hl e => ?_
    obtain ⟨rfl, hd⟩ := e
    have hsd : simpleD d' = true := by unfold simpleT at hst; rw [hd] at hst; exact hst
    cases d' <;> first | cases hsd; done | exact sr_b _
  have qa := ha.out
  have qb := hb.out
  have ho' := ho
  rcases ho' with rfl | rfl
  all_goals
    clear hs ho
    refine SR.ite (fun h => absurd h (by decide)) (fun _ => ?_)
    cases a with
    | nilIface =>
      cases (show a' = _ from qa)
      cases b with
      | nilIface =>
        cases (show b' = _ from qb)
        refine SR.ite (fun _ => sr_eq _) (fun _ => ?_)
        refine (hnil _ _ _ _).bind' fun R1 u u' _ e => ?_
        cases e
        exact SR.ite (fun _ => sr_unsupported _ _) (fun _ => sr_eq _)
      | slice b l c => obtain ⟨b', rfl, hb⟩ := qb; exact sr_eq _
      | map b => obtain ⟨b', rfl, hb⟩ := qb; exact sr_eq _
      | chan b => obtain ⟨b', rfl, hb⟩ := qb; exact sr_eq _
      | pointer b =>
        rcases b with _ | b
        · rcases qb with rfl | qb
          · exact sr_eq _
          · cases b' <;> first | exact qb.elim | exact sr_eq _
        obtain ⟨b', rfl, hb⟩ := qb; exact sr_eq _
      | func f p q => obtain ⟨_, _, _, rfl, _⟩ := qb; exact sr_eq _
      | iface t1 v => obtain ⟨_, rfl, _⟩ := qb; exact sr_eq _
      | agg c => obtain ⟨_, rfl, _⟩ := qb; exact sr_eq _
      | tuple c => obtain ⟨_, rfl, _⟩ := qb; exact sr_eq _
      | _ => cases (show b' = _ from qb); exact sr_eq _
    | agg c =>
      obtain ⟨c', rfl, hc⟩ := qa
      cases b with
      | agg d =>
        obtain ⟨d', rfl, hd⟩ := qb
        refine sr_program.bind' fun R1 p p' _ e => ?_
        obtain ⟨h1, h2⟩ := e
        rw [h1, h2]
        refine sr_program.bind' fun R1 p p' _ e => ?_
        obtain ⟨h1, h2⟩ := e
        rw [h1, h2]
        refine SR.ite (fun _ => sr_eq _) (fun _ => ?_)
        refine (hnil _ _ _ _).bind' fun R1 u u' _ e => ?_
        cases e
        exact SR.ite (fun _ => sr_unsupported _ _) (fun _ => sr_eq _)
      | nilIface => cases (show b' = _ from qb); exact sr_eq _
      | slice b l c => obtain ⟨b', rfl, hb⟩ := qb; exact sr_eq _
      | map b => obtain ⟨b', rfl, hb⟩ := qb; exact sr_eq _
      | chan b => obtain ⟨b', rfl, hb⟩ := qb; exact sr_eq _
      | pointer b =>
        rcases b with _ | b
        · rcases qb with rfl | qb
          · exact sr_eq _
          · cases b' <;> first | exact qb.elim | exact sr_eq _
        obtain ⟨b', rfl, hb⟩ := qb; exact sr_eq _
      | func f p q => obtain ⟨_, _, _, rfl, _⟩ := qb; exact sr_eq _
      | iface t1 v => obtain ⟨_, rfl, _⟩ := qb; exact sr_eq _
      | tuple c => obtain ⟨_, rfl, _⟩ := qb; exact sr_eq _
      | _ => cases (show b' = _ from qb); exact sr_eq _
    | slice a l c => obtain ⟨_, rfl, _⟩ := qa; exact sr_eq _
    | map a => obtain ⟨_, rfl, _⟩ := qa; exact sr_eq _
    | chan a => obtain ⟨_, rfl, _⟩ := qa; exact sr_eq _
    | pointer a =>
      rcases a with _ | a
      · rcases qa with rfl | qa
        · exact sr_eq _
        · cases a' <;> first | exact qa.elim | exact sr_eq _
      obtain ⟨_, rfl, _⟩ := qa; exact sr_eq _
    | func f p q => obtain ⟨_, _, _, rfl, _⟩ := qa; exact sr_eq _
    | iface t1 v => obtain ⟨_, rfl, _⟩ := qa; exact sr_eq _
    | tuple c => obtain ⟨_, rfl, _⟩ := qa; exact sr_eq _
    | _ => cases (show a' = _ from qa); exact sr_eq _
end
end Go.Proofs.YtfbdgdphpdhcpaaDoor.Sm
namespace Go.Proofs.YtfbdgdphpdhcpaaDoor.Sm
open Go

section
variable {P : Program} {R : Ren}
theorem neut_typeInfo (t : TypeId) : Neut P Tr (typeInfo t) := by
  unfold typeInfo
  refine Neut.bind' (G := Tr) (show Neut P Tr (Sem.program _) from trivial) fun p _ => ?_
  split <;> trivial
theorem neut_sizeOf (t : TypeId) : Neut P Tr (sizeOf t) := by
  unfold sizeOf
  exact (neut_typeInfo t).bind' fun _ _ => trivial
theorem neut_mapM {α β : Type} {f : α → Sem β} (h : ∀ a, Neut P Tr (f a)) (as : Array α) : Neut P Tr (as.mapM f) := by
  rw [Array.mapM_eq_mapM_toList]
  have : ∀ l : List α, Neut P Tr (l.mapM f) := by
    intro l
    induction l with
    | nil => simp only [List.mapM_nil]; trivial
    | cons a l ih =>
      rw [List.mapM_cons]
      exact (h a).bind' fun _ _ => ih.bind' fun _ _ => trivial
  rw [← bind_pure_comp]
  exact (this _).bind' fun _ _ => trivial
theorem sr_tr {α : Type} {s : Sem α} (h : Neut P Tr s) : SR P EqA R s s := sr_neut (A := EqA) (fun _ _ _ => rfl) h
/-- Parts with their places. -/
def PL (R : Ren) : List (Nat × Value) → List (Nat × Value) → Prop
  | [], [] => True
  | x :: l, x' :: l' => (x'.1 = x.1 ∧ VR R x.2 x'.2) ∧ PL R l l'
  | _, _ => False
theorem PL.mono {R R' : Ren} (h : Le R R') : ∀ {l l' : List (Nat × Value)}, PL R l l' → PL R' l l'
  | [], [], _ => trivial
  | _ :: _, _ :: _, q => ⟨⟨q.1.1, q.1.2.mono h⟩, PL.mono h q.2⟩
  | [], _ :: _, q => q.elim
  | _ :: _, [], q => q.elim
theorem XR.put {R : Ren} : ∀ {l l' : List Value} (o k : Nat) {c c' : Array Value}, LR R l l' → XR R c c' →
    XR R ((l.zipIdx k).foldl (fun cs (x : Value × Nat) => cs.setIfInBounds (o + x.2) x.1) c) ((l'.zipIdx k).foldl (fun cs (x : Value × Nat) => cs.setIfInBounds (o + x.2) x.1) c')
  | [], [], _, _, _, _, _, h => by simpa using h
  | _ :: _, _ :: _, o, k, _, _, q, h => by
    simp only [List.zipIdx_cons, List.foldl_cons]
    exact XR.put o (k + 1) q.2 (h.set _ q.1)
  | [], _ :: _, _, _, _, _, q, _ => q.elim
  | _ :: _, [], _, _, _, _, q, _ => q.elim
theorem fill_rel (place : Nat → Option (Nat × Nat)) : ∀ {l l' : List (Nat × Value)} {c c' : Array Value}, PL R l l' → XR R c c' →
    match Instr.fill place c l, Instr.fill place c' l' with
    | some z, some z' => XR R z z'
    | none, none => True
    | _, _ => False
  | [], [], _, _, _, h => h
  | (i, v) :: l, (i', v') :: l', c, c', q, h => by
    obtain ⟨⟨e, hv⟩, q⟩ := q
    simp only at e hv
    subst e
    simp only [Instr.fill]
    cases hp : place i' with
    | none => trivial
    | some p =>
      obtain ⟨off, size⟩ := p
      simp only
      have hc := hv.cells
      rw [hc.1, h.1]
      by_cases hb : (decide (v.cells.size ≠ size) || decide (off + v.cells.size > c.size)) = true
      · rw [if_pos hb, if_pos hb]; trivial
      · rw [if_neg hb, if_neg hb]
        have hput : XR R (v.cells.zipIdx.foldl (fun cs (x : Value × Nat) => cs.setIfInBounds (off + x.2) x.1) c) (v'.cells.zipIdx.foldl (fun cs (x : Value × Nat) => cs.setIfInBounds (off + x.2) x.1) c') := by
          have := XR.put off 0 hc.list h
          rw [← Array.foldl_toList, ← Array.foldl_toList]
          simpa using this
        exact fill_rel place q hput
  | [], _ :: _, _, _, q, _ => q.elim
  | _ :: _, [], _, _, q, _ => q.elim
theorem sr_build (hz : Zs P) (t : TypeId) {x x' : Array (Nat × Value)} (h : PL R x.toList x'.toList) : SR P VA R (Instr.build t x) (Instr.build t x') := by
  unfold Instr.build
  refine (sr_zero hz t).bind' fun R1 z z' h1 hzz => ?_
  refine (sr_underlying t).bind' fun R2 d d' h2 e => ?_
  cases e
  have hc := XR.mono h2 hzz.cells
  have hp := PL.mono (h1.trans h2) h
  cases d with
  | struct fields =>
    refine SR.bind' (A := EqA) (sr_tr (neut_mapM (f := fun f : Field => do pure (f.offset, ← sizeOf f.type)) (fun f => (neut_sizeOf f.type).bind' fun _ _ => neut_pure trivial) fields)) fun R3 pl pl' h3 e => ?_
    cases e
    have := fill_rel (fun i => pl[i]?) (PL.mono h3 hp) (XR.mono h3 hc)
    revert this
    cases Instr.fill (fun i => pl[i]?) z.cells x.toList with
    | none => intro _; exact SR.no (dead_halt _) _
    | some c =>
      cases Instr.fill (fun i => pl[i]?) z'.cells x'.toList with
      | none => exact fun q => q.elim
      | some c' => exact fun q => sr_pure fun R4 h4 => VR.agg (XR.mono h4 q)
  | array n elem =>
    refine (sr_sizeOf elem).bind' fun R3 s s' h3 e => ?_
    cases e
    have := fill_rel (fun i => some (i * s, s)) (PL.mono h3 hp) (XR.mono h3 hc)
    revert this
    cases Instr.fill (fun i => some (i * s, s)) z.cells x.toList with
    | none => intro _; exact SR.no (dead_halt _) _
    | some c =>
      cases Instr.fill (fun i => some (i * s, s)) z'.cells x'.toList with
      | none => exact fun q => q.elim
      | some c' => exact fun q => sr_pure fun R4 h4 => VR.agg (XR.mono h4 q)
  | _ => exact SR.no (dead_halt _) _
theorem sr_buildSlice (hz : Zs P) (t : TypeId) (len : Nat) {x x' : Array (Nat × Value)} (h : PL R x.toList x'.toList) : SR P VA R (Instr.buildSlice t len x) (Instr.buildSlice t len x') := by
  unfold Instr.buildSlice
  refine (sr_underlying t).bind' fun R1 d d' h1 e => ?_
  cases e
  cases d with
  | slice elem =>
    refine (sr_sizeOf elem).bind' fun R2 s s' h2 e => ?_
    cases e
    refine SR.ite (fun _ => SR.no (Dead.first (dead_halt _) _) _) (fun _ => ?_)
    have hp := PL.mono (h1.trans h2) h
    have fin : ∀ {R3 : Ren} {z z' : Array Value}, Le R2 R3 → XR R3 z z' →
        SR P VA R3 (match Instr.fill (fun i => some (i * s, s)) ((Array.range (len * s)).map (fun k => z[k % z.size]!)) x.toList with
          | some cells => do pure (.slice (some (← newRow elem cells)) len len)
          | _ => stuck "buildSlice: a part of the wrong size") (match Instr.fill (fun i => some (i * s, s)) ((Array.range (len * s)).map (fun k => z'[k % z'.size]!)) x'.toList with
          | some cells => do pure (.slice (some (← newRow elem cells)) len len)
          | _ => stuck "buildSlice: a part of the wrong size") := fun {R3 z z'} h3 hzz => by
      have := fill_rel (fun i => some (i * s, s)) (PL.mono h3 hp) (hzz.range (len * s))
      revert this
      cases Instr.fill (fun i => some (i * s, s)) ((Array.range (len * s)).map (fun k => z[k % z.size]!)) x.toList with
      | none => intro _; exact SR.no (dead_halt _) _
      | some c =>
        cases Instr.fill (fun i => some (i * s, s)) ((Array.range (len * s)).map (fun k => z'[k % z'.size]!)) x'.toList with
        | none => exact fun q => q.elim
        | some c' => exact fun q => (sr_newRow elem q).bind' fun R4 a a' _ ha => sr_pure fun R5 h5 => VR.slice (a := some a) (a' := some a') (AR.mono h5 ha) _ _
    refine SR.ite (fun _ => ?_) (fun _ => ?_)
    · exact SR.bind' (sr_pure (A := XA) fun _ _ => XR.nil) fun R3 z z' h3 hzz => fin h3 hzz
    · refine (sr_zero hz elem).bind' fun R3 z z' h3 hzz => ?_
      exact SR.bind' (sr_pure (A := XA) fun R4 h4 => XR.mono h4 hzz.cells) fun R5 z z' h5 hzz => fin (h3.trans h5) hzz
  | _ => exact SR.no (dead_halt _) _
theorem sr_convertInt (src dst : TypeId) (k k' : IntKind) (hs : P.underlying src = some (.int k)) (hd : P.underlying dst = some (.int k')) {x x' : Value} (hx : VR R x x') : SR P VA R (convert src dst x) (convert src dst x') := by
  unfold convert
  refine (sr_under src).bind' fun R1 d d' h1 e => ?_
  obtain ⟨rfl, e⟩ := e
  rw [hs] at e; cases e
  refine (sr_under dst).bind' fun R2 d d' h2 e => ?_
  obtain ⟨rfl, e⟩ := e
  rw [hd] at e; cases e
  have q := (hx.mono (h1.trans h2)).out
  cases x with
  | int k2 n => cases (show x' = _ from q); exact sr_intToInt _ _
  | float k2 n =>
    cases (show x' = _ from q)
    show SR P VA R2 (Conv.floatToInt k2 n k') (Conv.floatToInt k2 n k')
    unfold Conv.floatToInt
    have hany : SR P VA R2 (do pure (.int k' (k'.wrap (← choose (.floatToInt k2 n k'))))) (do pure (.int k' (k'.wrap (← choose (.floatToInt k2 n k'))))) :=
      (sr_choose _).bind' fun R3 n n' _ e => by cases e; exact sr_int _ _
    simp only
    split
    · exact SR.ite (fun _ => sr_int _ _) (fun _ => hany)
    · exact hany
  | pointer a => cases a <;> exact SR.no (dead_halt _) _
  | _ => exact SR.no (dead_halt _) _
theorem sr_fieldAt (s : TypeId) (f : Nat) (h0 : ∀ fs fd i, P.underlying s = some (.struct fs) → fs[f]? = some fd → P.info? fd.type = some i → i.size ≠ 0) {x x' : Value} (hx : VR R x x') : SR P VA R (Instr.fieldAt s x f) (Instr.fieldAt s x' f) := by
  unfold Instr.fieldAt
  refine (sr_under s).bind' fun R1 d d' h1 e => ?_
  obtain ⟨rfl, hd⟩ := e
  cases d' with
  | struct fs =>
    simp only
    cases hf : fs[f]? with
    | none => exact SR.no (dead_halt _) _
    | some fd =>
      refine (sr_sure (hx.mono h1)).bind' fun R2 a a' h2 ha => ?_
      unfold fieldPlace sizeOf
      refine SR.bind' (A := DA) ?_ fun R3 b b' h3 hb => sr_ptr hb
      refine SR.bind' (A := fun _ n n' => n' = n ∧ n ≠ 0) ((sr_info fd.type).bind' fun R3 i i' h3 e => ?_) fun R4 n n' h4 e => ?_
      · obtain ⟨rfl, hi⟩ := e
        exact sr_pure fun _ _ => ⟨rfl, h0 fs fd _ hd hf hi⟩
      · obtain ⟨rfl, hn⟩ := e
        rw [if_neg hn, if_neg hn]
        exact sr_pure (A := DA) fun R5 h5 => (AR.mono (h4.trans h5) ha).add _
  | _ => exact SR.no (dead_halt _) _
theorem sr_makeFunc {f f' : Fn} (hf : FnR R f f') {x x' y y' : Array Value} (hx : XR R x x') (hy : XR R y y') : SR P VA R (Instr.makeFunc f x y) (Instr.makeFunc f' x' y') :=
  sr_pure fun _ h => VR.func (hf.mono h) (XR.mono h hx) (XR.mono h hy)
end
end Go.Proofs.YtfbdgdphpdhcpaaDoor.Sm
namespace Go.Proofs.YtfbdgdphpdhcpaaDoor.Sm
open Go

def OkX (R : Ren) : Operand → Prop
  | .tmp _ => True
  | .const v => ∀ R' : Ren, VR R' v v
  | .global g => R.rel g g ∧ R.lo g = 0
  | .func f => R.fns f
def OkXs (R : Ren) (xs : Array Operand) : Prop := ∀ x ∈ xs, OkX R x
def OkO (R : Ren) : Option Operand → Prop
  | none => True
  | some x => OkX R x
/-- Two ways to read operands. -/
def ER (R : Ren) (ρ ρ' : Operand → Value) : Prop := ∀ x, OkX R x → VR R (ρ x) (ρ' x)
def OkC (P : Program) (R : Ren) (c : Call) : Prop := OkXs R c.args ∧ match c.callee with
  | .value f => OkX R f
  | .builtin b => b = .append ∨ (b = .len ∧ lenB P c.argTypes = true) ∨ b = .clear
  | .invoke .. => False
def OkOp (P : Program) (R : Ren) : Op → Prop
  | .move x | .assign x | .nilCheck x | .box _ x | .load _ x | .unOp _ _ x | .field _ x _ | .extract x _ => OkX R x
  | .pick a b c => OkX R a ∧ OkX R b ∧ OkX R c
  | .alloc _ => True
  | .build _ parts | .buildSlice _ _ parts => ∀ p ∈ parts, OkX R p.2
  | .store _ a x | .makeSlice _ a x | .indexAddr _ a x | .index _ a x => OkX R a ∧ OkX R x
  | .binOp op t x y _ => OkX R x ∧ OkX R y ∧ (op = .eql ∨ op = .neq → simpleT P t = true)
  | .convert s d x => OkX R x ∧ ∃ k k', P.underlying s = some (.int k) ∧ P.underlying d = some (.int k')
  | .makeFunc (.func f) a b => R.fns f ∧ OkXs R a ∧ OkXs R b
  | .slice _ x lo hi mx => OkX R x ∧ OkO R lo ∧ OkO R hi ∧ OkO R mx
  | .fieldAddr s x f => OkX R x ∧ ∀ fs fd i, P.underlying s = some (.struct fs) → fs[f]? = some fd → P.info? fd.type = some i → i.size ≠ 0
  | .call c => OkC P R c
  | _ => False
/-- Code that may be run, one layer. -/
def OkCode (P : Program) (R : Ren) : Code → Prop
  | .skip | .label _ | .ret | .exit _ => True
  | .seq a b => R.ok a ∧ R.ok b
  | .cond x a b => OkX R x ∧ R.ok a ∧ R.ok b
  | .block _ c | .loop c | .scope c => R.ok c
  | .region _ ops _ => ∀ o ∈ ops, OkOp P R o.op
  | .rangeFunc f _ a b => OkX R f ∧ R.ok a ∧ R.ok b
  | _ => False
theorem OkX.mono {R R' : Ren} (hl : Le R R') {x : Operand} (h : OkX R x) : OkX R' x := by
  cases x with
  | tmp t => trivial
  | const v => exact h
  | global g => exact ⟨hl.1 _ _ h.1, by rw [hl.2.2.2.2]; exact h.2⟩
  | func f => exact (hl.2.1 _).1.1 h
theorem OkO.mono {R R' : Ren} (hl : Le R R') {x : Option Operand} (h : OkO R x) : OkO R' x := by
  cases x with
  | none => trivial
  | some x => exact OkX.mono hl h
theorem OkOp.mono {P : Program} {R R' : Ren} (hl : Le R R') {o : Op} (h : OkOp P R o) : OkOp P R' o := by
  cases o with
  | move x => exact OkX.mono hl h
  | assign x => exact OkX.mono hl h
  | nilCheck x => exact OkX.mono hl h
  | pick a b c => exact ⟨h.1.mono hl, h.2.1.mono hl, h.2.2.mono hl⟩
  | alloc t => trivial
  | box t x => exact OkX.mono hl h
  | build t ps => exact fun p hp => (h p hp).mono hl
  | buildSlice t n ps => exact fun p hp => (h p hp).mono hl
  | load t a => exact OkX.mono hl h
  | store t a x => exact ⟨h.1.mono hl, h.2.mono hl⟩
  | binOp op t x y yt => exact ⟨h.1.mono hl, h.2.1.mono hl, h.2.2⟩
  | unOp op t x => exact OkX.mono hl h
  | convert s d x => exact ⟨h.1.mono hl, h.2⟩
  | makeFunc fn a b =>
    cases fn with
    | func f => exact ⟨(hl.2.1 _).1.1 h.1, fun x hx => (h.2.1 x hx).mono hl, fun x hx => (h.2.2 x hx).mono hl⟩
    | _ => exact h.elim
  | makeSlice t l c => exact ⟨h.1.mono hl, h.2.mono hl⟩
  | slice t x lo hi mx => exact ⟨h.1.mono hl, h.2.1.mono hl, h.2.2.1.mono hl, h.2.2.2.mono hl⟩
  | fieldAddr s x f => exact ⟨h.1.mono hl, h.2⟩
  | field t x f => exact OkX.mono hl h
  | indexAddr t x i => exact ⟨h.1.mono hl, h.2.mono hl⟩
  | index t x i => exact ⟨h.1.mono hl, h.2.mono hl⟩
  | extract x i => exact OkX.mono hl h
  | call c =>
    refine ⟨fun x hx => (h.1 x hx).mono hl, ?_⟩
    have h2 := h.2
    revert h2
    cases c.callee with
    | value f => exact fun h2 => OkX.mono hl h2
    | builtin b => exact fun h2 => h2
    | invoke r n => exact fun h2 => h2.elim
  | _ => exact h.elim
theorem OkCode.mono {P : Program} {R R' : Ren} (hl : Le R R') {c : Code} (h : OkCode P R c) : OkCode P R' c := by
  cases c with
  | seq a b => exact ⟨(hl.2.2.2.1 _).1 h.1, (hl.2.2.2.1 _).1 h.2⟩
  | cond x a b => exact ⟨h.1.mono hl, (hl.2.2.2.1 _).1 h.2.1, (hl.2.2.2.1 _).1 h.2.2⟩
  | block i c => exact (hl.2.2.2.1 _).1 h
  | loop c => exact (hl.2.2.2.1 _).1 h
  | scope c => exact (hl.2.2.2.1 _).1 h
  | region i ops d => exact fun o ho => OkOp.mono hl (h o ho)
  | rangeFunc f ps a b => exact ⟨h.1.mono hl, (hl.2.2.2.1 _).1 h.2.1, (hl.2.2.2.1 _).1 h.2.2⟩
  | _ => first | trivial | exact h.elim
structure Good (P : Program) (R : Ren) : Prop where
  low : P.globals.size ≤ R.low
  fns : ∀ f, R.fns f → ∃ fn body, P.funcs[f]? = some fn ∧ fn.body = some body ∧ R.ok body ∧ (fn.name == "runtime.NumGoroutine") = false
  known : ∀ f, R.fns f → R.kn f
  kn : ∀ f, R.kn f → ∃ fn, P.funcs[f]? = some fn
  code : ∀ c, R.ok c → OkCode P R c
  ret : R.ok .ret
  exits : ∀ id, R.ok (.exit id)
section
variable {P : Program} {R : Ren} {ρ ρ' : Operand → Value}
theorem Good.hB (h : Good P R) : ∀ f, R.fns f → ∃ fn, P.funcs[f]? = some fn ∧ fn.body.isSome = true ∧ (fn.name == "runtime.NumGoroutine") = false := fun f hf => by
  obtain ⟨fn, body, h1, h2, _, h3⟩ := h.fns f hf
  exact ⟨fn, h1, by rw [h2]; rfl, h3⟩
theorem Good.mono (h : Good P R) {R' : Ren} (hl : Le R R') : Good P R' := ⟨by rw [hl.2.2.1]; exact h.low, fun f hf => by
  obtain ⟨fn, body, h1, h2, h3, h4⟩ := h.fns f ((hl.2.1 f).1.2 hf)
  exact ⟨fn, body, h1, h2, (hl.2.2.2.1 _).1 h3, h4⟩, fun f hf => (hl.2.1 f).2.1 (h.known f ((hl.2.1 f).1.2 hf)), fun f hf => h.kn f ((hl.2.1 f).2.2 hf), fun c hc => (h.code c ((hl.2.2.2.1 _).2 hc)).mono hl, (hl.2.2.2.1 _).1 h.ret, fun id => (hl.2.2.2.1 _).1 (h.exits id)⟩
theorem ER.args (he : ER R ρ ρ') {xs : Array Operand} (h : OkXs R xs) : XR R (xs.map ρ) (xs.map ρ') := by
  refine ⟨by simp, fun i v v' hv hv' => ?_⟩
  rw [Array.getElem?_map] at hv hv'
  cases e : xs[i]? with
  | none => rw [e] at hv; cases hv
  | some x =>
    rw [e] at hv hv'
    cases hv; cases hv'
    exact he x (h x (Array.mem_of_getElem? e))
theorem ER.opt (he : ER R ρ ρ') {x : Option Operand} (h : OkO R x) : VO R (x.map ρ) (x.map ρ') := by
  cases x with
  | none => trivial
  | some x => exact he x h
theorem ER.parts (he : ER R ρ ρ') {xs : Array (Nat × Operand)} (h : ∀ p ∈ xs, OkX R p.2) : PL R (xs.map fun p => (p.1, ρ p.2)).toList (xs.map fun p => (p.1, ρ' p.2)).toList := by
  obtain ⟨xs⟩ := xs
  simp only [List.map_toArray]
  have h' : ∀ p ∈ xs, OkX R p.2 := fun p hp => h p (by simpa using hp)
  clear h
  induction xs with
  | nil => trivial
  | cons x xs ih => exact ⟨⟨rfl, he _ (h' x (by simp))⟩, ih fun p hp => h' p (by simp [hp])⟩
theorem sr_callv (hg : Good P R) {v v' : Value} (hv : VR R v v') {xs xs' : Array Value} (hx : XR R xs xs') :
    SR P NA R (do let d ← Deferred.ofValue v xs; invoke d.target d.args) (do let d ← Deferred.ofValue v' xs'; invoke d.target d.args) := by
  have q := hv.out
  unfold Deferred.ofValue
  cases v with
  | func fn x y =>
    obtain ⟨fn', x', y', rfl, hf, hx1, hy1⟩ := q
    have hall := XR.append (XR.append hx1 hx) hy1
    cases fn with
    | func f =>
      cases fn' with
      | func f' =>
        obtain ⟨rfl, hf⟩ := hf
        exact sr_callFunc hg.hB hf hall
      | _ => exact hf.elim
    | yield l =>
      cases fn' with
      | yield l' => exact sr_yield hf (XR.append hx1 hx)
      | _ => exact hf.elim
    | _ => cases fn' <;> exact hf.elim
  | nilFunc =>
    cases (show v' = _ from q)
    exact SR.no (show Dead P (runtimePanic .nilDeref : Sem Next) from dead_rt _) _
  | _ => exact SR.no (Dead.first (dead_halt _) _) _
theorem sr_clear (hz : Zs P) (ts : Array TypeId) (t : TypeId) {x x' : Array Value} (h : XR R x x') : SR P VA R (Builtin.clear_ ts t x) (Builtin.clear_ ts t x') := by
  unfold Builtin.clear_
  cases e0 : ts[0]? with
  | none => exact SR.no (dead_halt _) _
  | some t0 =>
    cases e1 : x[0]? with
    | none => exact SR.no (dead_halt _) _
    | some v =>
      obtain ⟨v', e2, hv⟩ := h.at e1
      rw [e2]
      simp only
      refine (sr_underlying t0).bind' fun R1 d d' q1 e => ?_
      cases e
      have q := (hv.mono q1).out
      have hret : ∀ {R2 : Ren}, SR P VA R2 (pure (.tuple #[])) (pure (.tuple #[])) := sr_pure fun _ _ => VR.tuple XR.nil
      cases v with
      | slice a n c =>
        obtain ⟨a', rfl, ha⟩ := q
        cases a with
        | none =>
          cases a' with
          | none => cases d <;> exact (sr_eq ()).bind' fun _ _ _ _ _ => hret
          | some a' => exact ha.elim
        | some a =>
          cases a' with
          | none => exact ha.elim
          | some a' =>
            cases n with
            | zero => cases d <;> exact (sr_eq ()).bind' fun _ _ _ _ _ => hret
            | succ n =>
              cases d with
              | slice elem =>
                exact (sr_zero hz elem).bind' fun R2 z z' q2 hzz => (sr_storeCells 0 (AR.mono q2 ha) (XR.list (hzz.cells.zeroCells _))).bind' fun _ _ _ _ _ => hret
              | _ => exact SR.no (Dead.first (dead_halt _) _) _
      | map r =>
        obtain ⟨r', rfl, hr⟩ := q
        cases r with
        | none =>
          cases r' with
          | none => cases d <;> exact (sr_eq ()).bind' fun _ _ _ _ _ => hret
          | some r' => exact hr.elim
        | some r =>
          cases r' with
          | none => exact hr.elim
          | some r' =>
            have key : ∀ {f f' : Obj → Sem Value}, (∀ (R3 : Ren) o o', (∃ l0, OR R3 l0 o o') → SR P VA R3 (f o) (f' o')) → SR P VA R1 (getObj r >>= f) (getObj r' >>= f') := fun hf => (sr_getObj hr).bind' fun R3 o o' _ ho => hf R3 o o' ho
            cases d <;> refine key fun R3 o o' ho => ?_
            all_goals obtain ⟨_, ho⟩ := ho
            all_goals
              cases o with
              | map a b => cases o' <;> exact ho.elim
              | _ => exact SR.no (Dead.first (dead_halt _) _) _
      | _ => cases d <;> exact SR.no (Dead.first (dead_halt _) _) _
theorem sr_call (hz : Zs P) (hg : Good P R) (he : ER R ρ ρ') (c : Call) (h : OkC P R c) (t : TypeId) :
    SR P NA R (do let d ← resolve ρ c t; invoke d.target d.args) (do let d ← resolve ρ' c t; invoke d.target d.args) := by
  obtain ⟨ha, hc⟩ := h
  have hx := he.args ha
  unfold resolve
  cases hcc : c.callee with
  | builtin b =>
    rw [hcc] at hc
    refine SR.bind' (A := fun R d d' => d = { target := .builtin b c.argTypes t (c.args.map fun | .const _ => true | _ => false), args := c.args.map ρ } ∧ d' = { target := .builtin b c.argTypes t (c.args.map fun | .const _ => true | _ => false), args := c.args.map ρ' }) (sr_pure fun _ _ => ⟨rfl, rfl⟩) fun R1 d d' hl e => ?_
    obtain ⟨rfl, rfl⟩ := e
    rcases hc with rfl | ⟨rfl, hlen⟩ | rfl
    · exact sr_value (sr_append hz _ _ (XR.mono hl hx))
    · exact sr_value (sr_len _ _ hlen (XR.mono hl hx))
    · exact sr_value (sr_clear hz _ _ (XR.mono hl hx))
  | value f =>
    rw [hcc] at hc
    exact sr_callv hg (he f hc) hx
  | invoke r n => rw [hcc] at hc; exact hc.elim
theorem sr_execOp (hz : Zs P) (hg : Good P R) (he : ER R ρ ρ') (o : Oper) (h : OkOp P R o.op) : SR P NA R (execOp ρ o) (execOp ρ' o) := by
  obtain ⟨dst, op, ty, pos, after, guard⟩ := o
  simp only at h
  cases op with
  | move x => exact sr_pure fun _ hl => (he x h).mono hl
  | assign x => exact sr_pure fun _ hl => (he x h).mono hl
  | nilCheck x =>
    have hv := he x h
    unfold execOp
    simp only
    generalize ρ x = v at hv ⊢
    generalize ρ' x = v' at hv ⊢
    have q := hv.out
    cases v with
    | pointer a =>
      cases a with
      | none => exact SR.no (dead_rt _) _
      | some a =>
        obtain ⟨a', rfl, ha⟩ := q
        exact sr_pure fun _ hl => hv.mono hl
    | nilFunc => exact SR.no (dead_rt _) _
    | nilIface => exact SR.no (dead_rt _) _
    | func fn a b =>
      obtain ⟨fn', a', b', rfl, hf, _, _⟩ := q
      cases fn <;> cases fn' <;> first | exact hf.elim | exact sr_pure fun _ hl => hv.mono hl
    | bool b => cases (show v' = _ from q); exact sr_pure fun _ hl => hv.mono hl
    | int k n => cases (show v' = _ from q); exact sr_pure fun _ hl => hv.mono hl
    | float k n => cases (show v' = _ from q); exact sr_pure fun _ hl => hv.mono hl
    | complex k n m => cases (show v' = _ from q); exact sr_pure fun _ hl => hv.mono hl
    | string s => cases (show v' = _ from q); exact sr_pure fun _ hl => hv.mono hl
    | slice a n c => obtain ⟨a', rfl, _⟩ := q; exact sr_pure fun _ hl => hv.mono hl
    | map a => obtain ⟨a', rfl, _⟩ := q; exact sr_pure fun _ hl => hv.mono hl
    | chan a => obtain ⟨a', rfl, _⟩ := q; exact sr_pure fun _ hl => hv.mono hl
    | iface t u => obtain ⟨a', rfl, _⟩ := q; exact sr_pure fun _ hl => hv.mono hl
    | agg c => obtain ⟨a', rfl, _⟩ := q; exact sr_pure fun _ hl => hv.mono hl
    | tuple c => obtain ⟨a', rfl, _⟩ := q; exact sr_pure fun _ hl => hv.mono hl
  | pick a b c =>
    refine (sr_asBool (he a h.1)).bind' fun R1 u u' hl e => ?_
    cases e
    cases u
    · exact sr_pure fun _ h2 => (he c h.2.2).mono (hl.trans h2)
    · exact sr_pure fun _ h2 => (he b h.2.1).mono (hl.trans h2)
  | alloc t => exact sr_value (sr_alloc hz t _)
  | box t x => exact sr_value (sr_box t (he x h))
  | build t ps => exact sr_value (sr_build hz t (he.parts h))
  | buildSlice t n ps => exact sr_value (sr_buildSlice hz t n (he.parts h))
  | load t a => exact sr_value (sr_loadAt t (he a h))
  | store t a x => exact sr_skip (sr_storeAt t (he a h.1) (he x h.2))
  | binOp op t x y yt =>
    refine sr_value ?_
    refine (sr_eqGuard op t h.2.2 x y (he x h.1) (he y h.2.1)).bind' fun R1 u u' hl _ => ?_
    exact sr_binOp (by rw [hl.2.2.1]; exact hg.low) op t h.2.2 ((he x h.1).mono hl) ((he y h.2.1).mono hl)
  | unOp op t x => exact sr_value (sr_unary op (he x h))
  | convert s d x =>
    obtain ⟨hx, k, k', h1, h2⟩ := h
    exact sr_value (sr_convertInt s d k k' h1 h2 (he x hx))
  | makeFunc fn a b =>
    cases fn with
    | func f => exact sr_value (sr_makeFunc (f := .func f) (f' := .func f) ⟨rfl, h.1⟩ (he.args h.2.1) (he.args h.2.2))
    | _ => exact h.elim
  | makeSlice t l c => exact sr_value (sr_makeSlice hz t (he l h.1) (he c h.2))
  | slice t x lo hi mx => exact sr_value (sr_sliceAt t (he x h.1) (he.opt h.2.1) (he.opt h.2.2.1) (he.opt h.2.2.2))
  | fieldAddr s x f => exact sr_value (sr_fieldAt s f h.2 (he x h.1))
  | field t x f => exact sr_value (sr_field t (he x h) f)
  | indexAddr t x i => exact sr_value (sr_indexAt t (he x h.1) (he i h.2))
  | index t x i => exact sr_value (sr_index t (he x h.1) (he i h.2))
  | extract x i => exact sr_value (sr_extract (he x h) i)
  | call c => exact sr_call hz hg he c h ty
  | _ => exact h.elim
end
end Go.Proofs.YtfbdgdphpdhcpaaDoor.Sm
