/-
  Frames that differ in the numbers of blocks alone; what an operation's outcome makes of them. Conditions: as in SimJ.
  What an operation's outcome makes of a goroutine, block for block. Conditions: as in SimJ.
  One step of a goroutine, block for block. Conditions: as in SimJ; the first goroutine is not at the return to what lies below.
-/
import Derived.Conc.Own
import Derived.Test.YtfbdgdphpdhcpaaDoorSimJ
namespace Go.Proofs.YtfbdgdphpdhcpaaDoor.Sm
open Go Go.Conc

def IR (P : Program) (R : Ren) : Item → Item → Prop
  | .code c, .code c' => c' = c ∧ R.ok c
  | .inBlock i, .inBlock i' => i' = i
  | .inLoop b, .inLoop b' => b' = b ∧ R.ok b
  | .inScope b, .inScope b' => b' = b ∧ R.ok b
  | .inRegion ops l, .inRegion ops' l' => (ops' = ops ∧ l' = l) ∧ ∀ i ∈ l, ∀ o, ops[i]? = some o → OkOp P R o.op
  | .inRangeFunc l, .inRangeFunc l' => R.rel l l'
  | .endRangeFunc l, .endRangeFunc l' => R.rel l l'
  | .beginRound, .beginRound => True
  | _, _ => False
/-- The end of a piece of code. -/
def Mk (l : List Item) : Prop := ∃ s, l = [.code (.refuse s)]
/-- What is to be done; if b, the second one has more to do behind the first one's end. -/
def IsR (P : Program) (R : Ren) (b : Tl) : List Item → List Item → Prop
  | [], [] => True
  | x :: l, x' :: l' => (IR P R x x' ∧ IsR P R b l l') ∨ ((∃ D, b = some (x' :: l', D)) ∧ Mk (x :: l))
  | x :: l, [] => (∃ D, b = some ([], D)) ∧ Mk (x :: l)
  | [], _ :: _ => False
theorem IsR.out {P : Program} {R : Ren} {b : Tl} {l l' : List Item} (h : IsR P R b l l') (hn : ¬ Mk l) : (l = [] ∧ l' = []) ∨ ∃ x k x' k', l = x :: k ∧ l' = x' :: k' ∧ IR P R x x' ∧ IsR P R b k k' := by
  cases l with
  | nil =>
    cases l' with
    | nil => exact .inl ⟨rfl, rfl⟩
    | cons x' k' => exact h.elim
  | cons x k =>
    cases l' with
    | nil => exact absurd h.2 hn
    | cons x' k' =>
      rcases h with h | h
      · exact .inr ⟨x, k, x', k', rfl, rfl, h⟩
      · exact absurd h.2 hn
structure FR (P : Program) (R : Ren) (b : Tl) (f f' : Frame) : Prop where
  fn : f'.fn = f.fn ∧ R.kn f.fn
  tm : XR R f.tmps f'.tmps
  td : IsR P R b f.todo f'.todo
  df : CLR R b f.defers f'.defers
  md : f'.mode = f.mode ∧ (f.mode = .run ∨ f.mode = .returning)
  kd : (f'.kind = b.knd ∧ b.knd ≠ .early) ∧ f.kind = .normal
  ro : ONR R f.roundOf f'.roundOf
def FsR (P : Program) (R : Ren) (t : Tl) : List Frame → List Frame → Prop
  | [], [] => True
  | f :: l, f' :: l' => (FR P R (tl t l.isEmpty) f f' ∧ f.mode = .run ∧ ¬ Mk f.todo) ∧ FsR P R t l l'
  | _, _ => False
section
variable {P : Program} {R R' : Ren}
theorem IR.mono (hl : Le R R') {x x' : Item} (h : IR P R x x') : IR P R' x x' := by
  cases x <;> cases x' <;> first
    | exact h.elim
    | exact ⟨h.1, (hl.2.2.2.1 _).1 h.2⟩
    | exact ⟨h.1, fun i hi o ho => OkOp.mono hl (h.2 i hi o ho)⟩
    | exact hl.1 _ _ h
    | exact h
theorem IsR.mono {b : Tl} (hl : Le R R') : ∀ {l l' : List Item}, IsR P R b l l' → IsR P R' b l l'
  | [], [], _ => trivial
  | _ :: _, _ :: _, h => h.imp (fun h => ⟨h.1.mono hl, IsR.mono hl h.2⟩) id
  | [], _ :: _, h => h.elim
  | _ :: _, [], h => h
theorem FR.mono {b : Tl} (hl : Le R R') {f f' : Frame} (h : FR P R b f f') : FR P R' b f f' :=
  ⟨⟨h.fn.1, (hl.2.1 _).2.1 h.fn.2⟩, XR.mono hl h.tm, IsR.mono hl h.td, CLR.mono hl h.df, h.md, h.kd, ONR.mono hl h.ro⟩
theorem FsR.mono {t : Tl} (hl : Le R R') : ∀ {l l' : List Frame}, FsR P R t l l' → FsR P R' t l l'
  | [], [], _ => trivial
  | _ :: _, _ :: _, h => ⟨⟨h.1.1.mono hl, h.1.2⟩, FsR.mono hl h.2⟩
  | [], _ :: _, h => h.elim
  | _ :: _, [], h => h.elim
theorem XR.getD {x x' : Array Value} (h : XR R x x') (i : Nat) : VR R (x.getD i undef) (x'.getD i undef) := by
  rw [Array.getD_eq_getD_getElem?, Array.getD_eq_getD_getElem?]
  cases e : x[i]? with
  | none => rw [h.none e]; exact VR.tuple XR.nil
  | some v => obtain ⟨v', e', hv⟩ := h.at e; rw [e']; exact hv
theorem FR.eval {b : Tl} {f f' : Frame} (h : FR P R b f f') : ER R f.eval f'.eval := by
  intro x hx
  cases x with
  | tmp t => exact h.tm.getD t
  | const v => exact hx R
  | global g => exact VR.pointer (a := some _) (a' := some _) ⟨hx.1, rfl, rfl, by rw [hx.2]; exact Nat.le_refl _⟩
  | func f => exact VR.func (f := .func f) (f' := .func f) ⟨rfl, hx⟩ XR.nil XR.nil
theorem XR.yields {x x' : Array Value} (h : XR R x x') (ops : Array Oper) : yielded ops x' = yielded ops x := by
  funext j
  unfold Go.yielded
  cases (ops[j]?).bind (·.dst) with
  | none => rfl
  | some d =>
    simp only [Option.bind_some]
    cases e : x[d]? with
    | none => rw [h.none e]
    | some v =>
      obtain ⟨v', e', hv⟩ := h.at e
      rw [e']
      have q := hv.out
      cases v with
      | pointer a =>
        rcases a with _ | a
        · rcases q with rfl | q
          · rfl
          · cases v' <;> first | exact q.elim | rfl
        obtain ⟨_, rfl, _⟩ := q; rfl
      | slice a l c => obtain ⟨_, rfl, _⟩ := q; rfl
      | map a => obtain ⟨_, rfl, _⟩ := q; rfl
      | chan a => obtain ⟨_, rfl, _⟩ := q; rfl
      | func f a b => obtain ⟨_, _, _, rfl, _⟩ := q; rfl
      | iface t v => obtain ⟨_, rfl, _⟩ := q; rfl
      | agg c => obtain ⟨_, rfl, _⟩ := q; rfl
      | tuple c => obtain ⟨_, rfl, _⟩ := q; rfl
      | _ => cases (show v' = _ from q); rfl
theorem FR.finish {b : Tl} {f f' : Frame} (h : FR P R b f f') (hm : ¬ Mk f.todo) {v v' : Value} (hv : VR R v v') : FR P R b (f.finish v) (f'.finish v') := by
  obtain ⟨fn, tm, td, df, md, kd, ro⟩ := f
  obtain ⟨fn', tm', td', df', md', kd', ro'⟩ := f'
  obtain ⟨h1, h2, h3, h4, h5, h6, h7⟩ := h
  simp only at h1 h2 h3 h4 h5 h6 h7
  cases td with
  | nil =>
    cases td' with
    | nil => exact ⟨h1, h2, h3, h4, h5, h6, h7⟩
    | cons x l => exact h3.elim
  | cons x l =>
    cases td' with
    | nil => exact absurd h3.2 hm
    | cons x' l' =>
      obtain ⟨hx, hl⟩ := h3.resolve_right fun q => hm q.2
      cases x with
      | inRegion ops il =>
        cases x' with
        | inRegion ops' il' =>
          obtain ⟨⟨rfl, e2⟩, ho⟩ := hx
          subst e2
          cases il' with
          | nil => exact ⟨h1, h2, .inl ⟨⟨⟨rfl, rfl⟩, ho⟩, hl⟩, h4, h5, h6, h7⟩
          | cons i r =>
            simp only [Frame.finish]
            refine ⟨h1, ?_, .inl ⟨⟨⟨rfl, rfl⟩, fun j hj => ho j (List.mem_cons_of_mem _ hj)⟩, hl⟩, h4, h5, h6, h7⟩
            show XR R (match (ops'[i]?).bind (·.dst) with | some d => tm.setIfInBounds d v | none => tm) (match (ops'[i]?).bind (·.dst) with | some d => tm'.setIfInBounds d v' | none => tm')
            cases (ops'[i]?).bind (·.dst) with
            | none => exact h2
            | some d => exact h2.set d hv
        | _ => exact hx.elim
      | inRangeFunc r =>
        cases x' with
        | inRangeFunc r' => exact ⟨h1, h2, .inl ⟨hx, hl⟩, h4, h5, h6, h7⟩
        | _ => exact hx.elim
      | beginRound =>
        cases x' with
        | beginRound => exact ⟨h1, h2, hl, h4, h5, h6, h7⟩
        | _ => exact hx.elim
      | call d w r s => cases x' <;> exact hx.elim
      | extern r a => cases x' <;> exact hx.elim
      | _ => cases x' <;> first | exact hx.elim | exact ⟨h1, h2, .inl ⟨hx, hl⟩, h4, h5, h6, h7⟩
theorem finish_run (f : Frame) (v : Value) : (f.finish v).mode = f.mode ∧ (f.finish v).roundOf = f.roundOf := by
  unfold Frame.finish
  split <;> exact ⟨rfl, rfl⟩
theorem XR.rep (n : Nat) : XR R (Array.replicate n undef) (Array.replicate n undef) := by
  refine ⟨rfl, fun i v v' h h' => ?_⟩
  rw [Array.getElem?_replicate] at h h'
  split at h
  · rename_i hi
    rw [if_pos hi] at h'
    cases h; cases h'
    exact VR.tuple XR.nil
  · cases h
theorem FR.enter (hg : Good P R) {f : FuncId} (hf : R.fns f) {x x' : Array Value} (hx : XR R x x') : FR P R none (Frame.enter P f x .normal) (Frame.enter P f x' .normal) := by
  obtain ⟨fn, body, h1, h2, h3, _⟩ := hg.fns f hf
  refine ⟨⟨rfl, hg.known f hf⟩, ?_, ?_, rfl, ⟨rfl, .inl rfl⟩, ⟨⟨rfl, fun q => by cases q⟩, rfl⟩, trivial⟩
  · show XR R (x ++ Array.replicate _ undef) (x' ++ Array.replicate _ undef)
    rw [hx.1]
    exact XR.append hx (XR.rep _)
  · show IsR P R none [.code _] [.code _]
    simp only [h1, Option.bind_some, h2, Option.getD_some]
    exact .inl ⟨⟨rfl, h3⟩, trivial⟩
theorem FR.round {l l' : Nat} (hl : R.rel l l') {f : FuncId} (hf : R.kn f) {x x' : Array Value} (hx : XR R x x') {a b : Code} (ha : R.ok a) (hb : R.ok b) : FR P R none (Frame.round l f x a b .normal) (Frame.round l' f x' a b .normal) :=
  ⟨⟨rfl, hf⟩, hx, .inl ⟨⟨rfl, ha⟩, .inl ⟨trivial, .inl ⟨⟨rfl, hb⟩, trivial⟩⟩⟩, rfl, ⟨rfl, .inl rfl⟩, ⟨⟨rfl, fun q => by cases q⟩, rfl⟩, hl⟩
/-- The frame that lies at the bottom is no round of a loop. -/
def Bot (f : Frame) : List Frame → Prop
  | [] => f.roundOf = none
  | c :: l => Bot c l
theorem Bot.same {f g : Frame} (h : g.roundOf = f.roundOf) : ∀ {l : List Frame}, Bot f l → Bot g l
  | [], q => h.trans q
  | _ :: _, q => q
theorem Bot.todo {f : Frame} {l : List Frame} {k : List Item} (h : Bot f l) : Bot { f with todo := k } l := Bot.same (f := f) (g := { f with todo := k }) rfl h
/-- Goroutines, what is below apart. -/
def GR (P : Program) (R : Ren) (t : Tl) (lc rc : List Frame) (g g' : Goroutine) : Prop :=
  ∃ fr cs fr' cs', g = G fr (cs ++ lc) ∧ g' = G fr' (cs' ++ rc) ∧ FR P R (tl t cs.isEmpty) fr fr' ∧ FsR P R t cs cs' ∧ Bot fr cs
/-- A frame that a panic passes: nothing is put off in it. -/
def Pd (P : Program) (v : World) (f : Frame) : Prop :=
  (∃ fn, P.funcs[f.fn]? = some fn) ∧ ∀ d ∈ f.defers, ∃ r, d = { target := .collected r, args := #[] } ∧ ∀ l, v.heap[r]? = some (.deferred l) → l = none ∨ l = some []
/-- A panic is on its way. -/
def Pan (P : Program) (lc : List Frame) (g : Goroutine) (v : World) : Prop :=
  ∃ (fr : Frame) (cs : List Frame) (chain : List PanicEntry), g = G fr (cs ++ lc) ∧ fr.mode = .panicking chain ∧ Pd P v fr ∧ ∀ c ∈ cs, c.mode = .run ∧ Pd P v c
theorem CLR.pd {b : Tl} {v w : World} (hw : WR R v w) : ∀ {l l' : List Deferred}, CLR R b l l' → ∀ d ∈ l, ∃ r, d = { target := .collected r, args := #[] } ∧ ∀ x, v.heap[r]? = some (.deferred x) → x = none ∨ x = some []
  | [], _, _, d, hd => by simp at hd
  | _ :: _, _ :: _, ⟨⟨r, r', e1, _, e3⟩, h⟩, d, hd => by
    rcases List.mem_cons.1 hd with rfl | hd
    · refine ⟨r, e1, fun x hx => ?_⟩
      obtain ⟨o', _, ho⟩ := hw.obj r r' _ e3 hx
      cases o' <;> first | exact ho.elim | exact ho.2
    · exact CLR.pd hw h d hd
  | _ :: _, [], h, _, _ => h.elim
theorem FR.pd {b : Tl} {v w : World} (hg : Good P R) (hw : WR R v w) {f f' : Frame} (h : FR P R b f f') : Pd P v f := by
  obtain ⟨fn, h1⟩ := hg.kn f.fn h.fn.2
  exact ⟨⟨fn, h1⟩, h.df.pd hw⟩
theorem FsR.pd {t : Tl} {v w : World} (hg : Good P R) (hw : WR R v w) : ∀ {l l' : List Frame}, FsR P R t l l' → ∀ c ∈ l, c.mode = .run ∧ Pd P v c
  | [], [], _, c, hc => by simp at hc
  | _ :: _, _ :: _, h, c, hc => by
    rcases List.mem_cons.1 hc with rfl | hc
    · exact ⟨h.1.2.1, h.1.1.pd hg hw⟩
    · exact FsR.pd hg hw h.2 c hc
  | [], _ :: _, h, _, _ => h.elim
  | _ :: _, [], h, _, _ => h.elim
theorem mem_seen {fn : FuncId} {es : Array Event} {e : Event} (h : e ∈ seen P fn es) : e ∈ es := by
  have key : ∀ (l : List Event) (x : Bool × Array Event), e ∈ (l.foldl (fun (x : Bool × Array Event) (e : Event) => match x with
      | (q, kept) => match e.loc with
        | .mark (.extern f) => ((P.funcs[f]?).any (·.norace), kept)
        | _ => (q, if q && !e.sync then kept else kept.push e)) x).2 → e ∈ x.2 ∨ e ∈ l := by
    intro l
    induction l with
    | nil => intro x h; exact .inl h
    | cons a l ih =>
      intro x h
      simp only [List.foldl_cons] at h
      rcases ih _ h with h | h
      · obtain ⟨q, kept⟩ := x
        simp only at h
        split at h
        · exact .inl h
        · simp only at h
          split at h
          · exact .inl h
          · rcases Array.mem_push.1 h with h | h
            · exact .inl h
            · exact .inr (by simp [h])
      · exact .inr (by simp [h])
  unfold seen at h
  simp only at h
  rw [← Array.foldl_toList] at h
  rcases key es.toList _ h with h | h
  · simp at h
  · exact Array.mem_toList_iff.1 h
theorem Gu.seenE {R R' : Ren} {v v' w w' : World} {es : Array Event} (h : Gu R R' v v' w w' es) (fn : FuncId) : Gu R R' v v' w w' (Go.seen P fn es) :=
  { h with evs := fun e he => h.evs e (mem_seen he) }
end
end Go.Proofs.YtfbdgdphpdhcpaaDoor.Sm
namespace Go.Proofs.YtfbdgdphpdhcpaaDoor.Sm
open Go Go.Conc

section
variable {P : Program} {R : Ren} {t : Tl} {lc rc : List Frame}
/-- What comes out of a step of the first goroutine: a panic is on its way, or the second one does the same. -/
def Sim (P : Program) (t : Tl) (lc rc : List Frame) (R : Ren) (v w : World) (g1 : Goroutine) (v1 : World) (s2 : GStep) : Prop :=
  Pan P lc g1 v1 ∨ ∃ R' g1' w1 es, s2 = .go g1' w1 es ∧ GR P R' t lc rc g1 g1' ∧ Gu R R' v v1 w w1 es
theorem Gu.none {R R' : Ren} {v v' w w' : World} {es : Array Event} (h : Gu R R' v v' w w' es) : Gu R R' v v' w w' (es ++ #[]) := by simpa using h
theorem FR.enter' (hg : Good P R) {f : FuncId} (hf : R.fns f) {x x' : Array Value} (hx : XR R x x') {k k' : CallKind} (hk : k = .normal) (hk' : k' = .normal) : FR P R none (Frame.enter P f x k) (Frame.enter P f x' k') := by
  subst hk hk'; exact FR.enter hg hf hx
theorem raise_pan {v v1 : World} {fr : Frame} {cs : List Frame} (hd : Dk v v1) (hrun : fr.mode = .run ∨ fr.mode = .returning) (h1 : Pd P v fr) (h2 : ∀ c ∈ cs, c.mode = .run ∧ Pd P v c) (vs : List PanicEntry) :
    Pan P lc (G (fr.raise vs) (cs ++ lc)) v1 := by
  have hst : ∀ f : Frame, Pd P v f → Pd P v1 f := fun f h => ⟨h.1, fun d hd' => by
    obtain ⟨r, e, q⟩ := h.2 d hd'
    refine ⟨r, e, fun l hl => ?_⟩
    rcases hd r l hl with h | h
    · exact q l h
    · exact h⟩
  have hm : fr.raise vs = { fr with mode := .panicking vs } := by
    unfold Frame.raise
    rcases hrun with h | h <;> rw [h]
  rw [hm]
  exact ⟨_, cs, vs, rfl, rfl, hst _ h1, fun c hc => ⟨(h2 c hc).1, hst _ (h2 c hc).2⟩⟩
theorem run_runT {α : Type} (s : Sem α) (v : World) : (s.runT P v #[]).1 = s.run P v := by rw [Sem.runT_eq]
theorem sim_apply (hg : Good P R) {fr fr' : Frame} {cs cs' : List Frame} (hf : FR P R (tl t cs.isEmpty) fr fr') (hmk : ¬ Mk fr.todo) (hrun : fr.mode = .run) (hc : FsR P R t cs cs') (hb : Bot fr cs) {s s' : Sem Next} (hs : SR P NA R s s') {v w : World} (hw : WR R v w)
    {g1 : Goroutine} {v1 : World} {es1 : Array Event} (hst : stepG.apply P true fr (cs ++ lc) none s v = .go g1 v1 es1) :
    Sim P t lc rc R v w g1 v1 (stepG.apply P true fr' (cs' ++ rc) none s' w) := by
  have q := (hs R (Le.refl R) v w #[] hw).1
  have hk : (fr.kind == CallKind.early) = false := by rw [hf.kd.2]; rfl
  have hk' : (fr'.kind == CallKind.early) = false := by rw [hf.kd.1.1]; exact beq_eq_false_iff_ne.2 hf.kd.1.2
  have hfn : fr'.fn = fr.fn := hf.fn.1
  have hno : ∀ {f f' : Frame}, ¬ Mk f.todo → IsR P R (tl t cs.isEmpty) f.todo f'.todo → (∀ d b r s l, f.todo ≠ .call d b r s :: l) ∧ ∀ d b r s l, f'.todo ≠ .call d b r s :: l := fun {f f'} hn ht => by
    rcases ht.out hn with ⟨e1, e2⟩ | ⟨x, k, x', k', e1, e2, hx, _⟩
    · rw [e1, e2]
      exact ⟨fun _ _ _ _ _ e => by simp at e, fun _ _ _ _ _ e => by simp at e⟩
    · rw [e1, e2]
      refine ⟨fun _ _ _ _ _ e => ?_, fun _ _ _ _ _ e => ?_⟩
      · cases e; exact hx.elim
      · cases e; cases x <;> exact hx.elim
  obtain ⟨n1, n2⟩ := hno hmk hf.td
  have hrt := run_runT (P := P) s v
  unfold stepG.apply at hst ⊢
  simp only [hk, hk', hfn, if_true, Bool.false_eq_true, if_false] at hst ⊢
  cases hr : s.runT P v #[] with
  | mk r es =>
    rw [hr] at hst hrt
    simp only at hst hrt
    rw [← hrt] at q
    cases r with
    | ok n v' =>
      obtain ⟨R', n', w', es', e, hn, hgu⟩ := q
      rw [e]
      simp only at hst ⊢
      have hn : NR R' n n' := hn
      have hl := hgu.le
      have hgu' : Gu R R' v v' w w' (Go.seen P fr.fn (#[] ++ es')) := by
        have := hgu.seenE (P := P) fr.fn
        simpa using this
      have hfm := hf.mono hl
      have hcm := FsR.mono hl hc
      cases n with
      | value x =>
        cases n' with
        | value x' =>
          simp only [GStep.after, GStep.go.injEq] at hst
          obtain ⟨e1, e2, _⟩ := hst
          subst e1
          subst e2
          exact .inr ⟨R', _, w', _, rfl, ⟨_, cs, _, cs', rfl, rfl, hfm.finish hmk hn, hcm, hb.same (finish_run fr x).2⟩, hgu'.none⟩
        | _ => exact hn.elim
      | skip =>
        cases n' with
        | skip =>
          simp only [GStep.after, GStep.go.injEq] at hst
          obtain ⟨e1, e2, _⟩ := hst
          subst e1
          subst e2
          exact .inr ⟨R', _, w', _, rfl, ⟨_, cs, _, cs', rfl, rfl, hfm.finish hmk (VR.tuple XR.nil), hcm, hb.same (finish_run fr undef).2⟩, hgu'.none⟩
        | _ => exact hn.elim
      | enter f xs =>
        cases n' with
        | enter f' xs' =>
          obtain ⟨⟨rfl, hfn2⟩, hx⟩ := hn
          simp only [GStep.after, GStep.go.injEq] at hst
          obtain ⟨e1, e2, _⟩ := hst
          subst e1
          subst e2
          exact .inr ⟨R', _, w', _, rfl, ⟨_, fr :: cs, _, fr' :: cs', rfl, rfl, FR.enter' (hg.mono hl) hfn2 hx (by split <;> first | rfl | (rename_i z; exact (n1 _ _ _ _ _ z).elim)) (by split <;> first | rfl | (rename_i z; exact (n2 _ _ _ _ _ z).elim)), ⟨⟨hfm, hrun, hmk⟩, hcm⟩, hb⟩, hgu'.none⟩
        | _ => exact hn.elim
      | round l f xs a b =>
        cases n' with
        | round l' f' xs' a' b' =>
          obtain ⟨hll, ⟨rfl, hff⟩, hx, rfl, rfl, ka, kb⟩ := hn
          simp only [GStep.after, GStep.go.injEq] at hst
          obtain ⟨e1, e2, _⟩ := hst
          subst e1
          subst e2
          exact .inr ⟨R', _, w', _, rfl, ⟨_, fr :: cs, _, fr' :: cs', rfl, rfl, FR.round hll hff hx ka kb, ⟨⟨hfm, hrun, hmk⟩, hcm⟩, hb⟩, hgu'.none⟩
        | _ => exact hn.elim
      | _ => cases n' <;> exact hn.elim
    | halt x v' =>
      have q : PlainH x ∧ Dk v v' := q
      cases x with
      | panic pv =>
        simp only [GStep.after, GStep.go.injEq] at hst
        obtain ⟨e1, e2, _⟩ := hst
        subst e1
        subst e2
        exact .inl (raise_pan q.2 (.inl hrun) (hf.pd hg hw) (FsR.pd hg hw hc) _)
      | stuck m => simp only [GStep.after] at hst; cases hst
      | unsupported u =>
        cases u <;> first | exact q.1.elim | (simp only [GStep.after] at hst; cases hst)
      | _ => exact q.1.elim
end
end Go.Proofs.YtfbdgdphpdhcpaaDoor.Sm
namespace Go.Proofs.YtfbdgdphpdhcpaaDoor.Sm
open Go Go.Conc

section
variable {P : Program} {R : Ren} {t : Tl} {lc rc : List Frame}
theorem LR.arr {R : Ren} : ∀ {l l' : List Value}, LR R l l' → XR R l.toArray l'.toArray := by
  intro l l' h
  have hlen : ∀ {l l' : List Value}, LR R l l' → l'.length = l.length := fun {l l'} => by
    induction l generalizing l' with
    | nil => cases l' with | nil => intro _; rfl | cons _ _ => intro h; exact h.elim
    | cons a l ih => cases l' with | nil => intro h; exact h.elim | cons b l' => intro h; simp [ih h.2]
  refine ⟨by simp [hlen h], fun i v v' hv hv' => ?_⟩
  simp only [List.getElem?_toArray] at hv hv'
  induction l generalizing l' i with
  | nil => simp at hv
  | cons a l ih =>
    cases l' with
    | nil => exact h.elim
    | cons b l' =>
      cases i with
      | zero => simp at hv hv'; subst hv; subst hv'; exact h.1
      | succ i => exact ih h.2 i (by simpa using hv) (by simpa using hv')
theorem sr_mapM {α : Type} {f f' : α → Sem Value} : ∀ (l : List α) {R : Ren}, (∀ a (R' : Ren), Le R R' → SR P VA R' (f a) (f' a)) → SR P (fun R l l' => LR R l l') R (l.mapM f) (l.mapM f')
  | [], R, _ => by
    rw [List.mapM_nil, List.mapM_nil]
    exact sr_pure (A := fun R l l' => LR R l l') fun _ _ => trivial
  | a :: l, R, h => by
    rw [List.mapM_cons, List.mapM_cons]
    refine (h a R (Le.refl R)).bind' fun R1 x x' h1 hx => ?_
    refine (sr_mapM l fun b R' hl => h b R' (h1.trans hl)).bind' fun R2 y y' h2 hy => ?_
    exact sr_pure (A := fun R l l' => LR R l l') fun R3 h3 => ⟨VR.mono (h2.trans h3) hx, LR.mono h3 hy⟩
theorem sr_results (fn : Func) {x x' : Array Value} (h : XR R x x') : SR P VA R (results fn x) (results fn x') := by
  unfold results
  rw [Array.mapM_eq_mapM_toList, Array.mapM_eq_mapM_toList, ← bind_pure_comp, ← bind_pure_comp]
  refine SR.bind' (A := XA) (SR.bind' (A := fun R l l' => LR R l l') (sr_mapM _ fun a R' hl => ?_) fun R1 l l' _ hl => sr_pure fun R2 h2 => XR.mono h2 hl.arr) fun R1 vs vs' h1 hv => ?_
  · cases a with
    | tmp t => exact sr_pure fun R2 h2 => ((XR.mono (hl.trans h2) h).getD t)
    | cell a t => exact (sr_asAddr ((XR.mono hl h).getD a)).bind' fun R2 b b' _ hb => sr_loadVar t hb
  · refine sr_pure fun R2 h2 => ?_
    have hv : XR R1 vs vs' := hv
    by_cases e : vs.size = 1
    · have e' : vs'.size = 1 := hv.1.trans e
      rw [dif_pos e, dif_pos e']
      exact (XR.mono h2 hv).2 0 _ _ (Array.getElem?_eq_getElem (by omega)) (Array.getElem?_eq_getElem (by omega))
    · have e' : ¬ vs'.size = 1 := fun z => e (hv.1.symm.trans z)
      rw [dif_neg e, dif_neg e']
      exact VR.tuple (XR.mono h2 hv)
theorem stepG_exec {m : Bool} {fr : Frame} {cs : List Frame} {w : World} (h : fr.mode = .run) : stepG P m (G fr cs) w = stepG.exec P m true fr cs none w := by
  unfold stepG
  simp only [G, h]
theorem stepG_unwind {m : Bool} {fr : Frame} {cs : List Frame} {w : World} (h : fr.mode = .returning) : stepG P m (G fr cs) w = unwind P m fr cs none w := by
  unfold stepG
  simp only [G, h]
theorem exitTo_rel {b : Tl} (id : Nat) : ∀ {l l' : List Item}, IsR P R b l l' → (exitTo id l = none ∧ (b = none → exitTo id l' = none)) ∨ ∃ k k', exitTo id l = some k ∧ exitTo id l' = some k' ∧ IsR P R b k k'
  | [], [], _ => .inl ⟨rfl, fun _ => rfl⟩
  | x :: l, x' :: l', .inr h => by
    obtain ⟨s, e⟩ := h.2
    refine .inl ⟨?_, fun q => ?_⟩
    · rw [e]; rfl
    · rw [q] at h
      obtain ⟨_, z⟩ := h.1
      cases z
  | x :: l, x' :: l', .inl h => by
    have ih := exitTo_rel id h.2
    have hx := h.1
    cases x with
    | inBlock i =>
      cases x' with
      | inBlock i' =>
        have hx : i' = i := hx
        subst hx
        unfold exitTo
        by_cases e : (i' == id) = true
        · rw [if_pos e, if_pos e]; exact .inr ⟨l, l', rfl, rfl, h.2⟩
        · rw [if_neg e, if_neg e]; exact ih
      | _ => exact hx.elim
    | _ => cases x' <;> first | exact hx.elim | exact ih
  | [], _ :: _, h => h.elim
  | x :: l, [], h => by
    obtain ⟨s, e⟩ := h.2
    refine .inl ⟨?_, fun _ => rfl⟩
    rw [e]; rfl
theorem sim_unwind {m m' : Bool} (hg : Good P R) {fr fr' : Frame} {cs cs' : List Frame} (hf : FR P R (tl t cs.isEmpty) fr fr') (hret : fr.mode = .returning) (hc : FsR P R t cs cs') (hb : Bot fr cs) {v w : World} (hw : WR R v w) (hstop : fr.defers = [] → cs ≠ [])
    {g1 : Goroutine} {v1 : World} {es1 : Array Event} (hst : unwind P m fr (cs ++ lc) none v = .go g1 v1 es1) : Sim P t lc rc R v w g1 v1 (unwind P m' fr' (cs' ++ rc) none w) := by
  have hdf := hf.df
  have hret' : fr'.mode = .returning := hf.md.1.trans hret
  unfold unwind at hst ⊢
  cases hd : fr.defers with
  | nil =>
    rw [hd] at hst hdf
    cases hd' : fr'.defers with
    | cons d l =>
      rw [hd'] at hdf
      exfalso
      cases cs with
      | nil => exact hstop hd rfl
      | cons a l2 => cases (show d :: l = [] from hdf)
    | nil =>
      obtain ⟨fn, h1⟩ := hg.kn fr.fn hf.fn.2
      simp only [hret, hret', hf.fn.1, h1] at hst ⊢
      have q := ((sr_results (P := P) fn hf.tm) R (Le.refl R) v w #[] hw).1
      have hrt := run_runT (P := P) (results fn fr.tmps) v
      cases hr : (results fn fr.tmps).runT P v #[] with
      | mk r es =>
        rw [hr] at hst hrt
        simp only at hst hrt
        rw [← hrt] at q
        cases r with
        | ok x v' =>
          obtain ⟨R', x', w', es', e, hx, hgu⟩ := q
          rw [e]
          simp only at hst ⊢
          cases cs with
          | nil => exact absurd rfl (hstop hd)
          | cons c cs =>
            cases cs' with
            | nil => exact hc.elim
            | cons c' cs' =>
              obtain ⟨⟨hcf, hcr⟩, hc2⟩ := hc
              have hkn : fr'.kind = .normal := hf.kd.1.1
              simp only [List.cons_append, doReturn, hkn, hf.kd.2, GStep.after, GStep.go.injEq] at hst ⊢
              obtain ⟨e1, e2, _⟩ := hst
              subst e1
              subst e2
              have hgu' : Gu R R' v v' w w' (Go.seen P fr.fn (#[] ++ es')) := by
                have := hgu.seenE (P := P) fr.fn
                simpa using this
              exact .inr ⟨R', _, w', _, rfl, ⟨_, cs, _, cs', rfl, rfl, (hcf.mono hgu.le).finish hcr.2 hx, FsR.mono hgu.le hc2, Bot.same (finish_run c x).2 hb⟩, hgu'.none⟩
        | halt x v' =>
          exfalso
          cases x <;> (simp only [GStep.after] at hst; cases hst)
  | cons d l =>
    rw [hd] at hst hdf
    cases hd' : fr'.defers with
    | nil => rw [hd'] at hdf; exact hdf.elim
    | cons d' l' =>
      rw [hd'] at hdf
      obtain ⟨⟨r, r', rfl, rfl, hr0⟩, hdl⟩ := hdf
      simp only [hf.fn.1] at hst ⊢
      have q := ((sr_takeDeferred (P := P) hr0) R (Le.refl R) v w #[] hw).1
      have hrt := run_runT (P := P) (Instr.takeDeferred r) v
      cases hr : (Instr.takeDeferred r).runT P v #[] with
      | mk rs es =>
        rw [hr] at hst hrt
        simp only at hst hrt
        rw [← hrt] at q
        cases rs with
        | ok x v' =>
          obtain ⟨R', x', w', es', e, hx, hgu⟩ := q
          obtain ⟨rfl, rfl⟩ := hx
          rw [e]
          simp only [GStep.after, GStep.go.injEq, List.nil_append] at hst ⊢
          obtain ⟨e1, e2, _⟩ := hst
          subst e1
          subst e2
          have hgu' : Gu R R' v v' w w' (Go.seen P fr.fn (#[] ++ es')) := by
            have := hgu.seenE (P := P) fr.fn
            simpa using this
          have hfm := hf.mono hgu.le
          exact .inr ⟨R', _, w', _, rfl, ⟨_, cs, _, cs', rfl, rfl, ⟨⟨rfl, hfm.fn.2⟩, hfm.tm, hfm.td, hdl.mono hgu.le, hfm.md, hfm.kd, hfm.ro⟩, FsR.mono hgu.le hc, Bot.same (f := fr) (g := { fr with defers := l }) rfl hb⟩, hgu'.none⟩
        | halt x v' =>
          exfalso
          simp only [GStep.after] at hst
          cases hst
end
end Go.Proofs.YtfbdgdphpdhcpaaDoor.Sm
