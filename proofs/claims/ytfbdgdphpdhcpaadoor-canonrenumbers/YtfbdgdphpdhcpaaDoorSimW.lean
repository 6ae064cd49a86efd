/-
  One step of a goroutine that runs, block for block. Conditions: as in SimJ.
-/
import Derived.Test.YtfbdgdphpdhcpaaDoorSimU
namespace Go.Proofs.YtfbdgdphpdhcpaaDoor.Sm
open Go Go.Conc

section
variable {P : Program} {R : Ren} {t : Tl} {lc rc : List Frame}
/-- A frame with something else to do. -/
theorem FR.to {b : Tl} {f f' : Frame} (h : FR P R b f f') {k k' : List Item} (hk : IsR P R b k k') : FR P R b { f with todo := k } { f' with todo := k' } := ⟨h.fn, h.tm, hk, h.df, h.md, h.kd, h.ro⟩
theorem sim_to {fr fr' : Frame} {cs cs' : List Frame} (hf : FR P R (tl t cs.isEmpty) fr fr') (hc : FsR P R t cs cs') (hb : Bot fr cs) {v w : World} (hw : WR R v w) {k k' : List Item} (hk : IsR P R (tl t cs.isEmpty) k k') {g1 : Goroutine} {v1 : World} {es1 : Array Event}
    (hst : GStep.go { frame := { fr with todo := k }, callers := cs ++ lc, status := .running, dying := none } v #[] = .go g1 v1 es1) :
    Sim P t lc rc R v w g1 v1 (.go { frame := { fr' with todo := k' }, callers := cs' ++ rc, status := .running, dying := none } w #[]) := by
  simp only [GStep.go.injEq] at hst
  obtain ⟨e1, e2, _⟩ := hst
  subst e1
  subst e2
  exact .inr ⟨R, _, w, _, rfl, ⟨_, cs, _, cs', rfl, rfl, hf.to hk, hc, Bot.same (f := fr) (g := { fr with todo := k }) rfl hb⟩, Gu.refl hw⟩
theorem sim_leave {m m' : Bool} {fr fr' : Frame} {cs cs' : List Frame} (hf : FR P R (tl t cs.isEmpty) fr fr') (hc : FsR P R t cs cs') (hb : Bot fr cs) {v w : World} (hw : WR R v w) (j : Option Code) (hj : ∀ c, j = some c → R.ok c) (b : Bool)
    {g1 : Goroutine} {v1 : World} {es1 : Array Event} {G0 G0' : GStep}
    (h0 : fr.roundOf = none → G0 = (if b = true then .go { frame := { fr with mode := .returning }, callers := cs ++ lc, status := .running, dying := none } v else .ended (.stuck "exit, goto: no such block or label" (fr.pos P)) v))
    (h0' : fr'.roundOf = none → G0' = (if b = true then .go { frame := { fr' with mode := .returning }, callers := cs' ++ rc, status := .running, dying := none } w else .ended (.stuck "exit, goto: no such block or label" (fr'.pos P)) w))
    (h1 : ∀ l, fr.roundOf = some l → G0 = (match (Instr.endRound l j).runT P v #[] with | (r, es) => GStep.after (Go.seen P fr.fn es) <| match r with
        | .ok x v => doReturn P m fr (cs ++ lc) none x v
        | .halt _ v => .ended (.stuck "range over a function: no such loop" (fr.pos P)) v))
    (h1' : ∀ l, fr'.roundOf = some l → G0' = (match (Instr.endRound l j).runT P w #[] with | (r, es) => GStep.after (Go.seen P fr'.fn es) <| match r with
        | .ok x w => doReturn P m' fr' (cs' ++ rc) none x w
        | .halt _ w => .ended (.stuck "range over a function: no such loop" (fr'.pos P)) w))
    (hst : G0 = .go g1 v1 es1) : Sim P t lc rc R v w g1 v1 G0' := by
  have hro := hf.ro
  cases e : fr.roundOf with
  | none =>
    rw [e] at hro
    cases e' : fr'.roundOf with
    | some l => rw [e'] at hro; exact hro.elim
    | none =>
      rw [h0' e']
      rw [h0 e] at hst
      by_cases hc1 : b = true
      · rw [if_pos hc1] at hst ⊢
        simp only [GStep.go.injEq] at hst
        obtain ⟨e1, e2, _⟩ := hst
        subst e1
        subst e2
        exact .inr ⟨R, _, w, _, rfl, ⟨_, cs, _, cs', rfl, rfl, ⟨hf.fn, hf.tm, hf.td, hf.df, ⟨rfl, .inr rfl⟩, hf.kd, hf.ro⟩, hc, Bot.same (f := fr) (g := { fr with mode := .returning }) rfl hb⟩, Gu.refl hw⟩
      · rw [if_neg hc1] at hst; cases hst
  | some l =>
    rw [e] at hro
    cases e' : fr'.roundOf with
    | none => rw [e'] at hro; exact hro.elim
    | some l' =>
      rw [e'] at hro
      rw [h1' l' e']
      rw [h1 l e] at hst
      have q := ((sr_endRound (P := P) hro j hj) R (Le.refl R) v w #[] hw).1
      have hrt := run_runT (P := P) (Instr.endRound l j) v
      cases hr : (Instr.endRound l j).runT P v #[] with
      | mk rs es =>
        rw [hr] at hst hrt
        simp only at hst hrt
        rw [← hrt] at q
        cases rs with
        | ok x v' =>
          obtain ⟨R', x', w', es', eq, hx, hgu⟩ := q
          rw [eq]
          simp only at hst ⊢
          cases cs with
          | nil => exact absurd (hb.symm.trans e) (by simp)
          | cons c cs =>
            cases cs' with
            | nil => exact hc.elim
            | cons c' cs' =>
              obtain ⟨⟨hcf, hcr⟩, hc2⟩ := hc
              have hkn : fr'.kind = .normal := hf.kd.1.1
              simp only [List.cons_append, doReturn, hkn, hf.kd.2, GStep.after, GStep.go.injEq] at hst ⊢
              obtain ⟨e1, e2, _⟩ := hst
              subst e1
              subst e2
              have hgu' : Gu R R' v v' w w' (Go.seen P fr'.fn (#[] ++ es')) := by
                have := hgu.seenE (P := P) fr'.fn
                simpa using this
              exact .inr ⟨R', _, w', _, rfl, ⟨_, cs, _, cs', rfl, rfl, (hcf.mono hgu.le).finish hcr.2 hx, FsR.mono hgu.le hc2, Bot.same (finish_run c x).2 hb⟩, hgu'.none⟩
        | halt x v' =>
          exfalso
          simp only [GStep.after] at hst
          cases hst
theorem sim_exec {m m' : Bool} (hz : Zs P) (hg : Good P R) {fr fr' : Frame} {cs cs' : List Frame} (hf : FR P R (tl t cs.isEmpty) fr fr') (hrun : fr.mode = .run) (hc : FsR P R t cs cs') (hb : Bot fr cs) {v w : World} (hw : WR R v w)
    {g1 : Goroutine} {v1 : World} {es1 : Array Event} (hst : stepG.exec P m true fr (cs ++ lc) none v = .go g1 v1 es1) : Sim P t lc rc R v w g1 v1 (stepG.exec P m' true fr' (cs' ++ rc) none w) := by
  have htd := hf.td
  unfold stepG.exec at hst ⊢
  by_cases hmk : Mk fr.todo
  · exfalso
    obtain ⟨s, e⟩ := hmk
    simp only [e] at hst
    cases hst
  cases ht : fr.todo with
  | nil =>
    rw [ht] at htd
    cases ht' : fr'.todo with
    | cons x l => rw [ht'] at htd; exact htd.elim
    | nil =>
      simp only [ht] at hst
      simp only
      exact sim_leave (m := m) (m' := m') hf hc hb hw none (fun c e => by cases e) true (fun e => by simp [e, ht]) (fun e => by simp [e, ht']) (fun l e => by rw [e]; rfl) (fun l e => by rw [e]; rfl) hst
  | cons x k =>
    rw [ht] at htd
    cases ht' : fr'.todo with
    | nil => rw [ht'] at htd; rw [ht] at hmk; exact absurd htd.2 hmk
    | cons x' k' =>
      rw [ht'] at htd
      obtain ⟨hx, hk⟩ := htd.resolve_right fun q => by rw [ht] at hmk; exact hmk q.2
      cases x with
      | inBlock i =>
        cases x' with
        | inBlock i' =>
          simp only [ht] at hst
          simp only
          exact sim_to hf hc hb hw hk hst
        | _ => exact hx.elim
      | inScope body =>
        cases x' with
        | inScope body' =>
          simp only [ht] at hst
          simp only
          exact sim_to hf hc hb hw hk hst
        | _ => exact hx.elim
      | inLoop body =>
        cases x' with
        | inLoop body' =>
          obtain ⟨rfl, hok⟩ := hx
          simp only [ht] at hst
          simp only
          exact sim_to hf hc hb hw (k := .code body' :: .inLoop body' :: k) (k' := .code body' :: .inLoop body' :: k') (.inl ⟨⟨rfl, hok⟩, .inl ⟨⟨rfl, hok⟩, hk⟩⟩) hst
        | _ => exact hx.elim
      | inRegion ops il =>
        cases x' with
        | inRegion ops' il' =>
          obtain ⟨⟨rfl, e2⟩, ho⟩ := hx
          subst e2
          cases il' with
          | nil =>
            simp only [ht] at hst
            simp only
            exact sim_to hf hc hb hw hk hst
          | cons i rest =>
            simp only [ht] at hst
            simp only
            have hy : yielded ops' fr'.tmps = yielded ops' fr.tmps := hf.tm.yields ops'
            rw [hy]
            by_cases hwt : (Option.map (fun x => Region.wanted x (yielded ops' fr.tmps)) ops'[i]?).getD false = true
            · rw [if_pos hwt] at hst ⊢
              unfold stepG.oper at hst ⊢
              simp only [Frame.oper?, ht, ht'] at hst ⊢
              cases hop : ops'[i]? with
              | none => rw [hop] at hwt; cases hwt
              | some o =>
                rw [hop] at hst
                simp only at hst ⊢
                have hoo := ho i (by simp) o hop
                have hs := sr_execOp hz hg hf.eval o hoo
                have nd : ∀ c, o.op ≠ .defer c := fun c e => by rw [e] at hoo; exact hoo
                have hst2 : stepG.apply P true fr (cs ++ lc) none (execOp fr.eval o) v = .go g1 v1 es1 := by
                  revert hst
                  split
                  · rename_i z; exact absurd z (nd _)
                  · exact id
                have h2 := sim_apply (rc := rc) hg hf hmk hrun hc hb hs hw hst2
                split
                · rename_i z; exact absurd z (nd _)
                · exact h2
            · rw [if_neg hwt] at hst ⊢
              simp only [GStep.go.injEq] at hst
              obtain ⟨e1, e2, _⟩ := hst
              subst e1
              subst e2
              exact .inr ⟨R, _, w, _, rfl, ⟨_, cs, _, cs', rfl, rfl, hf.finish hmk (VR.tuple XR.nil), hc, hb.same (finish_run fr undef).2⟩, Gu.refl hw⟩
        | _ => exact hx.elim
      | inRangeFunc l =>
        cases x' with
        | inRangeFunc l' => simp only [ht] at hst; cases hst
        | _ => exact hx.elim
      | endRangeFunc l =>
        cases x' with
        | endRangeFunc l' =>
          simp only [ht] at hst
          simp only
          have q := ((sr_endLoop (P := P) hx) R (Le.refl R) v w #[] hw).1
          have hrt := run_runT (P := P) (Instr.endLoop l) v
          cases hr : (Instr.endLoop l).runT P v #[] with
          | mk rs es =>
            rw [hr] at hst hrt
            simp only at hst hrt
            rw [← hrt] at q
            cases rs with
            | ok j v' =>
              obtain ⟨R', j', w', es', eq, hj, hgu⟩ := q
              obtain ⟨rfl, hjk⟩ := hj
              rw [eq]
              simp only [GStep.after, GStep.go.injEq] at hst ⊢
              obtain ⟨e1, e2, _⟩ := hst
              subst e1
              subst e2
              have hgu' : Gu R R' v v' w w' (Go.seen P fr'.fn (#[] ++ es')) := by
                have := hgu.seenE (P := P) fr'.fn
                simpa using this
              have hkk : IsR P R' (tl t cs.isEmpty) ((j'.map Item.code).toList ++ k) ((j'.map Item.code).toList ++ k') := by
                cases j' with
                | none => exact IsR.mono hgu.le hk
                | some c => exact .inl ⟨⟨rfl, hjk c rfl⟩, IsR.mono hgu.le hk⟩
              exact .inr ⟨R', _, w', _, rfl, ⟨_, cs, _, cs', rfl, rfl, (hf.mono hgu.le).to hkk, FsR.mono hgu.le hc, Bot.same (f := fr) (g := { fr with todo := (j'.map Item.code).toList ++ k }) rfl hb⟩, hgu'.none⟩
            | halt x v' =>
              have q : PlainH x ∧ Dk v v' := q
              cases x with
              | panic pv =>
                simp only [GStep.after, GStep.go.injEq] at hst
                obtain ⟨e1, e2, _⟩ := hst
                subst e1
                subst e2
                exact .inl (raise_pan q.2 (.inl hrun) (hf.pd hg hw) (FsR.pd hg hw hc) _)
              | stuck m => simp only [GStep.after] at hst; cases hst
              | unsupported u => simp only [GStep.after] at hst; cases hst
              | _ => exact q.1.elim
        | _ => exact hx.elim
      | beginRound =>
        cases x' with
        | beginRound =>
          simp only [ht] at hst
          simp only
          refine sim_apply (rc := rc) hg hf hmk hrun hc hb ?_ hw hst
          have hro := hf.ro
          cases e : fr.roundOf with
          | none =>
            rw [e] at hro
            cases e' : fr'.roundOf with
            | none => exact SR.no (Dead.first (dead_halt _) _) _
            | some l => rw [e'] at hro; exact hro.elim
          | some l =>
            rw [e] at hro
            cases e' : fr'.roundOf with
            | none => rw [e'] at hro; exact hro.elim
            | some l' =>
              rw [e'] at hro
              exact (sr_beginRound hro).bind' fun R1 u u' _ _ => sr_pure fun _ _ => trivial
        | _ => exact hx.elim
      | code c =>
        cases x' with
        | code c' =>
          obtain ⟨rfl, hok⟩ := hx
          have hcd := hg.code _ hok
          cases c' with
          | ret =>
            simp only [ht] at hst
            simp only
            exact sim_leave (m := m) (m' := m') hf hc hb hw (some .ret) (fun c e => by cases e; exact hg.ret) true (fun e => by simp [e, ht]) (fun e => by simp [e, ht']) (fun l e => by rw [e]; rfl) (fun l e => by rw [e]; rfl) hst
          | skip =>
            simp only [ht] at hst
            simp only
            exact sim_to hf hc hb hw hk hst
          | label l =>
            simp only [ht] at hst
            simp only
            exact sim_to hf hc hb hw hk hst
          | seq a b =>
            simp only [ht] at hst
            simp only
            exact sim_to hf hc hb hw (k := .code a :: .code b :: k) (k' := .code a :: .code b :: k') (.inl ⟨⟨rfl, hcd.1⟩, .inl ⟨⟨rfl, hcd.2⟩, hk⟩⟩) hst
          | cond x a b =>
            simp only [ht] at hst
            simp only
            have hv := hf.eval x hcd.1
            have q := hv.out
            cases e : fr.eval x with
            | bool t =>
              rw [e] at hst q
              rw [show fr'.eval x = .bool t from q]
              simp only at hst ⊢
              refine sim_to hf hc hb hw (k := .code (if t then a else b) :: k) (k' := .code (if t then a else b) :: k') (.inl ⟨⟨rfl, ?_⟩, hk⟩) hst
              cases t
              · exact hcd.2.2
              · exact hcd.2.1
            | _ => rw [e] at hst; cases hst
          | block i c =>
            simp only [ht] at hst
            simp only
            exact sim_to hf hc hb hw (k := .code c :: .inBlock i :: k) (k' := .code c :: .inBlock i :: k') (.inl ⟨⟨rfl, hcd⟩, .inl ⟨rfl, hk⟩⟩) hst
          | scope c =>
            simp only [ht] at hst
            simp only
            exact sim_to hf hc hb hw (k := .code c :: .inScope c :: k) (k' := .code c :: .inScope c :: k') (.inl ⟨⟨rfl, hcd⟩, .inl ⟨⟨rfl, hcd⟩, hk⟩⟩) hst
          | loop c =>
            simp only [ht] at hst
            simp only
            exact sim_to hf hc hb hw (k := .code c :: .inLoop c :: k) (k' := .code c :: .inLoop c :: k') (.inl ⟨⟨rfl, hcd⟩, .inl ⟨⟨rfl, hcd⟩, hk⟩⟩) hst
          | exit i =>
            simp only [ht] at hst
            simp only
            rcases exitTo_rel i hk with ⟨h1, h2⟩ | ⟨z, z', h1, h2, hzz⟩
            · rw [h1] at hst
              have hb2 : (tl t cs.isEmpty) = none := by
                cases cs with
                | cons a l => rfl
                | nil =>
                  exfalso
                  have hb : fr.roundOf = none := hb
                  simp only [hb] at hst
                  cases hst
              rw [h2 hb2]
              exact sim_leave (m := m) (m' := m') hf hc hb hw (some (.exit i)) (fun c e => by cases e; exact hg.exits i) false (fun e => by simp [e]) (fun e => by simp [e]) (fun l e => by rw [e]; rfl) (fun l e => by rw [e]; rfl) hst
            · rw [h1] at hst
              rw [h2]
              exact sim_to hf hc hb hw hzz hst
          | region id ops draw =>
            simp only [ht] at hst
            simp only
            cases draw with
            | false =>
              exact sim_to hf hc hb hw (k := .inRegion ops (List.range ops.size) :: k) (k' := .inRegion ops (List.range ops.size) :: k') (.inl ⟨⟨⟨rfl, rfl⟩, fun _ _ o ho => hcd o (Array.mem_of_getElem? ho)⟩, hk⟩) hst
            | true =>
              have et : v.tape v.drawn = w.tape w.drawn := by simpa using hw.tape 0
              simp only [choose, Sem.run, Question.forced, Question.cut, Bool.not_true, Bool.false_eq_true, if_false, hf.fn.1, GStep.go.injEq] at hst ⊢
              obtain ⟨e1, e2, _⟩ := hst
              subst e1
              subst e2
              have hw1 : WR R { v with drawn := v.drawn + 1 } { w with drawn := w.drawn + 1 } := ⟨hw.inj, hw.fn, hw.dom, hw.obj, hw.low, hw.same, fun j => by
                have := hw.tape (1 + j)
                simp only [← Nat.add_assoc] at this
                exact this⟩
              have hgu : Gu R R v { v with drawn := v.drawn + 1 } w { w with drawn := w.drawn + 1 } #[] := { Gu.refl hw with wr := hw1 }
              rw [et]
              exact .inr ⟨R, _, _, _, rfl, ⟨_, cs, _, cs', rfl, rfl, ⟨⟨rfl, hf.fn.2⟩, hf.tm, (.inl ⟨⟨⟨rfl, rfl⟩, fun _ _ o ho => hcd o (Array.mem_of_getElem? ho)⟩, hk⟩), hf.df, hf.md, hf.kd, hf.ro⟩, hc, hb.todo⟩, hgu⟩
          | rangeFunc f ps a b =>
            simp only [ht] at hst
            simp only
            have q := (sr_enterLoop (P := P) fr.fn hf.tm ps a b hf.fn.2 hcd.2.1 hcd.2.2 hf.ro) R (Le.refl R) v w #[] hw |>.1
            have hrt := run_runT (P := P) (Instr.enterLoop fr.fn fr.tmps ps a b fr.roundOf) v
            rw [hf.fn.1]
            cases hr : (Instr.enterLoop fr.fn fr.tmps ps a b fr.roundOf).runT P v #[] with
            | mk rs es =>
              rw [hr] at hst hrt
              simp only at hst hrt
              rw [← hrt] at q
              cases rs with
              | halt x v' => simp only [GStep.after] at hst; cases hst
              | ok lm v' =>
                obtain ⟨R', lm', w', es', eq, hlm, hgu⟩ := q
                obtain ⟨l, mk⟩ := lm
                obtain ⟨l', mk'⟩ := lm'
                obtain ⟨hl, hmk⟩ := hlm
                rw [eq]
                simp only at hst ⊢ hl hmk
                have hfm := hf.mono hgu.le
                have hf2 : FR P R' (tl t cs.isEmpty) { fr with todo := .inRangeFunc l :: k, defers := mk ++ fr.defers } { fr' with todo := .inRangeFunc l' :: k', defers := mk' ++ fr'.defers } :=
                  ⟨hfm.fn, hfm.tm, (.inl ⟨hl, IsR.mono hgu.le hk⟩), CLR.append hmk hfm.df, hfm.md, hfm.kd, hfm.ro⟩
                have hgu' : Gu R R' v v' w w' (Go.seen P fr.fn (#[] ++ es')) := by
                  have := hgu.seenE (P := P) fr.fn
                  simpa using this
                have hs : SR P NA R' (do let d ← resolve (Frame.eval { fr with todo := .inRangeFunc l :: k, defers := mk ++ fr.defers }) { callee := .value f, args := #[.const (.func (.yield l) #[] #[])], argTypes := #[] } 0; invoke d.target d.args)
                    (do let d ← resolve (Frame.eval { fr' with todo := .inRangeFunc l' :: k', defers := mk' ++ fr'.defers }) { callee := .value f, args := #[.const (.func (.yield l') #[] #[])], argTypes := #[] } 0; invoke d.target d.args) := by
                  have h1 := hf2.eval f (hcd.1.mono hgu.le)
                  have h2 : XR R' #[.func (.yield l) #[] #[]] #[.func (.yield l') #[] #[]] := XR.one (VR.func (f := .yield l) (f' := .yield l') hl XR.nil XR.nil)
                  exact sr_callv (hg.mono hgu.le) h1 (by simp only [List.map_toArray, List.map_cons, List.map_nil, Frame.eval]; exact h2)
                generalize hap : stepG.apply P true { fr with todo := .inRangeFunc l :: k, defers := mk ++ fr.defers } (cs ++ lc) none (do let d ← resolve (Frame.eval { fr with todo := .inRangeFunc l :: k, defers := mk ++ fr.defers }) { callee := .value f, args := #[.const (.func (.yield l) #[] #[])], argTypes := #[] } 0; invoke d.target d.args) v' = s1 at hst
                cases s1 with
                | go g2 v2 es2 =>
                  simp only [GStep.after, GStep.go.injEq] at hst
                  obtain ⟨e1, e2, _⟩ := hst
                  subst e1
                  subst e2
                  have h2 := sim_apply (rc := rc) (hg.mono hgu.le) hf2 (fun q => by obtain ⟨s, e⟩ := q; cases e) hrun (FsR.mono hgu.le hc) (Bot.same (f := fr) (g := { fr with todo := .inRangeFunc l :: k, defers := mk ++ fr.defers }) rfl hb) hs hgu.wr hap
                  rcases h2 with h2 | ⟨R2, g1', w1, es1, e, hG, hgu2⟩
                  · exact .inl h2
                  · refine .inr ⟨R2, g1', w1, Go.seen P fr.fn (#[] ++ es') ++ es1, ?_, hG, hgu'.then hgu2⟩
                    have e' : stepG.apply P true { fr' with fn := fr.fn, todo := .inRangeFunc l' :: k', defers := mk' ++ fr'.defers } (cs' ++ rc) none (do let d ← resolve (Frame.eval { fr' with todo := .inRangeFunc l' :: k', defers := mk' ++ fr'.defers }) { callee := .value f, args := #[.const (.func (.yield l') #[] #[])], argTypes := #[] } 0; invoke d.target d.args) w' = .go g1' w1 es1 := by
                      rw [← hf.fn.1]; exact e
                    exact congrArg (GStep.after _) e'
                | _ => simp only [GStep.after] at hst; cases hst
          | _ => exact hcd.elim
        | _ => exact hx.elim
      | _ => cases x' <;> exact hx.elim
/-- ONE STEP. -/
theorem sim_step {m m' : Bool} (hz : Zs P) (hg : Good P R) {g g' : Goroutine} (hG : GR P R t lc rc g g') {v w : World} (hw : WR R v w) {g1 : Goroutine} {v1 : World} {es1 : Array Event} (hst : stepG P m g v = .go g1 v1 es1)
    (hstop : ∀ fr, g = G fr lc → fr.mode = .returning → fr.defers ≠ []) : Sim P t lc rc R v w g1 v1 (stepG P m' g' w) := by
  obtain ⟨fr, cs, fr', cs', rfl, rfl, hf, hc, hb⟩ := hG
  rcases hf.md.2 with hm | hm
  · rw [stepG_exec hm] at hst
    rw [stepG_exec (hf.md.1.trans hm)]
    exact sim_exec hz hg hf hm hc hb hw hst
  · rw [stepG_unwind hm] at hst
    rw [stepG_unwind (hf.md.1.trans hm)]
    refine sim_unwind hg hf hm hc hb hw (fun hd hcs => ?_) hst
    subst hcs
    exact hstop fr rfl hm hd
end
end Go.Proofs.YtfbdgdphpdhcpaaDoor.Sm
