/-
  A lone run of what is like itself goes step by step, or ends. Conditions: as in SimY.
  A contract, on each tape, is a tree of steps. Conditions: as in SimY.
  A lone tree of steps, in company. Conditions: as in SimY; what is handed in is closed (what lies in it names nothing else).
-/
import Derived.Test.YtfbdgdphpdhcpaaDoorLgB
namespace Go.Proofs.YtfbdgdphpdhcpaaDoor.Sm
open Go Go.Conc

section
variable {P : Program} {R : Ren} {lc : List Frame}
/-- It goes on, or it is the end. -/
def GoEnd (s : GStep) : Prop := (∃ g w es, s = .go g w es) ∨ ∃ o w es, s = .ended o w es
theorem ge_go (g : Goroutine) (w : World) (es : Array Event) : GoEnd (.go g w es) := .inl ⟨_, _, _, rfl⟩
theorem ge_end (o : Outcome) (w : World) (es : Array Event) : GoEnd (.ended o w es) := .inr ⟨_, _, _, rfl⟩
theorem GoEnd.after {s : GStep} (h : GoEnd s) (es : Array Event) : GoEnd (GStep.after es s) := by
  rcases h with ⟨g, w, es', rfl⟩ | ⟨o, w, es', rfl⟩
  · exact .inl ⟨_, _, _, rfl⟩
  · exact .inr ⟨_, _, _, rfl⟩
theorem ge_doReturn (m : Bool) (fr : Frame) (cs : List Frame) (x : Value) (w : World) : GoEnd (doReturn P m fr cs none x w) := by
  unfold doReturn
  repeat' first
    | exact ge_go _ _ _
    | exact ge_end _ _ _
    | (split; done)
    | split
    | dsimp only
theorem ge_apply {fr : Frame} {cs : List Frame} {s s' : Sem Next} (hs : SR P NA R s s') {v w : World} (hw : WR R v w) : GoEnd (stepG.apply P true fr cs none s v) := by
  have q := (hs R (Le.refl R) v w #[] hw).1
  have hrt := run_runT (P := P) s v
  unfold stepG.apply
  simp only [if_true]
  cases hr : s.runT P v #[] with
  | mk r es =>
    rw [hr] at hrt
    simp only at hrt
    rw [← hrt] at q
    cases r with
    | ok n v' =>
      obtain ⟨R', n', w', es', e, hn, hgu⟩ := q
      have hn : NR R' n n' := hn
      cases n <;> first | exact (ge_go _ _ _).after _ | (cases n' <;> exact hn.elim)
    | halt x v' =>
      have q : PlainH x ∧ Dk v v' := q
      cases x with
      | panic pv => exact (ge_go _ _ _).after _
      | stuck m => exact (ge_end _ _ _).after _
      | unsupported u => cases u <;> first | exact q.1.elim | exact (ge_end _ _ _).after _
      | _ => exact q.1.elim
theorem ge_unwind {m : Bool} {bb : Tl} (hg : Good P R) {fr fr' : Frame} {cs : List Frame} (hf : FR P R bb fr fr') (hret : fr.mode = .returning) {v : World} : GoEnd (unwind P m fr cs none v) := by
  have hdf := hf.df
  unfold unwind
  cases hd : fr.defers with
  | nil =>
    obtain ⟨fn, h1⟩ := hg.kn fr.fn hf.fn.2
    simp only [hret, h1]
    cases hr : (results fn fr.tmps).runT P v #[] with
    | mk r es =>
      simp only
      cases r with
      | ok x v' => exact (ge_doReturn _ _ _ _ _).after _
      | halt x v' => cases x <;> exact (ge_end _ _ _).after _
  | cons d l =>
    rw [hd] at hdf
    cases hd' : fr'.defers with
    | nil => rw [hd'] at hdf; exact hdf.elim
    | cons d' l' =>
      rw [hd'] at hdf
      obtain ⟨⟨r, r', rfl, rfl, hr0⟩, hdl⟩ := hdf
      simp only
      cases hr : (Instr.takeDeferred r).runT P v #[] with
      | mk rs es =>
        simp only
        cases rs with
        | ok x v' => exact (ge_go _ _ _).after _
        | halt x v' => exact (ge_end _ _ _).after _
theorem ge_exec {m : Bool} {bb : Tl} (hz : Zs P) (hg : Good P R) {fr fr' : Frame} {cs : List Frame} (hf : FR P R bb fr fr') {v w : World} (hw : WR R v w) : GoEnd (stepG.exec P m true fr cs none v) := by
  have htd := hf.td
  by_cases hmk : Mk fr.todo
  · obtain ⟨s, e⟩ := hmk
    unfold stepG.exec
    simp only [e]
    exact ge_end _ _ _
  have hlv : ∀ (j : Option Code) (b : Bool) (G0 : GStep), (fr.roundOf = none → G0 = (if b = true then .go { frame := { fr with mode := .returning }, callers := cs, status := .running, dying := none } v else .ended (.stuck "exit, goto: no such block or label" (fr.pos P)) v)) →
      (∀ l, fr.roundOf = some l → G0 = (match (Instr.endRound l j).runT P v #[] with | (r, es) => GStep.after (Go.seen P fr.fn es) <| match r with
        | .ok x v => doReturn P m fr cs none x v
        | .halt _ v => .ended (.stuck "range over a function: no such loop" (fr.pos P)) v)) → GoEnd G0 := fun j b G0 h0 h1 => by
    cases e : fr.roundOf with
    | none =>
      rw [h0 e]
      cases b
      · exact ge_end _ _ _
      · exact ge_go _ _ _
    | some l =>
      rw [h1 l e]
      cases hr : (Instr.endRound l j).runT P v #[] with
      | mk rs es =>
        simp only
        cases rs with
        | ok x v' => exact (ge_doReturn _ _ _ _ _).after _
        | halt x v' => exact (ge_end _ _ _).after _
  unfold stepG.exec
  cases ht : fr.todo with
  | nil =>
    simp only
    exact hlv none true _ (fun e => by simp [e, ht]) (fun l e => by simp only [e]; rfl)
  | cons x k =>
    rw [ht] at htd
    cases ht' : fr'.todo with
    | nil => rw [ht'] at htd; rw [ht] at hmk; exact absurd htd.2 hmk
    | cons x' k' =>
      rw [ht'] at htd
      obtain ⟨hx, hk⟩ := htd.resolve_right fun q => by rw [ht] at hmk; exact hmk q.2
      cases x with
      | inBlock i => exact ge_go _ _ _
      | inLoop body => exact ge_go _ _ _
      | inScope body => exact ge_go _ _ _
      | inRegion ops il =>
        cases x' with
        | inRegion ops' il' =>
          obtain ⟨⟨rfl, e2⟩, ho⟩ := hx
          subst e2
          cases il' with
          | nil => exact ge_go _ _ _
          | cons i rest =>
            simp only
            by_cases hwt : (Option.map (fun x => Region.wanted x (yielded ops' fr.tmps)) ops'[i]?).getD false = true
            · rw [if_pos hwt]
              unfold stepG.oper
              simp only [Frame.oper?, ht]
              cases hop : ops'[i]? with
              | none => rw [hop] at hwt; cases hwt
              | some o =>
                have hoo := ho i (by simp) o hop
                have nd : ∀ c, o.op ≠ .defer c := fun c e => by rw [e] at hoo; exact hoo
                have hs := sr_execOp hz hg hf.eval o hoo
                simp only
                split
                · rename_i z; exact absurd z (nd _)
                · exact ge_apply hs hw
            · rw [if_neg hwt]; exact ge_go _ _ _
        | _ => exact hx.elim
      | inRangeFunc l => exact ge_end _ _ _
      | endRangeFunc l =>
        simp only
        cases hr : (Instr.endLoop l).runT P v #[] with
        | mk rs es =>
          simp only
          cases rs with
          | ok j v' => exact (ge_go _ _ _).after _
          | halt x v' => cases x <;> first | exact (ge_go _ _ _).after _ | exact (ge_end _ _ _).after _
      | beginRound =>
        cases x' with
        | beginRound =>
          simp only
          have hs : SR P NA R (do fr.roundOf.elim (stuck "beginRound: no round") Instr.beginRound; pure .skip) (do fr'.roundOf.elim (stuck "beginRound: no round") Instr.beginRound; pure .skip) := by
            have hro := hf.ro
            cases e : fr.roundOf with
            | none =>
              rw [e] at hro
              cases e' : fr'.roundOf with
              | none => exact SR.no (Dead.first (dead_halt _) _) _
              | some l => rw [e'] at hro; exact hro.elim
            | some l =>
              rw [e] at hro
              cases e' : fr'.roundOf with
              | none => rw [e'] at hro; exact hro.elim
              | some l' =>
                rw [e'] at hro
                exact (sr_beginRound hro).bind' fun R1 u u' _ _ => sr_pure fun _ _ => trivial
          exact ge_apply hs hw
        | _ => exact hx.elim
      | code c =>
        cases x' with
        | code c' =>
          obtain ⟨rfl, hok⟩ := hx
          have hcd := hg.code _ hok
          cases c' with
          | ret =>
            simp only
            exact hlv (some .ret) true _ (fun e => by simp [e, ht]) (fun l e => by simp only [e]; rfl)
          | skip => exact ge_go _ _ _
          | label l => exact ge_go _ _ _
          | seq a b => exact ge_go _ _ _
          | cond x a b =>
            simp only
            cases e : fr.eval x <;> first | exact ge_go _ _ _ | exact ge_end _ _ _
          | block i c => exact ge_go _ _ _
          | loop c => exact ge_go _ _ _
          | scope c => exact ge_go _ _ _
          | exit i =>
            simp only
            cases e : exitTo i k with
            | none => exact hlv (some (.exit i)) false _ (fun e => by simp [e]) (fun l e => by simp only [e, Option.elim]; rfl)
            | some z => exact ge_go _ _ _
          | region id ops draw =>
            cases draw with
            | false => exact ge_go _ _ _
            | true => exact ge_go _ _ _
          | rangeFunc f ps a b =>
            simp only
            have q := (sr_enterLoop (P := P) fr.fn hf.tm ps a b hf.fn.2 hcd.2.1 hcd.2.2 hf.ro) R (Le.refl R) v w #[] hw |>.1
            have hrt := run_runT (P := P) (Instr.enterLoop fr.fn fr.tmps ps a b fr.roundOf) v
            cases hr : (Instr.enterLoop fr.fn fr.tmps ps a b fr.roundOf).runT P v #[] with
            | mk rs es =>
              rw [hr] at hrt
              simp only at hrt ⊢
              rw [← hrt] at q
              cases rs with
              | halt x v' => exact (ge_end _ _ _).after _
              | ok lm v' =>
                obtain ⟨R', lm', w', es', eq, hlm, hgu⟩ := q
                obtain ⟨l, mk⟩ := lm
                obtain ⟨l', mk'⟩ := lm'
                obtain ⟨hll, hmk⟩ := hlm
                simp only at hll hmk ⊢
                have hfm := hf.mono hgu.le
                have hf2 : FR P R' bb { fr with todo := .inRangeFunc l :: k, defers := mk ++ fr.defers } { fr' with todo := .inRangeFunc l' :: k', defers := mk' ++ fr'.defers } :=
                  ⟨hfm.fn, hfm.tm, (.inl ⟨hll, IsR.mono hgu.le hk⟩), CLR.append hmk hfm.df, hfm.md, hfm.kd, hfm.ro⟩
                have hs : SR P NA R' (do let d ← resolve (Frame.eval { fr with todo := .inRangeFunc l :: k, defers := mk ++ fr.defers }) { callee := .value f, args := #[.const (.func (.yield l) #[] #[])], argTypes := #[] } 0; invoke d.target d.args)
                    (do let d ← resolve (Frame.eval { fr' with todo := .inRangeFunc l' :: k', defers := mk' ++ fr'.defers }) { callee := .value f, args := #[.const (.func (.yield l') #[] #[])], argTypes := #[] } 0; invoke d.target d.args) := by
                  have h1 := hf2.eval f (hcd.1.mono hgu.le)
                  have h2 : XR R' #[.func (.yield l) #[] #[]] #[.func (.yield l') #[] #[]] := XR.one (VR.func (f := .yield l) (f' := .yield l') hll XR.nil XR.nil)
                  exact sr_callv (hg.mono hgu.le) h1 (by simp only [List.map_toArray, List.map_cons, List.map_nil, Frame.eval]; exact h2)
                exact (ge_apply hs hgu.wr).after _
          | _ => exact hcd.elim
        | _ => exact hx.elim
      | _ => cases x' <;> exact hx.elim
theorem ge_step {m : Bool} (hz : Zs P) {g : Goroutine} {v : World} (h : Slf P g v) : GoEnd (stepG P m g v) := by
  obtain ⟨R, t, hg, ⟨fr, cs, fr', cs', rfl, e, hf, hc, hb⟩, hw⟩ := h
  rcases hf.md.2 with hm | hm
  · rw [stepG_exec hm]; exact ge_exec hz hg hf hw
  · rw [stepG_unwind hm]; exact ge_unwind hg hf hm
end
end Go.Proofs.YtfbdgdphpdhcpaaDoor.Sm
namespace Go.Proofs.YtfbdgdphpdhcpaaDoor.Sm
open Go Go.Conc

section
variable {P : Program} {R : Ren}
/-- Where a lone run may stand. -/
def On (P : Program) (g : Goroutine) (v : World) : Prop := Slf P g v ∨ PanX P g v ∨ ∃ f : Frame, g = G f [] ∧ f.todo = [.code (.refuse "")] ∧ f.mode = .run
theorem On.form {g : Goroutine} {v : World} (h : On P g v) : ∃ fr cs, g = G fr cs := by
  rcases h with ⟨R, _, _, ⟨fr, cs, _, _, e, _⟩, _⟩ | h | ⟨f, e, _⟩
  · exact ⟨_, _, e⟩
  · rcases h with ⟨fr, cs, _, e, _⟩ | ⟨_, e⟩
    · exact ⟨_, _, e⟩
    · exact ⟨_, _, e⟩
  · exact ⟨_, _, e⟩
theorem ge_pan {m : Bool} {g : Goroutine} {v : World} (h : PanX P g v) : GoEnd (stepG P m g v) := by
  rcases h with ⟨fr, cs, chain, rfl, hm, hp, hcs⟩ | ⟨chain, rfl⟩
  · have e : stepG P m (G fr (cs ++ [dum])) v = unwind P m fr (cs ++ [dum]) none v := by
      unfold stepG
      simp only [G, hm]
    rw [e]
    unfold unwind
    cases hd : fr.defers with
    | nil =>
      obtain ⟨fn, hfn⟩ := hp.1
      have hc : fr.catches P = false := by unfold Frame.catches; rw [hfn]
      simp only [hm, hc, Bool.false_eq_true, if_false]
      cases cs with
      | nil => exact ge_go _ _ _
      | cons c cs => exact ge_go _ _ _
    | cons d l =>
      obtain ⟨r, rfl, hobj⟩ := hp.2 d (by rw [hd]; simp)
      simp only
      cases hr : (Instr.takeDeferred r).runT P v #[] with
      | mk rs es =>
        simp only
        cases rs with
        | ok x v' => exact (ge_go _ _ _).after _
        | halt x v' => exact (ge_end _ _ _).after _
  · have hm : (dum.raise chain).mode = .panicking chain := rfl
    have hd : (dum.raise chain).defers = [{ target := .nil, args := #[] }] := rfl
    have e : stepG P m (G (dum.raise chain) []) v = unwind P m (dum.raise chain) [] none v := by
      unfold stepG
      simp only [G, hm]
    rw [e]
    unfold unwind
    simp only [hd]
    unfold callDeferred
    simp only [hm]
    exact ge_end _ _ _
theorem On.step (hz : Zs P) {g : Goroutine} {v : World} (h : On P g v) : GoEnd (stepG P true g v) ∧ ∀ g1 v1 es, stepG P true g v = .go g1 v1 es → On P g1 v1 := by
  rcases h with h | h | ⟨f, rfl, h3, h4⟩
  · refine ⟨ge_step hz h, fun g1 v1 es e => ?_⟩
    by_cases hat : AtRet g
    · exact .inr (.inr (ret_next hat e))
    · rcases h.step hz e (fun fr q1 q2 q3 => hat ⟨fr, q1, q2, q3⟩) with q | q
      · exact .inr (.inl (.inl q))
      · exact .inl q
  · exact ⟨ge_pan h, fun g1 v1 es e => .inr (.inl (pan_next h e))⟩
  · exact ⟨by rw [refuse_ends h3 h4]; exact ge_end _ _ _, fun g1 v1 es e => by rw [refuse_ends h3 h4] at e; cases e⟩
def mach (g : Goroutine) (v : World) : Machine := { world := v, gs := #[g], rest := { timers := #[], alone := none, slice := none } }
theorem run_on (hz : Zs P) : ∀ (n : Nat) (g : Goroutine) (v : World), On P g v → ∀ m', runN P n (mach g v) = .next m' → ∃ g1 v1, m' = mach g1 v1 ∧ rn P true n g v = some (g1, v1)
  | 0, g, v, _, m', h => by cases h; exact ⟨g, v, rfl, rfl⟩
  | n + 1, g, v, hon, m', h => by
    obtain ⟨hge, hnx⟩ := hon.step hz
    obtain ⟨fr, cs, rfl⟩ := hon.form
    rcases hge with ⟨g1, v1, es, e⟩ | ⟨o, w, es, e⟩
    · have h1 := hnx g1 v1 es e
      obtain ⟨fr1, cs1, rfl⟩ := h1.form
      have hs : step P (mach (G fr cs) v) = .next (mach (G fr1 cs1) v1) := step_lone_go (fr := fr) (cs := cs) (fr' := fr1) (cs' := cs1) (by
        have e' : stepG P true { frame := fr, callers := cs, status := .running, dying := none } v = .go (G fr1 cs1) v1 es := e
        rw [e']; rfl)
      simp only [runN, hs] at h
      obtain ⟨g2, v2, e1, e2⟩ := run_on hz n _ _ h1 m' h
      exact ⟨g2, v2, e1, by simp only [rn, e]; exact e2⟩
    · have hs : step P (mach (G fr cs) v) = .ended o w := step_lone_ended (fr := fr) (cs := cs) (by
        have e' : stepG P true { frame := fr, callers := cs, status := .running, dying := none } v = .ended o w es := e
        rw [e']; rfl)
      simp only [runN, hs] at h
      cases h
/-- Where the call has come to its return, on some tape, with what the contract says. -/
def Back (P : Program) (f : FuncId) (Q : (Nat → Question → Nat) → Value → World → Prop) (g : Goroutine) (v : World) : Prop :=
  ∃ fr x τ τ0, g = G fr [dum] ∧ fr.fn = f ∧ fr.leaving P (tap τ v) (.returned x) ∧ Q τ0 x (tap τ v)
theorem Back.ret {f : FuncId} {Q : (Nat → Question → Nat) → Value → World → Prop} {g : Goroutine} {v : World} (h : Back P f Q g v) : AtRet g := by
  obtain ⟨fr, x, τ, τ0, e, _, ⟨h1, h2, _⟩, _⟩ := h
  exact ⟨fr, e, h1, h2⟩
/-- A CONTRACT, ON EACH TAPE, IS A TREE OF STEPS. -/
theorem lg_of_calls (hz : Zs P) {f : FuncId} {args : Array Value} {v : World} {Q : (Nat → Question → Nat) → Value → World → Prop} (h0 : Slf P (G (Frame.enter P f args .normal) [dum]) v)
    (H : ∀ τ, Calls P f args (tap τ v) fun e w' => ∃ x, e = .returned x ∧ Q τ x w') : LG P true (Back P f Q) (G (Frame.enter P f args .normal) [dum]) v := by
  refine bar hz (fun g v h => .inl h.ret) (fun g v τ h => ?_) h0 fun τ => ?_
  · obtain ⟨fr, x, τ', τ0, a, b, c, d⟩ := h
    exact ⟨fr, x, τ', τ0, a, b, c, d⟩
  · obtain ⟨e, w', fr, ⟨x, rfl, hq⟩, hc, hfn, hl⟩ := H τ [dum]
    obtain ⟨n, hn⟩ := hc
    obtain ⟨g1, v1, e1, e2⟩ := run_on hz n _ _ (.inl (h0.tap τ)) _ hn
    have e3 : g1 = G fr [dum] ∧ v1 = w' := by
      have : lone fr [dum] w' = mach g1 v1 := e1
      unfold lone mach at this
      simp only [Machine.mk.injEq, Array.mk.injEq, List.cons.injEq, and_true] at this
      exact ⟨this.2.symm, this.1.symm⟩
    obtain ⟨rfl, rfl⟩ := e3
    exact ⟨n, _, v1, e2, fr, x, v1.tape, τ, rfl, hfn, hl, hq⟩
end
end Go.Proofs.YtfbdgdphpdhcpaaDoor.Sm
namespace Go.Proofs.YtfbdgdphpdhcpaaDoor.Sm
open Go Go.Conc

/-- A goroutine in company: its record, the world, the blocks that it may look into, those that it may write. -/
structure St where
  g : Goroutine
  w : World
  O : Nat → Prop
  W : Nat → Prop
/-- What the others may do. -/
def Ry (O : Nat → Prop) (w w1 : World) : Prop := w.heap.size ≤ w1.heap.size ∧ (∀ b, O b → w1.heap[b]? = w.heap[b]?) ∧ w1.os = w.os ∧ w1.output = w.output
def EvG (O W : Nat → Prop) (e : Event) : Prop :=
  match e.loc with
  | .cell a => e.sync = false ∧ O a.block ∧ (e.write = true → W a.block)
  | .obj r => e.sync = false ∧ O r ∧ (e.write = true → W r)
  | .mark .noRoom => True
  | _ => False
/-- What a step of its own does. -/
structure Gd (O W O' W' : Nat → Prop) (w w' : World) (es : Array Event) : Prop where
  size : w.heap.size ≤ w'.heap.size
  kept : ∀ b, b < w.heap.size → ¬ W b → w'.heap[b]? = w.heap[b]?
  os : w'.os = w.os ∧ w'.output = w.output ∧ w'.tape = w.tape
  newO : ∀ b, O' b → O b ∨ (w.heap.size ≤ b ∧ b < w'.heap.size)
  newW : ∀ b, W' b → W b ∨ (w.heap.size ≤ b ∧ b < w'.heap.size)
  sub : ∀ b, W' b → O' b
  evs : ∀ e ∈ es, EvG O' W' e
def CoF (P : Program) (m : Bool) (Stop : St → Prop) (X : St → Prop) (s : St) : Prop :=
  (∀ w1, Ry s.O s.w w1 → Stop { s with w := w1 }) ∨
  (s.g.status = .running ∧ ∀ w1, Ry s.O s.w w1 → ∃ g2 w2 es O2 W2, stepG P m s.g w1 = .go g2 w2 es ∧ Gd s.O s.W O2 W2 w1 w2 es ∧ (g2.status = .running ∧ g2.offers = none) ∧ X ⟨g2, w2, O2, W2⟩)
/-- It comes to the stop by steps of its own, whatever the others do meanwhile. -/
abbrev Co (P : Program) (m : Bool) (Stop : St → Prop) (s : St) : Prop := Lfp (CoF P m Stop) s
section
variable {P : Program} {R : Ren}
theorem CoF.mono {m : Bool} {Stop : St → Prop} : ∀ X Y : St → Prop, (∀ a, X a → Y a) → ∀ a, CoF P m Stop X a → CoF P m Stop Y a := fun X Y h a q => by
  rcases q with q | ⟨q0, q⟩
  · exact .inl q
  · refine .inr ⟨q0, fun w1 hw => ?_⟩
    obtain ⟨g2, w2, es, O2, W2, h1, h2, h3, h4⟩ := q w1 hw
    exact ⟨g2, w2, es, O2, W2, h1, h2, h3, h _ h4⟩
/-- Worlds that hold the same, block for block; of their tapes nothing. -/
structure WR0 (R : Ren) (v w : World) : Prop where
  inj : ∀ b c b', R.rel b b' → R.rel c b' → b = c
  fn : ∀ b b' c', R.rel b b' → R.rel b c' → b' = c'
  dom : ∀ b b', R.rel b b' → b < v.heap.size ∧ b' < w.heap.size
  obj : ∀ (b b' : Nat) (o : Obj), R.rel b b' → v.heap[b]? = some o → ∃ o', w.heap[b']? = some o' ∧ OR R (R.lo b) o o'
  low : (R.low ≤ v.heap.size ∧ ∀ b, R.lo b = 0) ∧ R.low ≤ w.heap.size
  same : ∀ b b', R.rel b b' → (b < R.low ∨ b' < R.low) → b' = b
theorem WR.zero {v w : World} (h : WR R v w) : WR0 R v w := ⟨h.inj, h.fn, h.dom, h.obj, h.low, h.same⟩
/-- The lone tape that answers as the company's. -/
def syn (v w : World) : Nat → Question → Nat := fun d => w.tape (w.drawn + (d - v.drawn))
theorem WR0.wr {v w : World} (h : WR0 R v w) : WR R (tap (syn v w) v) w := ⟨h.inj, h.fn, h.dom, h.obj, h.low, h.same, fun k => by
  show w.tape (w.drawn + (v.drawn + k - v.drawn)) = _
  rw [Nat.add_sub_cancel_left]⟩
theorem WR0.heap {v w v' : World} (h : WR0 R v w) (hv : v'.heap = v.heap) : WR0 R v' w := ⟨h.inj, h.fn, by rw [hv]; exact h.dom, by rw [hv]; exact h.obj, by rw [hv]; exact h.low, h.same⟩
theorem WR0.rely {v w w1 : World} (h : WR0 R v w) (hr : Ry (Seen R) w w1) : WR0 R v w1 :=
  ⟨h.inj, h.fn, fun b b' q => ⟨(h.dom b b' q).1, Nat.lt_of_lt_of_le (h.dom b b' q).2 hr.1⟩, fun b b' o q ho => by
    obtain ⟨o', h1, h2⟩ := h.obj b b' o q ho
    exact ⟨o', by rw [hr.2.1 b' ⟨b, q⟩]; exact h1, h2⟩, ⟨h.low.1, Nat.le_trans h.low.2 hr.1⟩, h.same⟩
theorem Gu.gd {R' : Ren} {v v' w w' : World} {es : Array Event} (h : Gu R R' v v' w w' es) : Gd (Seen R) (Open R v) (Seen R') (Open R' v') w w' es where
  size := h.size
  kept := h.kept
  os := h.os
  newO b q := by
    obtain ⟨a, ha⟩ := q
    rcases h.new a b ha with z | z
    · exact .inl ⟨a, z⟩
    · exact .inr ⟨z.2, (h.wr.dom a b ha).2⟩
  newW b q := by
    obtain ⟨a, o, ha, ho, hs⟩ := q
    rcases h.new a b ha with z | z
    · have hd := (h.wr0.dom a b z).1
      obtain ⟨o', h1, h2, h3⟩ := h.shut a _ (Array.getElem?_eq_getElem hd)
      rw [ho] at h1
      cases h1
      exact .inl ⟨a, _, z, Array.getElem?_eq_getElem hd, fun q => hs (h2 q)⟩
    · exact .inr ⟨z.2, (h.wr.dom a b ha).2⟩
  sub b q := by obtain ⟨a, _, ha, _⟩ := q; exact ⟨a, ha⟩
  evs e he := h.evs e he
theorem lg_not_pan {f : FuncId} {Q : (Nat → Question → Nat) → Value → World → Prop} {g : Goroutine} {v : World} (h : LG P true (Back P f Q) g v) : ¬ PanX P g v := by
  refine Lfp.ind (C := fun p : Goroutine × World => ¬ PanX P p.1 p.2) LGF.mono (fun p hp hx => ?_) h
  rcases hp with hs | hs
  · obtain ⟨fr, e, hm, _⟩ := hs.ret
    rcases hx with ⟨fr', cs, chain, e', hm', _⟩ | ⟨chain, e'⟩
    · rw [e] at e'
      injection e' with e1 e2
      subst e1
      rw [hm] at hm'; cases hm'
    · rw [e] at e'
      injection e' with e1 e2
      cases e2
  · obtain ⟨g1, v1, es, h1, _, h3⟩ := hs p.2.tape
    exact h3 (pan_next hx h1)
theorem lg_not_refuse {f : FuncId} {Q : (Nat → Question → Nat) → Value → World → Prop} {fr : Frame} {v : World} (h : LG P true (Back P f Q) (G fr []) v) (h3 : fr.todo = [.code (.refuse "")]) (h4 : fr.mode = .run) : False := by
  rcases Lfp.out LGF.mono h with hs | hs
  · obtain ⟨fr', e, _⟩ := hs.ret
    injection e with e1 e2
    cases e2
  · obtain ⟨g1, v1, es, h1, _⟩ := hs v.tape
    rw [refuse_ends h3 h4] at h1
    cases h1
/-- The call has come back: what the lone contract says, and how the lone world goes with this one. -/
def Done (R0 : Ren) (n0 m0 : Nat) (Q : (Nat → Question → Nat) → Value → World → Prop) (c : Frame) (rc : List Frame) (s : St) : Prop :=
  ∃ (R' : Ren) (v1 : World) (τ τ0 : Nat → Question → Nat) (x x' : Value), s.g = G (c.finish x') rc ∧ Q τ0 x (tap τ v1) ∧ VR R' x x' ∧ WR0 R' v1 s.w ∧ Le R0 R' ∧
    (∀ b b', R'.rel b b' → R0.rel b b' ∨ (n0 ≤ b ∧ m0 ≤ b')) ∧ s.O = Seen R' ∧ s.W = Open R' v1
theorem cs_nil {cs : List Frame} {d : Frame} (h : cs ++ [d] = [d]) : cs = [] := by
  cases cs with
  | nil => rfl
  | cons a l =>
    have := congrArg List.length h
    simp at this
theorem co_of_lg (hz : Zs P) {m : Bool} {f : FuncId} {Q : (Nat → Question → Nat) → Value → World → Prop} {R0 : Ren} {n0 m0 : Nat} {c : Frame} {rc : List Frame} {g : Goroutine} {v : World} (hl : LG P true (Back P f Q) g v) :
    ∀ {R : Ren} {g' : Goroutine} {w : World}, Good P R → GR P R none [dum] (c :: rc) g g' → WR0 R v w → Le R0 R → (∀ b b', R.rel b b' → R0.rel b b' ∨ (n0 ≤ b ∧ m0 ≤ b')) → n0 ≤ v.heap.size → m0 ≤ w.heap.size →
      Co P m (Done R0 n0 m0 Q c rc) ⟨g', w, Seen R, Open R v⟩ := by
  refine Lfp.ind (C := fun p : Goroutine × World => ∀ {R : Ren} {g' : Goroutine} {w : World}, Good P R → GR P R none [dum] (c :: rc) p.1 g' → WR0 R p.2 w → Le R0 R → (∀ b b', R.rel b b' → R0.rel b b' ∨ (n0 ≤ b ∧ m0 ≤ b')) → n0 ≤ p.2.heap.size → m0 ≤ w.heap.size →
      Co P m (Done R0 n0 m0 Q c rc) ⟨g', w, Seen R, Open R p.2⟩) LGF.mono (fun p hp => ?_) hl
  obtain ⟨g, v⟩ := p
  intro R g' w hg hG hw hle hnew hn hm
  have hn' : n0 ≤ v.heap.size := hn
  clear hn
  refine Lfp.in CoF.mono ?_
  have hnew' : ∀ {R' : Ren} {v' w1 w' : World} {es : Array Event} {τ : Nat → Question → Nat}, Gu R R' (tap τ v) v' w1 w' es → w.heap.size ≤ w1.heap.size → ∀ b b', R'.rel b b' → R0.rel b b' ∨ (n0 ≤ b ∧ m0 ≤ b') := fun {R' v' w1 w' es τ} hgu hsz b b' q => by
    rcases hgu.new b b' q with z | z
    · exact hnew b b' z
    · have z1 : v.heap.size ≤ b := z.1
      exact .inr ⟨by omega, by omega⟩
  rcases hp with hs | hs
  · -- it returns
    obtain ⟨fr, x, τ, τ0, e, hfn, ⟨h1, h2, h3, fn, h4, h5⟩, hq⟩ := hs
    obtain ⟨fr1, cs, fr', cs', e1, rfl, hf, hc, hb⟩ := hG
    simp only at e e1
    rw [e] at e1
    injection e1 with e2 e3
    subst e2
    have hcs : cs = [] := cs_nil e3.symm
    subst hcs
    cases cs' with
    | cons a l => exact hc.elim
    | nil =>
      refine .inr ⟨rfl, fun w1 hr => ?_⟩
      have hw1 := hw.rely hr
      have hsr := sr_results (P := P) fn hf.tm
      -- the lone result on whatever tape
      have hres : (results fn fr.tmps).run P (tap (syn v w1) v) = .ok x (tap (syn v w1) v) := by
        have hwτ : WR R (tap τ v) (tap (syn w1 (tap τ v)) w1) := ⟨hw1.inj, hw1.fn, hw1.dom, hw1.obj, hw1.low, hw1.same, fun k => by
          show _ = (tap τ v).tape ((tap τ v).drawn + (w1.drawn + k - w1.drawn))
          rw [Nat.add_sub_cancel_left]⟩
        have hlc := (hsr R (Le.refl R) _ _ #[] hwτ).2
        have := hlc (syn v w1) (fun d q1 q2 => by rw [h5] at q2; exact absurd q2 (Nat.not_lt.2 q1))
        rw [h5] at this
        exact this
      obtain ⟨q, _⟩ := hsr R (Le.refl R) _ _ #[] hw1.wr
      rw [hres] at q
      obtain ⟨R', x', w', es', e4, hx, hgu⟩ := q
      have hx : VR R' x x' := hx
      have hgu' : Gu R R' (tap (syn v w1) v) (tap (syn v w1) v) w1 w' (Go.seen P fr.fn (#[] ++ es')) := by
        have := hgu.seenE (P := P) fr.fn
        simpa using this
      have hstep : stepG P m (G fr' (c :: rc)) w1 = .go (G (c.finish x') rc) w' (Go.seen P fr.fn (#[] ++ es') ++ #[]) := by
        have hd' : fr'.defers = [] := by
          have := hf.df
          rw [h2] at this
          cases hdd : fr'.defers with
          | nil => rfl
          | cons a l =>
            rw [hdd] at this
            exact this
        rw [stepG_unwind (hf.md.1.trans h1)]
        unfold unwind
        have hkn : fr'.kind = .normal := hf.kd.1.1
        simp only [hd', hf.md.1.trans h1, hf.fn.1, h4, e4, doReturn, hkn, GStep.after]
        rfl
      refine ⟨_, w', _, Seen R', Open R' (tap (syn v w1) v), hstep, hgu'.none.gd, ⟨rfl, rfl⟩, ?_⟩
      refine Lfp.in CoF.mono (.inl fun w2 hr2 => ?_)
      exact ⟨R', v, τ, τ0, x, x', rfl, hq, hx, (hgu.wr.zero.heap (v' := v) rfl).rely hr2, hle.trans hgu.le, hnew' hgu hr.1, rfl, rfl⟩
  · -- it goes on
    have hnr : ∀ fr, g = G fr [dum] → fr.mode = .returning → fr.defers ≠ [] := fun fr q1 q2 q3 => by
      obtain ⟨g1, v1, es, h1, h2, _⟩ := hs v.tape
      obtain ⟨fr2, rfl, h3, h4⟩ := ret_next ⟨fr, q1, q2, q3⟩ h1
      exact lg_not_refuse h2 h3 h4
    have hrun : g'.status = .running := by
      obtain ⟨_, _, _, _, _, rfl, _⟩ := hG
      rfl
    refine .inr ⟨hrun, fun w1 hr => ?_⟩
    have hw1 := hw.rely hr
    obtain ⟨g1, v1, es, h1, h2, h3⟩ := hs (syn v w1)
    rcases sim_step (m' := m) hz hg hG hw1.wr h1 hnr with q | ⟨R', g1', w2, es', e, hG', hgu⟩
    · exact absurd (.inl q) (lg_not_pan h2)
    · refine ⟨g1', w2, es', Seen R', Open R' v1, e, hgu.gd, (by obtain ⟨_, _, _, _, _, rfl, _⟩ := hG'; exact ⟨rfl, rfl⟩), ?_⟩
      refine h3 (hg.mono hgu.le) hG' hgu.wr.zero (hle.trans hgu.le) (hnew' hgu hr.1) ?_ ?_
      · have : v.heap.size ≤ v1.heap.size := by
          rcases Nat.lt_or_ge v1.heap.size v.heap.size with z | z
          · obtain ⟨o', q, _⟩ := hgu.shut v1.heap.size _ (Array.getElem?_eq_getElem z)
            rw [Array.getElem?_eq_none (Nat.le_refl _)] at q; cases q
          · exact z
        show n0 ≤ v1.heap.size
        omega
      · have h5 : w.heap.size ≤ w1.heap.size := hr.1
        have := hgu.size
        show m0 ≤ w2.heap.size
        have hm : m0 ≤ w.heap.size := hm
        omega
end
end Go.Proofs.YtfbdgdphpdhcpaaDoor.Sm
