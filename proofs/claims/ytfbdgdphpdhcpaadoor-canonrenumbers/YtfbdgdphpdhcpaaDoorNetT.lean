/-
  A lone run of what is like itself goes step by step, or ends. Conditions: as in SimY.
  A contract, on each tape, is a tree of steps. Conditions: as in SimY.
  A lone tree of steps, in company. Conditions: as in SimY; what is handed in is closed (what lies in it names nothing else).
  What is held of a trace while workers send over channels of their own: who may touch what knows what was done there. No condition.
-/
import Derived.Test.YtfbdgdphpdhcpaaDoorLgB
import Derived.Conc.Beside
import Derived.Conc.CrowdComm
namespace Go.Proofs.YtfbdgdphpdhcpaaDoor.Sm
open Go Go.Conc

section
variable {P : Program} {R : Ren} {lc : List Frame}
/-- It goes on, or it is the end. -/
def GoEnd (s : GStep) : Prop := (∃ g w es, s = .go g w es) ∨ ∃ o w es, s = .ended o w es
theorem ge_go (g : Goroutine) (w : World) (es : Array Event) : GoEnd (.go g w es) := .inl ⟨_, _, _, rfl⟩
theorem ge_end (o : Outcome) (w : World) (es : Array Event) : GoEnd (.ended o w es) := .inr ⟨_, _, _, rfl⟩
theorem GoEnd.after {s : GStep} (h : GoEnd s) (es : Array Event) : GoEnd (GStep.after es s) := by
  rcases h with ⟨g, w, es', rfl⟩ | ⟨o, w, es', rfl⟩
  · exact .inl ⟨_, _, _, rfl⟩
  · exact .inr ⟨_, _, _, rfl⟩
theorem ge_doReturn (m : Bool) (fr : Frame) (cs : List Frame) (x : Value) (w : World) : GoEnd (doReturn P m fr cs none x w) := by
  unfold doReturn
  repeat' first
    | exact ge_go _ _ _
    | exact ge_end _ _ _
    | (split; done)
    | split
    | dsimp only
theorem ge_apply {fr : Frame} {cs : List Frame} {s s' : Sem Next} (hs : SR P NA R s s') {v w : World} (hw : WR R v w) : GoEnd (stepG.apply P true fr cs none s v) := by
  have q := (hs R (Le.refl R) v w #[] hw).1
  have hrt := run_runT (P := P) s v
  unfold stepG.apply
  simp only [if_true]
  cases hr : s.runT P v #[] with
  | mk r es =>
    rw [hr] at hrt
    simp only at hrt
    rw [← hrt] at q
    cases r with
    | ok n v' =>
      obtain ⟨R', n', w', es', e, hn, hgu⟩ := q
      have hn : NR R' n n' := hn
      cases n <;> first | exact (ge_go _ _ _).after _ | (cases n' <;> exact hn.elim)
    | halt x v' =>
      have q : PlainH x ∧ Dk v v' := q
      cases x with
      | panic pv => exact (ge_go _ _ _).after _
      | stuck m => exact (ge_end _ _ _).after _
      | unsupported u => cases u <;> first | exact q.1.elim | exact (ge_end _ _ _).after _
      | _ => exact q.1.elim
theorem ge_unwind {m : Bool} {bb : Tl} (hg : Good P R) {fr fr' : Frame} {cs : List Frame} (hf : FR P R bb fr fr') (hret : fr.mode = .returning) {v : World} : GoEnd (unwind P m fr cs none v) := by
  have hdf := hf.df
  unfold unwind
  cases hd : fr.defers with
  | nil =>
    obtain ⟨fn, h1⟩ := hg.kn fr.fn hf.fn.2
    simp only [hret, h1]
    cases hr : (results fn fr.tmps).runT P v #[] with
    | mk r es =>
      simp only
      cases r with
      | ok x v' => exact (ge_doReturn _ _ _ _ _).after _
      | halt x v' => cases x <;> exact (ge_end _ _ _).after _
  | cons d l =>
    rw [hd] at hdf
    cases hd' : fr'.defers with
    | nil => rw [hd'] at hdf; exact hdf.elim
    | cons d' l' =>
      rw [hd'] at hdf
      obtain ⟨⟨r, r', rfl, rfl, hr0⟩, hdl⟩ := hdf
      simp only
      cases hr : (Instr.takeDeferred r).runT P v #[] with
      | mk rs es =>
        simp only
        cases rs with
        | ok x v' => exact (ge_go _ _ _).after _
        | halt x v' => exact (ge_end _ _ _).after _
theorem ge_exec {m : Bool} {bb : Tl} (hz : Zs P) (hg : Good P R) {fr fr' : Frame} {cs : List Frame} (hf : FR P R bb fr fr') {v w : World} (hw : WR R v w) : GoEnd (stepG.exec P m true fr cs none v) := by
  have htd := hf.td
  by_cases hmk : Mk fr.todo
  · obtain ⟨s, e⟩ := hmk
    unfold stepG.exec
    simp only [e]
    exact ge_end _ _ _
  have hlv : ∀ (j : Option Code) (b : Bool) (G0 : GStep), (fr.roundOf = none → G0 = (if b = true then .go { frame := { fr with mode := .returning }, callers := cs, status := .running, dying := none } v else .ended (.stuck "exit, goto: no such block or label" (fr.pos P)) v)) →
      (∀ l, fr.roundOf = some l → G0 = (match (Instr.endRound l j).runT P v #[] with | (r, es) => GStep.after (Go.seen P fr.fn es) <| match r with
        | .ok x v => doReturn P m fr cs none x v
        | .halt _ v => .ended (.stuck "range over a function: no such loop" (fr.pos P)) v)) → GoEnd G0 := fun j b G0 h0 h1 => by
    cases e : fr.roundOf with
    | none =>
      rw [h0 e]
      cases b
      · exact ge_end _ _ _
      · exact ge_go _ _ _
    | some l =>
      rw [h1 l e]
      cases hr : (Instr.endRound l j).runT P v #[] with
      | mk rs es =>
        simp only
        cases rs with
        | ok x v' => exact (ge_doReturn _ _ _ _ _).after _
        | halt x v' => exact (ge_end _ _ _).after _
  unfold stepG.exec
  cases ht : fr.todo with
  | nil =>
    simp only
    exact hlv none true _ (fun e => by simp [e, ht]) (fun l e => by simp only [e]; rfl)
  | cons x k =>
    rw [ht] at htd
    cases ht' : fr'.todo with
    | nil => rw [ht'] at htd; rw [ht] at hmk; exact absurd htd.2 hmk
    | cons x' k' =>
      rw [ht'] at htd
      obtain ⟨hx, hk⟩ := htd.resolve_right fun q => by rw [ht] at hmk; exact hmk q.2
      cases x with
      | inBlock i => exact ge_go _ _ _
      | inLoop body => exact ge_go _ _ _
      | inScope body => exact ge_go _ _ _
      | inRegion ops il =>
        cases x' with
        | inRegion ops' il' =>
          obtain ⟨⟨rfl, e2⟩, ho⟩ := hx
          subst e2
          cases il' with
          | nil => exact ge_go _ _ _
          | cons i rest =>
            simp only
            by_cases hwt : (Option.map (fun x => Region.wanted x (yielded ops' fr.tmps)) ops'[i]?).getD false = true
            · rw [if_pos hwt]
              unfold stepG.oper
              simp only [Frame.oper?, ht]
              cases hop : ops'[i]? with
              | none => rw [hop] at hwt; cases hwt
              | some o =>
                have hoo := ho i (by simp) o hop
                have nd : ∀ c, o.op ≠ .defer c := fun c e => by rw [e] at hoo; exact hoo
                have hs := sr_execOp hz hg hf.eval o hoo
                simp only
                split
                · rename_i z; exact absurd z (nd _)
                · exact ge_apply hs hw
            · rw [if_neg hwt]; exact ge_go _ _ _
        | _ => exact hx.elim
      | inRangeFunc l => exact ge_end _ _ _
      | endRangeFunc l =>
        simp only
        cases hr : (Instr.endLoop l).runT P v #[] with
        | mk rs es =>
          simp only
          cases rs with
          | ok j v' => exact (ge_go _ _ _).after _
          | halt x v' => cases x <;> first | exact (ge_go _ _ _).after _ | exact (ge_end _ _ _).after _
      | beginRound =>
        cases x' with
        | beginRound =>
          simp only
          have hs : SR P NA R (do fr.roundOf.elim (stuck "beginRound: no round") Instr.beginRound; pure .skip) (do fr'.roundOf.elim (stuck "beginRound: no round") Instr.beginRound; pure .skip) := by
            have hro := hf.ro
            cases e : fr.roundOf with
            | none =>
              rw [e] at hro
              cases e' : fr'.roundOf with
              | none => exact SR.no (Dead.first (dead_halt _) _) _
              | some l => rw [e'] at hro; exact hro.elim
            | some l =>
              rw [e] at hro
              cases e' : fr'.roundOf with
              | none => rw [e'] at hro; exact hro.elim
              | some l' =>
                rw [e'] at hro
                exact (sr_beginRound hro).bind' fun R1 u u' _ _ => sr_pure fun _ _ => trivial
          exact ge_apply hs hw
        | _ => exact hx.elim
      | code c =>
        cases x' with
        | code c' =>
          obtain ⟨rfl, hok⟩ := hx
          have hcd := hg.code _ hok
          cases c' with
          | ret =>
            simp only
            exact hlv (some .ret) true _ (fun e => by simp [e, ht]) (fun l e => by simp only [e]; rfl)
          | skip => exact ge_go _ _ _
          | label l => exact ge_go _ _ _
          | seq a b => exact ge_go _ _ _
          | cond x a b =>
            simp only
            cases e : fr.eval x <;> first | exact ge_go _ _ _ | exact ge_end _ _ _
          | block i c => exact ge_go _ _ _
          | loop c => exact ge_go _ _ _
          | scope c => exact ge_go _ _ _
          | exit i =>
            simp only
            cases e : exitTo i k with
            | none => exact hlv (some (.exit i)) false _ (fun e => by simp [e]) (fun l e => by simp only [e, Option.elim]; rfl)
            | some z => exact ge_go _ _ _
          | region id ops draw =>
            cases draw with
            | false => exact ge_go _ _ _
            | true => exact ge_go _ _ _
          | rangeFunc f ps a b =>
            simp only
            have q := (sr_enterLoop (P := P) fr.fn hf.tm ps a b hf.fn.2 hcd.2.1 hcd.2.2 hf.ro) R (Le.refl R) v w #[] hw |>.1
            have hrt := run_runT (P := P) (Instr.enterLoop fr.fn fr.tmps ps a b fr.roundOf) v
            cases hr : (Instr.enterLoop fr.fn fr.tmps ps a b fr.roundOf).runT P v #[] with
            | mk rs es =>
              rw [hr] at hrt
              simp only at hrt ⊢
              rw [← hrt] at q
              cases rs with
              | halt x v' => exact (ge_end _ _ _).after _
              | ok lm v' =>
                obtain ⟨R', lm', w', es', eq, hlm, hgu⟩ := q
                obtain ⟨l, mk⟩ := lm
                obtain ⟨l', mk'⟩ := lm'
                obtain ⟨hll, hmk⟩ := hlm
                simp only at hll hmk ⊢
                have hfm := hf.mono hgu.le
                have hf2 : FR P R' bb { fr with todo := .inRangeFunc l :: k, defers := mk ++ fr.defers } { fr' with todo := .inRangeFunc l' :: k', defers := mk' ++ fr'.defers } :=
                  ⟨hfm.fn, hfm.tm, (.inl ⟨hll, IsR.mono hgu.le hk⟩), CLR.append hmk hfm.df, hfm.md, hfm.kd, hfm.ro⟩
                have hs : SR P NA R' (do let d ← resolve (Frame.eval { fr with todo := .inRangeFunc l :: k, defers := mk ++ fr.defers }) { callee := .value f, args := #[.const (.func (.yield l) #[] #[])], argTypes := #[] } 0; invoke d.target d.args)
                    (do let d ← resolve (Frame.eval { fr' with todo := .inRangeFunc l' :: k', defers := mk' ++ fr'.defers }) { callee := .value f, args := #[.const (.func (.yield l') #[] #[])], argTypes := #[] } 0; invoke d.target d.args) := by
                  have h1 := hf2.eval f (hcd.1.mono hgu.le)
                  have h2 : XR R' #[.func (.yield l) #[] #[]] #[.func (.yield l') #[] #[]] := XR.one (VR.func (f := .yield l) (f' := .yield l') hll XR.nil XR.nil)
                  exact sr_callv (hg.mono hgu.le) h1 (by simp only [List.map_toArray, List.map_cons, List.map_nil, Frame.eval]; exact h2)
                exact (ge_apply hs hgu.wr).after _
          | _ => exact hcd.elim
        | _ => exact hx.elim
      | _ => cases x' <;> exact hx.elim
theorem ge_step {m : Bool} (hz : Zs P) {g : Goroutine} {v : World} (h : Slf P g v) : GoEnd (stepG P m g v) := by
  obtain ⟨R, t, hg, ⟨fr, cs, fr', cs', rfl, e, hf, hc, hb⟩, hw⟩ := h
  rcases hf.md.2 with hm | hm
  · rw [stepG_exec hm]; exact ge_exec hz hg hf hw
  · rw [stepG_unwind hm]; exact ge_unwind hg hf hm
end
end Go.Proofs.YtfbdgdphpdhcpaaDoor.Sm
namespace Go.Proofs.YtfbdgdphpdhcpaaDoor.Sm
open Go Go.Conc

section
variable {P : Program} {R : Ren}
/-- Where a lone run may stand. -/
def On (P : Program) (g : Goroutine) (v : World) : Prop := Slf P g v ∨ PanX P g v ∨ ∃ f : Frame, g = G f [] ∧ f.todo = [.code (.refuse "")] ∧ f.mode = .run
theorem On.form {g : Goroutine} {v : World} (h : On P g v) : ∃ fr cs, g = G fr cs := by
  rcases h with ⟨R, _, _, ⟨fr, cs, _, _, e, _⟩, _⟩ | h | ⟨f, e, _⟩
  · exact ⟨_, _, e⟩
  · rcases h with ⟨fr, cs, _, e, _⟩ | ⟨_, e⟩
    · exact ⟨_, _, e⟩
    · exact ⟨_, _, e⟩
  · exact ⟨_, _, e⟩
theorem ge_pan {m : Bool} {g : Goroutine} {v : World} (h : PanX P g v) : GoEnd (stepG P m g v) := by
  rcases h with ⟨fr, cs, chain, rfl, hm, hp, hcs⟩ | ⟨chain, rfl⟩
  · have e : stepG P m (G fr (cs ++ [dum])) v = unwind P m fr (cs ++ [dum]) none v := by
      unfold stepG
      simp only [G, hm]
    rw [e]
    unfold unwind
    cases hd : fr.defers with
    | nil =>
      obtain ⟨fn, hfn⟩ := hp.1
      have hc : fr.catches P = false := by unfold Frame.catches; rw [hfn]
      simp only [hm, hc, Bool.false_eq_true, if_false]
      cases cs with
      | nil => exact ge_go _ _ _
      | cons c cs => exact ge_go _ _ _
    | cons d l =>
      obtain ⟨r, rfl, hobj⟩ := hp.2 d (by rw [hd]; simp)
      simp only
      cases hr : (Instr.takeDeferred r).runT P v #[] with
      | mk rs es =>
        simp only
        cases rs with
        | ok x v' => exact (ge_go _ _ _).after _
        | halt x v' => exact (ge_end _ _ _).after _
  · have hm : (dum.raise chain).mode = .panicking chain := rfl
    have hd : (dum.raise chain).defers = [{ target := .nil, args := #[] }] := rfl
    have e : stepG P m (G (dum.raise chain) []) v = unwind P m (dum.raise chain) [] none v := by
      unfold stepG
      simp only [G, hm]
    rw [e]
    unfold unwind
    simp only [hd]
    unfold callDeferred
    simp only [hm]
    exact ge_end _ _ _
theorem On.step (hz : Zs P) {g : Goroutine} {v : World} (h : On P g v) : GoEnd (stepG P true g v) ∧ ∀ g1 v1 es, stepG P true g v = .go g1 v1 es → On P g1 v1 := by
  rcases h with h | h | ⟨f, rfl, h3, h4⟩
  · refine ⟨ge_step hz h, fun g1 v1 es e => ?_⟩
    by_cases hat : AtRet g
    · exact .inr (.inr (ret_next hat e))
    · rcases h.step hz e (fun fr q1 q2 q3 => hat ⟨fr, q1, q2, q3⟩) with q | q
      · exact .inr (.inl (.inl q))
      · exact .inl q
  · exact ⟨ge_pan h, fun g1 v1 es e => .inr (.inl (pan_next h e))⟩
  · exact ⟨by rw [refuse_ends h3 h4]; exact ge_end _ _ _, fun g1 v1 es e => by rw [refuse_ends h3 h4] at e; cases e⟩
def mach (g : Goroutine) (v : World) : Machine := { world := v, gs := #[g], rest := { timers := #[], alone := none, slice := none } }
theorem run_on (hz : Zs P) : ∀ (n : Nat) (g : Goroutine) (v : World), On P g v → ∀ m', runN P n (mach g v) = .next m' → ∃ g1 v1, m' = mach g1 v1 ∧ rn P true n g v = some (g1, v1)
  | 0, g, v, _, m', h => by cases h; exact ⟨g, v, rfl, rfl⟩
  | n + 1, g, v, hon, m', h => by
    obtain ⟨hge, hnx⟩ := hon.step hz
    obtain ⟨fr, cs, rfl⟩ := hon.form
    rcases hge with ⟨g1, v1, es, e⟩ | ⟨o, w, es, e⟩
    · have h1 := hnx g1 v1 es e
      obtain ⟨fr1, cs1, rfl⟩ := h1.form
      have hs : step P (mach (G fr cs) v) = .next (mach (G fr1 cs1) v1) := step_lone_go (fr := fr) (cs := cs) (fr' := fr1) (cs' := cs1) (by
        have e' : stepG P true { frame := fr, callers := cs, status := .running, dying := none } v = .go (G fr1 cs1) v1 es := e
        rw [e']; rfl)
      simp only [runN, hs] at h
      obtain ⟨g2, v2, e1, e2⟩ := run_on hz n _ _ h1 m' h
      exact ⟨g2, v2, e1, by simp only [rn, e]; exact e2⟩
    · have hs : step P (mach (G fr cs) v) = .ended o w := step_lone_ended (fr := fr) (cs := cs) (by
        have e' : stepG P true { frame := fr, callers := cs, status := .running, dying := none } v = .ended o w es := e
        rw [e']; rfl)
      simp only [runN, hs] at h
      cases h
/-- Where the call has come to its return, on some tape, with what the contract says. -/
def Back (P : Program) (f : FuncId) (Q : (Nat → Question → Nat) → Value → World → Prop) (g : Goroutine) (v : World) : Prop :=
  ∃ fr x τ τ0, g = G fr [dum] ∧ fr.fn = f ∧ fr.leaving P (tap τ v) (.returned x) ∧ Q τ0 x (tap τ v)
theorem Back.ret {f : FuncId} {Q : (Nat → Question → Nat) → Value → World → Prop} {g : Goroutine} {v : World} (h : Back P f Q g v) : AtRet g := by
  obtain ⟨fr, x, τ, τ0, e, _, ⟨h1, h2, _⟩, _⟩ := h
  exact ⟨fr, e, h1, h2⟩
end
end Go.Proofs.YtfbdgdphpdhcpaaDoor.Sm
namespace Go.Proofs.YtfbdgdphpdhcpaaDoor.Sm
open Go Go.Conc

/-- A goroutine in company: its record, the world, the blocks that it may look into, those that it may write. -/
structure St where
  g : Goroutine
  w : World
  O : Nat → Prop
  W : Nat → Prop
/-- What the others may do. -/
def Ry (O : Nat → Prop) (w w1 : World) : Prop := w.heap.size ≤ w1.heap.size ∧ (∀ b, O b → w1.heap[b]? = w.heap[b]?) ∧ w1.os = w.os ∧ w1.output = w.output
def EvG (O W : Nat → Prop) (e : Event) : Prop :=
  match e.loc with
  | .cell a => e.sync = false ∧ O a.block ∧ (e.write = true → W a.block)
  | .obj r => e.sync = false ∧ O r ∧ (e.write = true → W r)
  | .mark .noRoom => True
  | _ => False
/-- What a step of its own does. -/
structure Gd (O W O' W' : Nat → Prop) (w w' : World) (es : Array Event) : Prop where
  size : w.heap.size ≤ w'.heap.size
  kept : ∀ b, b < w.heap.size → ¬ W b → w'.heap[b]? = w.heap[b]?
  os : w'.os = w.os ∧ w'.output = w.output ∧ w'.tape = w.tape
  newO : ∀ b, O' b → O b ∨ (w.heap.size ≤ b ∧ b < w'.heap.size)
  newW : ∀ b, W' b → W b ∨ (w.heap.size ≤ b ∧ b < w'.heap.size)
  sub : ∀ b, W' b → O' b
  evs : ∀ e ∈ es, EvG O' W' e
def CoF (P : Program) (m : Bool) (Stop : St → Prop) (X : St → Prop) (s : St) : Prop :=
  (∀ w1, Ry s.O s.w w1 → Stop { s with w := w1 }) ∨
  (s.g.status = .running ∧ ∀ w1, Ry s.O s.w w1 → ∃ g2 w2 es O2 W2, stepG P m s.g w1 = .go g2 w2 es ∧ Gd s.O s.W O2 W2 w1 w2 es ∧ (g2.status = .running ∧ g2.offers = none) ∧ X ⟨g2, w2, O2, W2⟩)
/-- It comes to the stop by steps of its own, whatever the others do meanwhile. -/
abbrev Co (P : Program) (m : Bool) (Stop : St → Prop) (s : St) : Prop := Lfp (CoF P m Stop) s
section
variable {P : Program} {R : Ren}
theorem CoF.mono {m : Bool} {Stop : St → Prop} : ∀ X Y : St → Prop, (∀ a, X a → Y a) → ∀ a, CoF P m Stop X a → CoF P m Stop Y a := fun X Y h a q => by
  rcases q with q | ⟨q0, q⟩
  · exact .inl q
  · refine .inr ⟨q0, fun w1 hw => ?_⟩
    obtain ⟨g2, w2, es, O2, W2, h1, h2, h3, h4⟩ := q w1 hw
    exact ⟨g2, w2, es, O2, W2, h1, h2, h3, h _ h4⟩
/-- Worlds that hold the same, block for block; of their tapes nothing. -/
structure WR0 (R : Ren) (v w : World) : Prop where
  inj : ∀ b c b', R.rel b b' → R.rel c b' → b = c
  fn : ∀ b b' c', R.rel b b' → R.rel b c' → b' = c'
  dom : ∀ b b', R.rel b b' → b < v.heap.size ∧ b' < w.heap.size
  obj : ∀ (b b' : Nat) (o : Obj), R.rel b b' → v.heap[b]? = some o → ∃ o', w.heap[b']? = some o' ∧ OR R (R.lo b) o o'
  low : (R.low ≤ v.heap.size ∧ ∀ b, R.lo b = 0) ∧ R.low ≤ w.heap.size
  same : ∀ b b', R.rel b b' → (b < R.low ∨ b' < R.low) → b' = b
theorem WR.zero {v w : World} (h : WR R v w) : WR0 R v w := ⟨h.inj, h.fn, h.dom, h.obj, h.low, h.same⟩
/-- The lone tape that answers as the company's. -/
def syn (v w : World) : Nat → Question → Nat := fun d => w.tape (w.drawn + (d - v.drawn))
theorem WR0.wr {v w : World} (h : WR0 R v w) : WR R (tap (syn v w) v) w := ⟨h.inj, h.fn, h.dom, h.obj, h.low, h.same, fun k => by
  show w.tape (w.drawn + (v.drawn + k - v.drawn)) = _
  rw [Nat.add_sub_cancel_left]⟩
theorem WR0.heap {v w v' : World} (h : WR0 R v w) (hv : v'.heap = v.heap) : WR0 R v' w := ⟨h.inj, h.fn, by rw [hv]; exact h.dom, by rw [hv]; exact h.obj, by rw [hv]; exact h.low, h.same⟩
theorem WR0.rely {v w w1 : World} (h : WR0 R v w) (hr : Ry (Seen R) w w1) : WR0 R v w1 :=
  ⟨h.inj, h.fn, fun b b' q => ⟨(h.dom b b' q).1, Nat.lt_of_lt_of_le (h.dom b b' q).2 hr.1⟩, fun b b' o q ho => by
    obtain ⟨o', h1, h2⟩ := h.obj b b' o q ho
    exact ⟨o', by rw [hr.2.1 b' ⟨b, q⟩]; exact h1, h2⟩, ⟨h.low.1, Nat.le_trans h.low.2 hr.1⟩, h.same⟩
theorem Gu.gd {R' : Ren} {v v' w w' : World} {es : Array Event} (h : Gu R R' v v' w w' es) : Gd (Seen R) (Open R v) (Seen R') (Open R' v') w w' es where
  size := h.size
  kept := h.kept
  os := h.os
  newO b q := by
    obtain ⟨a, ha⟩ := q
    rcases h.new a b ha with z | z
    · exact .inl ⟨a, z⟩
    · exact .inr ⟨z.2, (h.wr.dom a b ha).2⟩
  newW b q := by
    obtain ⟨a, o, ha, ho, hs⟩ := q
    rcases h.new a b ha with z | z
    · have hd := (h.wr0.dom a b z).1
      obtain ⟨o', h1, h2, h3⟩ := h.shut a _ (Array.getElem?_eq_getElem hd)
      rw [ho] at h1
      cases h1
      exact .inl ⟨a, _, z, Array.getElem?_eq_getElem hd, fun q => hs (h2 q)⟩
    · exact .inr ⟨z.2, (h.wr.dom a b ha).2⟩
  sub b q := by obtain ⟨a, _, ha, _⟩ := q; exact ⟨a, ha⟩
  evs e he := h.evs e he
/-- The call has come back: what the lone contract says, and how the lone world goes with this one. -/
def Done (R0 : Ren) (n0 m0 : Nat) (Q : (Nat → Question → Nat) → Value → World → Prop) (c : Frame) (rc : List Frame) (s : St) : Prop :=
  ∃ (R' : Ren) (v1 : World) (τ τ0 : Nat → Question → Nat) (x x' : Value), s.g = G (c.finish x') rc ∧ Q τ0 x (tap τ v1) ∧ VR R' x x' ∧ WR0 R' v1 s.w ∧ Le R0 R' ∧
    (∀ b b', R'.rel b b' → R0.rel b b' ∨ (n0 ≤ b ∧ m0 ≤ b')) ∧ s.O = Seen R' ∧ s.W = Open R' v1
theorem cs_nil {cs : List Frame} {d : Frame} (h : cs ++ [d] = [d]) : cs = [] := by
  cases cs with
  | nil => rfl
  | cons a l =>
    have := congrArg List.length h
    simp at this
end
end Go.Proofs.YtfbdgdphpdhcpaaDoor.Sm
namespace Go.Proofs.YtfbdgdphpdhcpaaDoor.Sm
open Go Go.Conc

/-- The block of a place. -/
def blk : Loc → Nat → Prop
  | .cell a, b => a.block = b
  | .obj r, b => r = b
  | _, _ => False
/-- The trace, the worlds' size, who may look (O) and write (W) where, whose doings goroutine 0 need not know yet. -/
structure TI (t : Trace) (N : Nat) (O W : Nat → Nat → Prop) (Act : Nat → Prop) : Prop where
  clean : ∀ said, ¬ Race said t
  low : ∀ op ∈ t, op.act.low N
  words : Wordless t
  kn : ∀ (i k : Nat) (a : Touch), touchAt t k = some a → (∃ b, blk a.loc b ∧ (W i b ∨ (O i b ∧ a.write = true))) → Knows t i k
  ov : ∀ (k : Nat) (op : MemOp), t[k]? = some op → op.act.touch? ≠ none → op.g ≠ 0 → Act op.g ∨ Knows t 0 k
section
variable {t u : Trace} {N : Nat} {O W : Nat → Nat → Prop} {Act : Nat → Prop}
theorem blk_low {l : Loc} {b : Nat} (h : blk l b) (hl : l.low N) : b < N := by
  cases l <;> first | exact h.elim | (cases h; exact hl)
theorem touch_low {op : MemOp} {a : Touch} (h : op.act.touch? = some a) (hl : op.act.low N) {b : Nat} (hb : blk a.loc b) : b < N := by
  obtain ⟨g, fn, pos, act⟩ := op
  cases act with
  | access e => cases h; exact blk_low hb hl
  | mark m => cases m <;> first | (cases h; done) | (cases h; cases hb; exact hl)
  | _ => cases h
theorem TI.touchLow (h : TI t N O W Act) {k : Nat} {a : Touch} (ht : touchAt t k = some a) {b : Nat} (hb : blk a.loc b) : b < N := by
  obtain ⟨op, ho, ha⟩ := touch_of ht
  exact touch_low ha (h.low op (mem_of_getElem? ho)) hb
/-- Less may be touched. -/
theorem TI.less (h : TI t N O W Act) {N' : Nat} (hN : N ≤ N') {O' W' : Nat → Nat → Prop} (hO : ∀ i b, O' i b → O i b ∨ N ≤ b) (hW : ∀ i b, W' i b → W i b ∨ N ≤ b) {Act' : Nat → Prop} (hA : ∀ i, Act i → Act' i) : TI t N' O' W' Act' :=
  ⟨h.clean, fun op ho => MemAct.low_mono hN (h.low op ho), h.words, fun i k a ha ⟨b, hb, hp⟩ => by
    have hlt := h.touchLow ha hb
    refine h.kn i k a ha ⟨b, hb, ?_⟩
    rcases hp with hp | ⟨hp, hw⟩
    · exact (hW i b hp).elim .inl fun q => absurd hlt (by omega)
    · exact (hO i b hp).elim (fun q => .inr ⟨q, hw⟩) fun q => absurd hlt (by omega), fun k op h1 h2 h3 => (h.ov k op h1 h2 h3).imp (hA _) id⟩
theorem ev_touch {e : Event} {a : Touch} (h : (MemAct.ofEvent e).touch? = some a) (hs : e.sync = false) (hm : ∀ m, e.loc ≠ .mark m) : a = ⟨e.loc, e.write, .plain⟩ := by
  obtain ⟨loc, wr, sy⟩ := e
  simp only at hs hm
  subst hs
  cases loc <;> cases wr <;> first | (cases h; rfl) | exact absurd rfl (hm _)
theorem evg_touch {O' W' : Nat → Prop} {e : Event} (he : EvG O' W' e) {a : Touch} (h : (MemAct.ofEvent e).touch? = some a) : ∃ b, blk a.loc b ∧ (∀ b', blk a.loc b' → b' = b) ∧ O' b ∧ (a.write = true → W' b) := by
  unfold EvG at he
  split at he
  · rename_i x hx
    have := ev_touch h he.1 (fun m e' => by rw [hx] at e'; cases e')
    subst this
    rw [hx]
    exact ⟨x.block, rfl, fun _ q => q.symm, he.2.1, he.2.2⟩
  · rename_i x hx
    have := ev_touch h he.1 (fun m e' => by rw [hx] at e'; cases e')
    subst this
    rw [hx]
    exact ⟨x, rfl, fun _ q => q.symm, he.2.1, he.2.2⟩
  · rename_i hx
    obtain ⟨loc, wr, sy⟩ := e
    simp only at hx
    subst hx
    cases h
  · exact he.elim
theorem evg_low {O' W' : Nat → Prop} {e : Event} (he : EvG O' W' e) {N' : Nat} (hO : ∀ b, O' b → b < N') : (MemAct.ofEvent e).low N' := by
  unfold EvG at he
  obtain ⟨loc, wr, sy⟩ := e
  split at he
  · rename_i x hx; simp only at hx he; subst hx; cases sy <;> cases wr <;> exact hO _ he.2.1
  · rename_i x hx; simp only at hx he; subst hx; cases sy <;> cases wr <;> exact hO _ he.2.1
  · rename_i hx; simp only at hx; subst hx; cases sy <;> cases wr <;> exact trivial
  · exact he.elim
theorem evg_word {O' W' : Nat → Prop} {e : Event} (he : EvG O' W' e) : ∀ m, MemAct.ofEvent e = .mark m → Neutral m := by
  unfold EvG at he
  obtain ⟨loc, wr, sy⟩ := e
  intro m hm
  split at he
  · rename_i x hx; simp only at hx; subst hx; cases sy <;> cases wr <;> cases hm
  · rename_i x hx; simp only at hx; subst hx; cases sy <;> cases wr <;> cases hm
  · rename_i hx; simp only at hx; subst hx; cases sy <;> cases wr <;> (cases hm; trivial)
  · exact he.elim
/-- Operations of one goroutine, each within what it may touch now: new blocks, or those that it might. -/
theorem TI.own (h : TI t N O W Act) {N' : Nat} (hN : N ≤ N') {g : Nat} (hu : ∀ op ∈ u, op.g = g) {O' W' : Nat → Prop}
    (ht : ∀ op ∈ u, ∀ a, op.act.touch? = some a → ∃ b, blk a.loc b ∧ (∀ b', blk a.loc b' → b' = b) ∧ O' b ∧ (a.write = true → W' b)) (hlow : ∀ op ∈ u, op.act.low N') (hw : Wordless u)
    (hO : ∀ b, O' b → O g b ∨ N ≤ b) (hW : ∀ b, W' b → W g b ∨ N ≤ b) (hOW : ∀ j, j ≠ g → ∀ b, O' b → ¬ W j b) (hWO : ∀ j, j ≠ g → ∀ b, W' b → ¬ O j b) (ha : g ≠ 0 → Act g) :
    TI (t ++ u) N' (fun i b => if i = g then O' b else O i b) (fun i b => if i = g then W' b else W i b) Act := by
  refine ⟨fun said => noRace_append (h.clean said) hu fun i a hta op hop b hb hc => ?_, fun op ho => ?_, h.words.append hw, fun i k a hta hp => ?_, fun k op h1 h2 h3 => ?_⟩
  · obtain ⟨x, hx, hx1, hxO, hxW⟩ := ht op hop b hb
    obtain ⟨hl, _, hwr, _⟩ := hc
    have hbk : blk a.loc x := by rw [hl]; exact hx
    have hlt := h.touchLow hta hbk
    refine h.kn g i a hta ⟨x, hbk, ?_⟩
    rcases hwr with q | q
    · exact (hO x hxO).elim (fun z => .inr ⟨z, q⟩) fun z => absurd hlt (by omega)
    · exact (hW x (hxW q)).elim .inl fun z => absurd hlt (by omega)
  · rcases Array.mem_append.1 ho with q | q
    · exact MemAct.low_mono hN (h.low op q)
    · exact hlow op q
  · obtain ⟨x, hx, hp⟩ := hp
    obtain ⟨op, ho, hoa⟩ := touch_of hta
    rcases getElem?_append_cases ho with ⟨hk, ho'⟩ | ⟨hk, hou⟩
    · have hta' : touchAt t k = some a := by rw [touchAt_of ho']; exact hoa
      have hlt := h.touchLow hta' hx
      refine (h.kn i k a hta' ⟨x, hx, ?_⟩).app u
      by_cases e : i = g
      · subst e
        simp only [if_true] at hp
        rcases hp with q | ⟨q, r⟩
        · exact (hW x q).elim .inl fun z => absurd hlt (by omega)
        · exact (hO x q).elim (fun z => .inr ⟨z, r⟩) fun z => absurd hlt (by omega)
      · simp only [if_neg e] at hp
        exact hp
    · obtain ⟨y, hy, hy1, hyO, hyW⟩ := ht op hou a hoa
      have hxy : x = y := hy1 x hx
      subst hxy
      by_cases e : i = g
      · subst e
        have := knows_own ho
        rw [hu op hou] at this
        exact this
      · exfalso
        simp only [if_neg e] at hp
        rcases hp with q | ⟨q, r⟩
        · exact hOW i e x hyO q
        · exact hWO i e x (hyW r) q
  · rcases getElem?_append_cases h1 with ⟨hk, ho'⟩ | ⟨hk, hou⟩
    · exact (h.ov k op ho' h2 h3).imp id (·.app u)
    · rw [hu op hou] at h3 ⊢
      exact .inl (ha h3)
/-- Nothing touched. -/
theorem TI.still (h : TI t N O W Act) (hn : ∀ op ∈ u, op.act.touch? = none) (hl : ∀ op ∈ u, op.act.low N) (hw : Wordless u) : TI (t ++ u) N O W Act := by
  have htu : ∀ {k : Nat} {a : Touch}, touchAt (t ++ u) k = some a → touchAt t k = some a := fun {k a} q => by
    obtain ⟨op, ho, hoa⟩ := touch_of q
    rcases getElem?_append_cases ho with ⟨_, ho'⟩ | ⟨_, hou⟩
    · rw [touchAt_of ho']; exact hoa
    · rw [hn op hou] at hoa; cases hoa
  refine ⟨fun said hr => ?_, fun op ho => (Array.mem_append.1 ho).elim (h.low op) (hl op), h.words.append hw, fun i k a hta hp => (h.kn i k a (htu hta) hp).app u, fun k op h1 h2 h3 => ?_⟩
  · obtain ⟨i, j, hij, ⟨a, b, hta, htb, hc⟩, n1, n2⟩ := hr
    have h1 := htu hta
    have h2 := htu htb
    exact h.clean said ⟨i, j, hij, ⟨a, b, h1, h2, hc⟩, fun e => n1 (hb_app u e), fun e => n2 (hb_app u e)⟩
  · rcases getElem?_append_cases h1 with ⟨_, ho'⟩ | ⟨_, hou⟩
    · exact (h.ov k op ho' h2 h3).imp id (·.app u)
    · exact absurd (hn op hou) h2
end
end Go.Proofs.YtfbdgdphpdhcpaaDoor.Sm
