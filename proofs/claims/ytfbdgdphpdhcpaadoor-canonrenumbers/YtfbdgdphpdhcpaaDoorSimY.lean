/-
  One step of a goroutine hangs on the answers that it draws alone. Conditions: as in SimW.
-/
import Derived.Test.YtfbdgdphpdhcpaaDoorSimW
namespace Go.Proofs.YtfbdgdphpdhcpaaDoor.Sm
open Go Go.Conc

section
variable {P : Program} {R : Ren} {t : Tl} {lc rc : List Frame}
/-- What is drawn between two worlds is the same in τ. -/
def Ag (v v1 : World) (τ : Nat → Question → Nat) : Prop := ∀ d, v.drawn ≤ d → d < v1.drawn → v.tape d = τ d
/-- A step that goes on: it draws on, and with the same answers it is the same. -/
def StL (f : World → GStep) (v : World) (g1 : Goroutine) (v1 : World) : Prop :=
  v.drawn ≤ v1.drawn ∧ v1.tape = v.tape ∧ ∀ τ, Ag v v1 τ → ∃ es, f (tap τ v) = .go g1 (tap τ v1) es
theorem runT_tap {α : Type} {s : Sem α} {v v' : World} {r : Result α} (h : s.run P v = r) (hr : rworld r = v') (hl : Lc P s v) {τ : Nat → Question → Nat} (ha : Ag v v' τ) : ∃ es, s.runT P (tap τ v) #[] = (rtap τ r, es) := by
  have := hl τ (fun d h1 h2 => ha d h1 (by rw [h, hr] at h2; exact h2))
  rw [h] at this
  exact ⟨_, Prod.ext ((run_runT s (tap τ v)).trans this) rfl⟩
theorem run_world {α : Type} {s : Sem α} {v v' : World} {r : Result α} (h : s.run P v = r) (hr : rworld r = v') : v.drawn ≤ v'.drawn ∧ v'.tape = v.tape := by
  have h1 := run_mono (P := P) s v
  have h2 := run_tape (P := P) s v
  rw [h, hr] at h1 h2
  exact ⟨h1, h2⟩
theorem loc_apply {fr : Frame} {cs : List Frame} {s s' : Sem Next} (hs : SR P NA R s s') {v w : World} (hw : WR R v w)
    {g1 : Goroutine} {v1 : World} {es1 : Array Event} (hst : stepG.apply P true fr cs none s v = .go g1 v1 es1) :
    StL (stepG.apply P true fr cs none s) v g1 v1 := by
  obtain ⟨q, hl⟩ := hs R (Le.refl R) v w #[] hw
  have hrt := run_runT (P := P) s v
  unfold stepG.apply at hst
  simp only [if_true] at hst
  cases hr : s.runT P v #[] with
  | mk r es =>
    rw [hr] at hst hrt
    simp only at hst hrt
    rw [← hrt] at q
    cases r with
    | ok n v' =>
      obtain ⟨R', n', w', es', e, hn, hgu⟩ := q
      have hn : NR R' n n' := hn
      have key : v' = v1 → (∀ τ es, s.runT P (tap τ v) #[] = (rtap τ (.ok n v'), es) → ∃ es2, stepG.apply P true fr cs none s (tap τ v) = .go g1 (tap τ v1) es2) → StL (stepG.apply P true fr cs none s) v g1 v1 := fun e2 hf => by
        subst e2
        obtain ⟨a, b⟩ := run_world hrt.symm rfl
        refine ⟨a, b, fun τ ha => ?_⟩
        obtain ⟨es3, h3⟩ := runT_tap hrt.symm rfl hl ha
        exact hf τ es3 h3
      cases n with
      | value x =>
        simp only [GStep.after, GStep.go.injEq] at hst
        obtain ⟨e1, e2, _⟩ := hst
        refine key e2 fun τ es3 h3 => ?_
        unfold stepG.apply
        simp only [if_true, h3, rtap, GStep.after, e1, e2]
        exact ⟨_, rfl⟩
      | skip =>
        simp only [GStep.after, GStep.go.injEq] at hst
        obtain ⟨e1, e2, _⟩ := hst
        refine key e2 fun τ es3 h3 => ?_
        unfold stepG.apply
        simp only [if_true, h3, rtap, GStep.after, e1, e2]
        exact ⟨_, rfl⟩
      | enter f xs =>
        simp only [GStep.after, GStep.go.injEq] at hst
        obtain ⟨e1, e2, _⟩ := hst
        refine key e2 fun τ es3 h3 => ?_
        unfold stepG.apply
        simp only [if_true, h3, rtap, GStep.after, e1, e2]
        exact ⟨_, rfl⟩
      | round l f xs a b =>
        simp only [GStep.after, GStep.go.injEq] at hst
        obtain ⟨e1, e2, _⟩ := hst
        refine key e2 fun τ es3 h3 => ?_
        unfold stepG.apply
        simp only [if_true, h3, rtap, GStep.after, e1, e2]
        exact ⟨_, rfl⟩
      | _ => cases n' <;> exact hn.elim
    | halt x v' =>
      have q : PlainH x ∧ Dk v v' := q
      cases x with
      | panic pv =>
        simp only [GStep.after, GStep.go.injEq] at hst
        obtain ⟨e1, e2, _⟩ := hst
        subst e2
        obtain ⟨a, b⟩ := run_world hrt.symm rfl
        refine ⟨a, b, fun τ ha => ?_⟩
        obtain ⟨es3, h3⟩ := runT_tap hrt.symm rfl hl ha
        unfold stepG.apply
        simp only [if_true, h3, rtap, GStep.after, e1]
        exact ⟨_, rfl⟩
      | stuck m => simp only [GStep.after] at hst; cases hst
      | unsupported u =>
        cases u <;> first | exact q.1.elim | (simp only [GStep.after] at hst; cases hst)
      | _ => exact q.1.elim
theorem doReturn_any {m : Bool} {fr : Frame} {cs : List Frame} {x : Value} {w v1 : World} {g1 : Goroutine} {es : Array Event} (h : doReturn P m fr cs none x w = .go g1 v1 es) :
    v1 = w ∧ ∀ w2, ∃ es, doReturn P m fr cs none x w2 = .go g1 w2 es := by
  have go : ∀ {G0 : Goroutine} {f : World → GStep}, (∀ u, f u = .go G0 u #[]) → f w = .go g1 v1 es → v1 = w ∧ ∀ w2, ∃ es, f w2 = .go g1 w2 es := fun {G0 f} h1 h2 => by
    rw [h1, GStep.go.injEq] at h2
    exact ⟨h2.2.1.symm, fun w2 => ⟨#[], by rw [h1, h2.1]⟩⟩
  refine (?_ : doReturn P m fr cs none x w = .go g1 v1 es → _) h
  clear h
  cases cs with
  | cons c l =>
    cases hk : fr.kind <;> exact go (f := fun w => doReturn P m fr (c :: l) none x w) (fun u => by unfold doReturn; simp only [hk]; rfl)
  | nil =>
    cases m with
    | false => cases hk : fr.kind <;> first
        | exact go (f := fun w => doReturn P false fr [] none x w) (fun u => by unfold doReturn; simp only [hk, Bool.not_false, if_true]; rfl)
        | (intro h; unfold doReturn at h; simp only [hk] at h; cases h)
    | true =>
      cases hi : P.inits.idxOf? fr.fn with
      | none => intro h; exfalso; unfold doReturn at h; cases hk : fr.kind <;> (simp only [hk, hi, Bool.not_true, Bool.false_eq_true, if_false] at h; cases h)
      | some k => cases hk : fr.kind <;> first
          | exact go (f := fun w => doReturn P true fr [] none x w) (fun u => by unfold doReturn; simp only [hk, hi, Bool.not_true, Bool.false_eq_true, if_false]; rfl)
          | (intro h; unfold doReturn at h; simp only [hk] at h; cases h)
theorem stl_pure {f : World → GStep} {v : World} {g1 : Goroutine} {v1 : World} (h1 : v1 = v) (h2 : ∀ τ, ∃ es, f (tap τ v) = .go g1 (tap τ v) es) : StL f v g1 v1 := by
  subst h1
  exact ⟨Nat.le_refl _, rfl, fun τ _ => h2 τ⟩
theorem loc_unwind {m : Bool} {bb : Tl} (hg : Good P R) {fr fr' : Frame} {cs : List Frame} (hf : FR P R bb fr fr') (hret : fr.mode = .returning) {v w : World} (hw : WR R v w)
    {g1 : Goroutine} {v1 : World} {es1 : Array Event} (hst : unwind P m fr cs none v = .go g1 v1 es1) : StL (unwind P m fr cs none) v g1 v1 := by
  have hdf := hf.df
  unfold unwind at hst
  cases hd : fr.defers with
  | nil =>
    rw [hd] at hst
    obtain ⟨fn, h1⟩ := hg.kn fr.fn hf.fn.2
    simp only [hret, h1] at hst
    obtain ⟨q, hl⟩ := (sr_results (P := P) fn hf.tm) R (Le.refl R) v w #[] hw
    have hrt := run_runT (P := P) (results fn fr.tmps) v
    cases hr : (results fn fr.tmps).runT P v #[] with
    | mk r es =>
      rw [hr] at hst hrt
      simp only at hst hrt
      cases r with
      | ok x v' =>
        simp only at hst
        cases hdr : doReturn P m fr cs none x v' with
        | go g2 v2 es2 =>
          rw [hdr] at hst
          simp only [GStep.after, GStep.go.injEq] at hst
          obtain ⟨e1, e2, _⟩ := hst
          subst e1
          subst e2
          obtain ⟨e3, h3⟩ := doReturn_any hdr
          subst e3
          obtain ⟨a, b⟩ := run_world hrt.symm rfl
          refine ⟨a, b, fun τ ha => ?_⟩
          obtain ⟨es3, h4⟩ := runT_tap hrt.symm rfl hl ha
          obtain ⟨es4, h5⟩ := h3 (tap τ v2)
          unfold unwind
          simp only [hd, hret, h1, h4, rtap, h5, GStep.after]
          exact ⟨_, rfl⟩
        | _ => rw [hdr] at hst; simp only [GStep.after] at hst; cases hst
      | halt x v' =>
        exfalso
        cases x <;> (simp only [GStep.after] at hst; cases hst)
  | cons d l =>
    rw [hd] at hst hdf
    cases hd' : fr'.defers with
    | nil => rw [hd'] at hdf; exact hdf.elim
    | cons d' l' =>
      rw [hd'] at hdf
      obtain ⟨⟨r, r', rfl, rfl, hr0⟩, hdl⟩ := hdf
      simp only at hst
      obtain ⟨q, hl⟩ := (sr_takeDeferred (P := P) hr0) R (Le.refl R) v w #[] hw
      have hrt := run_runT (P := P) (Instr.takeDeferred r) v
      cases hr : (Instr.takeDeferred r).runT P v #[] with
      | mk rs es =>
        rw [hr] at hst hrt
        simp only at hst hrt
        cases rs with
        | ok x v' =>
          simp only [GStep.after, GStep.go.injEq] at hst
          obtain ⟨e1, e2, _⟩ := hst
          subst e2
          obtain ⟨a, b⟩ := run_world hrt.symm rfl
          refine ⟨a, b, fun τ ha => ?_⟩
          obtain ⟨es3, h4⟩ := runT_tap hrt.symm rfl hl ha
          unfold unwind
          simp only [hd, h4, rtap, GStep.after, e1]
          exact ⟨_, rfl⟩
        | halt x v' =>
          exfalso
          simp only [GStep.after] at hst
          cases hst
theorem loc_leave {m : Bool} {fr fr' : Frame} {cs : List Frame} (hro : ONR R fr.roundOf fr'.roundOf) {v w : World} (hw : WR R v w) (j : Option Code) (hj : ∀ c, j = some c → R.ok c) {f : World → GStep} (b : Bool)
    {g1 : Goroutine} {v1 : World} {es1 : Array Event}
    (h0 : fr.roundOf = none → ∀ u, f u = (if b = true then .go { frame := { fr with mode := .returning }, callers := cs, status := .running, dying := none } u else .ended (.stuck "exit, goto: no such block or label" (fr.pos P)) u))
    (h1 : ∀ l, fr.roundOf = some l → ∀ u, f u = (match (Instr.endRound l j).runT P u #[] with | (r, es) => GStep.after (Go.seen P fr.fn es) <| match r with
        | .ok x v => doReturn P m fr cs none x v
        | .halt _ v => .ended (.stuck "range over a function: no such loop" (fr.pos P)) v))
    (hst : f v = .go g1 v1 es1) : StL f v g1 v1 := by
  cases e : fr.roundOf with
  | none =>
    have h0 := h0 e
    rw [h0] at hst
    cases b with
    | false => cases hst
    | true =>
      simp only [if_true, GStep.go.injEq] at hst
      obtain ⟨e1, e2, _⟩ := hst
      exact stl_pure e2.symm fun τ => ⟨#[], by rw [h0, if_pos rfl, e1]⟩
  | some l =>
    rw [e] at hro
    have h1 := h1 l e
    cases e' : fr'.roundOf with
    | none => rw [e'] at hro; exact hro.elim
    | some l' =>
      rw [e'] at hro
      rw [h1] at hst
      obtain ⟨q, hl⟩ := (sr_endRound (P := P) hro j hj) R (Le.refl R) v w #[] hw
      have hrt := run_runT (P := P) (Instr.endRound l j) v
      cases hr : (Instr.endRound l j).runT P v #[] with
      | mk rs es =>
        rw [hr] at hst hrt
        simp only at hst hrt
        cases rs with
        | ok x v' =>
          simp only at hst
          cases hdr : doReturn P m fr cs none x v' with
          | go g2 v2 es2 =>
            rw [hdr] at hst
            simp only [GStep.after, GStep.go.injEq] at hst
            obtain ⟨e1, e2, _⟩ := hst
            subst e1
            subst e2
            obtain ⟨e3, h3⟩ := doReturn_any hdr
            subst e3
            obtain ⟨a, b⟩ := run_world hrt.symm rfl
            refine ⟨a, b, fun τ ha => ?_⟩
            obtain ⟨es3, h4⟩ := runT_tap hrt.symm rfl hl ha
            obtain ⟨es4, h5⟩ := h3 (tap τ v2)
            rw [h1]
            simp only [h4, rtap, h5, GStep.after]
            exact ⟨_, rfl⟩
          | _ => rw [hdr] at hst; simp only [GStep.after] at hst; cases hst
        | halt x v' =>
          exfalso
          simp only [GStep.after] at hst
          cases hst
theorem stl_to {f : World → GStep} {v v1 : World} {g0 g1 : Goroutine} {es1 : Array Event} (h : ∀ u, f u = .go g0 u #[]) (hst : f v = .go g1 v1 es1) : StL f v g1 v1 := by
  rw [h, GStep.go.injEq] at hst
  exact stl_pure hst.2.1.symm fun τ => ⟨#[], by rw [h, hst.1]⟩
theorem loc_exec {m : Bool} {bb : Tl} (hz : Zs P) (hg : Good P R) {fr fr' : Frame} {cs : List Frame} (hf : FR P R bb fr fr') {v w : World} (hw : WR R v w)
    {g1 : Goroutine} {v1 : World} {es1 : Array Event} (hst : stepG.exec P m true fr cs none v = .go g1 v1 es1) : StL (stepG.exec P m true fr cs none) v g1 v1 := by
  have htd := hf.td
  by_cases hmk : Mk fr.todo
  · exfalso
    obtain ⟨s, e⟩ := hmk
    unfold stepG.exec at hst
    simp only [e] at hst
    cases hst
  cases ht : fr.todo with
  | nil =>
    exact loc_leave (P := P) (m := m) (cs := cs) (f := stepG.exec P m true fr cs none) hf.ro hw none (fun c e => by cases e) true (fun e u => by unfold stepG.exec; simp [ht, e]) (fun l e u => by unfold stepG.exec; simp only [ht, e]; rfl) hst
  | cons x k =>
    rw [ht] at htd
    cases ht' : fr'.todo with
    | nil => rw [ht'] at htd; rw [ht] at hmk; exact absurd htd.2 hmk
    | cons x' k' =>
      rw [ht'] at htd
      obtain ⟨hx, hk⟩ := htd.resolve_right fun q => by rw [ht] at hmk; exact hmk q.2
      cases x with
      | inBlock i => exact stl_to (fun u => by unfold stepG.exec; simp only [ht]; rfl) hst
      | inLoop body => exact stl_to (fun u => by unfold stepG.exec; simp only [ht]; rfl) hst
      | inScope body => exact stl_to (fun u => by unfold stepG.exec; simp only [ht]; rfl) hst
      | inRegion ops il =>
        cases x' with
        | inRegion ops' il' =>
          obtain ⟨⟨rfl, e2⟩, ho⟩ := hx
          subst e2
          cases il' with
          | nil => exact stl_to (fun u => by unfold stepG.exec; simp only [ht]; rfl) hst
          | cons i rest =>
            by_cases hwt : (Option.map (fun x => Region.wanted x (yielded ops' fr.tmps)) ops'[i]?).getD false = true
            · cases hop : ops'[i]? with
              | none => rw [hop] at hwt; cases hwt
              | some o =>
                have hoo := ho i (by simp) o hop
                have nd : ∀ c, o.op ≠ .defer c := fun c e => by rw [e] at hoo; exact hoo
                have hs := sr_execOp hz hg hf.eval o hoo
                have he : ∀ u, stepG.exec P m true fr cs none u = stepG.apply P true fr cs none (execOp fr.eval o) u := fun u => by
                  unfold stepG.exec
                  simp only [ht]
                  rw [if_pos hwt]
                  unfold stepG.oper
                  simp only [Frame.oper?, ht, hop]
                  split
                  · rename_i z; exact absurd z (nd _)
                  · rfl
                rw [he] at hst
                obtain ⟨a, b, c⟩ := loc_apply hs hw hst
                exact ⟨a, b, fun τ ha => by rw [he]; exact c τ ha⟩
            · exact stl_to (g0 := { frame := fr.finish undef, callers := cs, status := .running, dying := none }) (fun u => by unfold stepG.exec; simp only [ht]; rw [if_neg hwt]) hst
        | _ => exact hx.elim
      | inRangeFunc l => unfold stepG.exec at hst; simp only [ht] at hst; cases hst
      | endRangeFunc l =>
        cases x' with
        | endRangeFunc l' =>
          obtain ⟨q, hl⟩ := (sr_endLoop (P := P) hx) R (Le.refl R) v w #[] hw
          have hrt := run_runT (P := P) (Instr.endLoop l) v
          unfold stepG.exec at hst
          simp only [ht] at hst
          cases hr : (Instr.endLoop l).runT P v #[] with
          | mk rs es =>
            rw [hr] at hst hrt
            simp only at hst hrt
            rw [← hrt] at q
            cases rs with
            | ok j v' =>
              simp only [GStep.after, GStep.go.injEq] at hst
              obtain ⟨e1, e2, _⟩ := hst
              subst e2
              obtain ⟨a, b⟩ := run_world hrt.symm rfl
              refine ⟨a, b, fun τ ha => ?_⟩
              obtain ⟨es3, h4⟩ := runT_tap hrt.symm rfl hl ha
              unfold stepG.exec
              simp only [ht, h4, rtap, GStep.after, e1]
              exact ⟨_, rfl⟩
            | halt x v' =>
              have q : PlainH x ∧ Dk v v' := q
              cases x with
              | panic pv =>
                simp only [GStep.after, GStep.go.injEq] at hst
                obtain ⟨e1, e2, _⟩ := hst
                subst e2
                obtain ⟨a, b⟩ := run_world hrt.symm rfl
                refine ⟨a, b, fun τ ha => ?_⟩
                obtain ⟨es3, h4⟩ := runT_tap hrt.symm rfl hl ha
                unfold stepG.exec
                simp only [ht, h4, rtap, GStep.after, e1]
                exact ⟨_, rfl⟩
              | stuck m => simp only [GStep.after] at hst; cases hst
              | unsupported u => simp only [GStep.after] at hst; cases hst
              | _ => exact q.1.elim
        | _ => exact hx.elim
      | beginRound =>
        cases x' with
        | beginRound =>
          have he : ∀ u, stepG.exec P m true fr cs none u = stepG.apply P true fr cs none (do fr.roundOf.elim (stuck "beginRound: no round") Instr.beginRound; pure .skip) u := fun u => by
            unfold stepG.exec
            simp only [ht]
          have hs : SR P NA R (do fr.roundOf.elim (stuck "beginRound: no round") Instr.beginRound; pure .skip) (do fr'.roundOf.elim (stuck "beginRound: no round") Instr.beginRound; pure .skip) := by
            have hro := hf.ro
            cases e : fr.roundOf with
            | none =>
              rw [e] at hro
              cases e' : fr'.roundOf with
              | none => exact SR.no (Dead.first (dead_halt _) _) _
              | some l => rw [e'] at hro; exact hro.elim
            | some l =>
              rw [e] at hro
              cases e' : fr'.roundOf with
              | none => rw [e'] at hro; exact hro.elim
              | some l' =>
                rw [e'] at hro
                exact (sr_beginRound hro).bind' fun R1 u u' _ _ => sr_pure fun _ _ => trivial
          rw [he] at hst
          obtain ⟨a, b, c⟩ := loc_apply hs hw hst
          exact ⟨a, b, fun τ ha => by rw [he]; exact c τ ha⟩
        | _ => exact hx.elim
      | code c =>
        cases x' with
        | code c' =>
          obtain ⟨rfl, hok⟩ := hx
          have hcd := hg.code _ hok
          cases c' with
          | ret => exact loc_leave (P := P) (m := m) (cs := cs) (f := stepG.exec P m true fr cs none) hf.ro hw (some .ret) (fun c e => by cases e; exact hg.ret) true (fun e u => by unfold stepG.exec; simp [ht, e]) (fun l e u => by unfold stepG.exec; simp only [ht, e]; rfl) hst
          | skip => exact stl_to (fun u => by unfold stepG.exec; simp only [ht]; rfl) hst
          | label l => exact stl_to (fun u => by unfold stepG.exec; simp only [ht]; rfl) hst
          | seq a b => exact stl_to (fun u => by unfold stepG.exec; simp only [ht]; rfl) hst
          | cond x a b =>
            cases e : fr.eval x with
            | bool t => exact stl_to (fun u => by unfold stepG.exec; simp only [ht, e]; rfl) hst
            | _ => unfold stepG.exec at hst; simp only [ht, e] at hst; cases hst
          | block i c => exact stl_to (fun u => by unfold stepG.exec; simp only [ht]; rfl) hst
          | loop c => exact stl_to (fun u => by unfold stepG.exec; simp only [ht]; rfl) hst
          | scope c => exact stl_to (fun u => by unfold stepG.exec; simp only [ht]; rfl) hst
          | exit i =>
            rcases exitTo_rel i hk with ⟨h1, h2⟩ | ⟨z, z', h1, h2, hzz⟩
            · exact loc_leave (P := P) (m := m) (cs := cs) (f := stepG.exec P m true fr cs none) hf.ro hw (some (.exit i)) (fun c e => by cases e; exact hg.exits i) false (fun e u => by unfold stepG.exec; simp [ht, e, h1]) (fun l e u => by unfold stepG.exec; simp only [ht, e, h1, Option.elim]; rfl) hst
            · exact stl_to (fun u => by unfold stepG.exec; simp only [ht, h1, Option.elim]; rfl) hst
          | region id ops draw =>
            cases draw with
            | false => exact stl_to (fun u => by unfold stepG.exec; simp only [ht]; rfl) hst
            | true =>
              unfold stepG.exec at hst
              simp only [ht, choose, Sem.run, Question.forced, Question.cut, Bool.not_true, Bool.false_eq_true, if_false, GStep.go.injEq] at hst
              obtain ⟨e1, e2, _⟩ := hst
              subst e2
              refine ⟨Nat.le_succ _, rfl, fun τ ha => ?_⟩
              have h0 : (tap τ v).tape (tap τ v).drawn = v.tape v.drawn := (ha v.drawn (Nat.le_refl _) (Nat.lt_succ_self _)).symm
              unfold stepG.exec
              simp only [ht, choose, Sem.run, Question.forced, Question.cut, Bool.not_true, Bool.false_eq_true, if_false, h0, e1]
              exact ⟨_, rfl⟩
          | rangeFunc f ps a b =>
            obtain ⟨q, hl⟩ := (sr_enterLoop (P := P) fr.fn hf.tm ps a b hf.fn.2 hcd.2.1 hcd.2.2 hf.ro) R (Le.refl R) v w #[] hw
            have hrt := run_runT (P := P) (Instr.enterLoop fr.fn fr.tmps ps a b fr.roundOf) v
            unfold stepG.exec at hst
            simp only [ht] at hst
            cases hr : (Instr.enterLoop fr.fn fr.tmps ps a b fr.roundOf).runT P v #[] with
            | mk rs es =>
              rw [hr] at hst hrt
              simp only at hst hrt
              rw [← hrt] at q
              cases rs with
              | halt x v' => simp only [GStep.after] at hst; cases hst
              | ok lm v' =>
                obtain ⟨R', lm', w', es', eq, hlm, hgu⟩ := q
                obtain ⟨l, mk⟩ := lm
                obtain ⟨l', mk'⟩ := lm'
                obtain ⟨hll, hmk⟩ := hlm
                simp only at hst hll hmk
                have hfm := hf.mono hgu.le
                have hf2 : FR P R' bb { fr with todo := .inRangeFunc l :: k, defers := mk ++ fr.defers } { fr' with todo := .inRangeFunc l' :: k', defers := mk' ++ fr'.defers } :=
                  ⟨hfm.fn, hfm.tm, (.inl ⟨hll, IsR.mono hgu.le hk⟩), CLR.append hmk hfm.df, hfm.md, hfm.kd, hfm.ro⟩
                have hs : SR P NA R' (do let d ← resolve (Frame.eval { fr with todo := .inRangeFunc l :: k, defers := mk ++ fr.defers }) { callee := .value f, args := #[.const (.func (.yield l) #[] #[])], argTypes := #[] } 0; invoke d.target d.args)
                    (do let d ← resolve (Frame.eval { fr' with todo := .inRangeFunc l' :: k', defers := mk' ++ fr'.defers }) { callee := .value f, args := #[.const (.func (.yield l') #[] #[])], argTypes := #[] } 0; invoke d.target d.args) := by
                  have h1 := hf2.eval f (hcd.1.mono hgu.le)
                  have h2 : XR R' #[.func (.yield l) #[] #[]] #[.func (.yield l') #[] #[]] := XR.one (VR.func (f := .yield l) (f' := .yield l') hll XR.nil XR.nil)
                  exact sr_callv (hg.mono hgu.le) h1 (by simp only [List.map_toArray, List.map_cons, List.map_nil, Frame.eval]; exact h2)
                generalize hap : stepG.apply P true { fr with todo := .inRangeFunc l :: k, defers := mk ++ fr.defers } cs none (do let d ← resolve (Frame.eval { fr with todo := .inRangeFunc l :: k, defers := mk ++ fr.defers }) { callee := .value f, args := #[.const (.func (.yield l) #[] #[])], argTypes := #[] } 0; invoke d.target d.args) v' = s1 at hst
                cases s1 with
                | go g2 v2 es2 =>
                  simp only [GStep.after, GStep.go.injEq] at hst
                  obtain ⟨e1, e2, _⟩ := hst
                  subst e1
                  subst e2
                  obtain ⟨a1, b1⟩ := run_world hrt.symm rfl
                  obtain ⟨a2, b2, c2⟩ := loc_apply hs hgu.wr hap
                  refine ⟨Nat.le_trans a1 a2, b2.trans b1, fun τ ha => ?_⟩
                  obtain ⟨es3, h4⟩ := runT_tap hrt.symm rfl hl (fun d h1 h2 => ha d h1 (Nat.lt_of_lt_of_le h2 a2))
                  obtain ⟨es4, h5⟩ := c2 τ (fun d h1 h2 => by
                    have b1 : v'.tape = v.tape := b1
                    rw [b1]; exact ha d (Nat.le_trans a1 h1) h2)
                  unfold stepG.exec
                  simp only [ht, h4, rtap]
                  exact ⟨_, congrArg (GStep.after _) h5⟩
                | _ => simp only [GStep.after] at hst; cases hst
          | _ => exact hcd.elim
        | _ => exact hx.elim
      | _ => cases x' <;> exact hx.elim
/-- ONE STEP hangs on the answers that it draws alone. -/
theorem loc_step {m : Bool} (hz : Zs P) (hg : Good P R) {g g' : Goroutine} (hG : GR P R t lc rc g g') {v w : World} (hw : WR R v w) {g1 : Goroutine} {v1 : World} {es1 : Array Event} (hst : stepG P m g v = .go g1 v1 es1) : StL (stepG P m g) v g1 v1 := by
  obtain ⟨fr, cs, fr', cs', rfl, rfl, hf, hc, hb⟩ := hG
  have hT : ∀ {f h : World → GStep}, (∀ u, f u = h u) → StL h v g1 v1 → StL f v g1 v1 := fun {f h} e q => ⟨q.1, q.2.1, fun τ ha => by rw [e]; exact q.2.2 τ ha⟩
  rcases hf.md.2 with hm | hm
  · have he : ∀ u, stepG P m (G fr (cs ++ lc)) u = stepG.exec P m true fr (cs ++ lc) none u := fun u => stepG_exec hm
    rw [he] at hst
    exact hT he (loc_exec hz hg hf hw hst)
  · have he : ∀ u, stepG P m (G fr (cs ++ lc)) u = unwind P m fr (cs ++ lc) none u := fun u => stepG_unwind hm
    rw [he] at hst
    exact hT he (loc_unwind hg hf hm hw hst)
end
end Go.Proofs.YtfbdgdphpdhcpaaDoor.Sm
