/-
  From 'on each tape it comes to the stop' to a tree of steps (bar induction). Conditions: as in SimY.
  Bar induction. Conditions: as in SimY; the goroutine is like itself.
-/
import Derived.Test.YtfbdgdphpdhcpaaDoorSimY
namespace Go.Proofs.YtfbdgdphpdhcpaaDoor.Sm
open Go Go.Conc

/-- The least predicate that F leaves as it is. -/
def Lfp {α : Type} (F : (α → Prop) → α → Prop) (a : α) : Prop := ∀ X : α → Prop, (∀ b, F X b → X b) → X a
theorem Lfp.in {α : Type} {F : (α → Prop) → α → Prop} (mono : ∀ X Y : α → Prop, (∀ a, X a → Y a) → ∀ a, F X a → F Y a) {a : α} (h : F (Lfp F) a) : Lfp F a :=
  fun X hX => hX a (mono _ _ (fun _ hb => hb X hX) a h)
theorem Lfp.ind {α : Type} {F : (α → Prop) → α → Prop} (mono : ∀ X Y : α → Prop, (∀ a, X a → Y a) → ∀ a, F X a → F Y a) {C : α → Prop} (h : ∀ a, F (fun b => Lfp F b ∧ C b) a → C a) {a : α} (ha : Lfp F a) : C a :=
  (ha (fun b => Lfp F b ∧ C b) fun b hb => ⟨Lfp.in mono (mono _ _ (fun _ q => q.1) b hb), h b hb⟩).2
theorem Lfp.out {α : Type} {F : (α → Prop) → α → Prop} (mono : ∀ X Y : α → Prop, (∀ a, X a → Y a) → ∀ a, F X a → F Y a) {a : α} (ha : Lfp F a) : F (Lfp F) a :=
  Lfp.ind mono (C := fun a => F (Lfp F) a) (fun b hb => mono _ _ (fun _ q => q.1) b hb) ha
section
variable {P : Program} {R : Ren} {lc rc : List Frame}
def LGF (P : Program) (m : Bool) (Stop : Goroutine → World → Prop) (X : Goroutine × World → Prop) (p : Goroutine × World) : Prop :=
  Stop p.1 p.2 ∨ ∀ τ, ∃ g1 v1 es, stepG P m p.1 (tap τ p.2) = .go g1 v1 es ∧ X (g1, v1)
theorem LGF.mono {m : Bool} {Stop : Goroutine → World → Prop} : ∀ X Y : Goroutine × World → Prop, (∀ a, X a → Y a) → ∀ a, LGF P m Stop X a → LGF P m Stop Y a := fun X Y h a q => by
  rcases q with q | q
  · exact .inl q
  · refine .inr fun τ => ?_
    obtain ⟨g1, v1, es, h1, h2⟩ := q τ
    exact ⟨g1, v1, es, h1, h _ h2⟩
/-- A goroutine whose steps go on, step by step. -/
abbrev LG (P : Program) (m : Bool) (Stop : Goroutine → World → Prop) (g : Goroutine) (v : World) : Prop := Lfp (LGF P m Stop) (g, v)
/-- n steps that go on. -/
def rn (P : Program) (m : Bool) : Nat → Goroutine → World → Option (Goroutine × World)
  | 0, g, v => some (g, v)
  | n + 1, g, v => match stepG P m g v with
    | .go g1 v1 _ => rn P m n g1 v1
    | _ => none
theorem rn_add {m : Bool} : ∀ (a b : Nat) (g : Goroutine) (v : World) {g1 : Goroutine} {v1 : World}, rn P m a g v = some (g1, v1) → rn P m (a + b) g v = rn P m b g1 v1
  | 0, b, g, v, g1, v1, h => by cases h; rw [Nat.zero_add]
  | a + 1, b, g, v, g1, v1, h => by
    rw [show a + 1 + b = (a + b) + 1 by omega]
    simp only [rn] at h ⊢
    cases e : stepG P m g v with
    | go g2 v2 es => rw [e] at h; exact rn_add a b g2 v2 h
    | _ => rw [e] at h; cases h
/-- The frame below the lone call: no panic comes out of it. -/
def dum : Frame := { fn := 0, tmps := #[], todo := [.code (.refuse "")], defers := [{ target := .nil, args := #[] }], mode := .run, kind := .normal }
theorem pd_dk {v v1 : World} (hd : Dk v v1) {f : Frame} (h : Pd P v f) : Pd P v1 f := ⟨h.1, fun d hd' => by
  obtain ⟨r, e, q⟩ := h.2 d hd'
  refine ⟨r, e, fun l hl => ?_⟩
  rcases hd r l hl with h | h
  · exact q l h
  · exact h⟩
/-- A panic is on its way, or has come to what lies below. -/
def PanX (P : Program) (g : Goroutine) (v : World) : Prop := Pan P [dum] g v ∨ ∃ chain, g = G (dum.raise chain) []
theorem pan_next {m : Bool} {g g2 : Goroutine} {v v2 : World} {es : Array Event} (h : PanX P g v) (e : stepG P m g v = .go g2 v2 es) : PanX P g2 v2 := by
  rcases h with ⟨fr, cs, chain, rfl, hm, hp, hcs⟩ | ⟨chain, rfl⟩
  · unfold stepG at e
    simp only [G, hm] at e
    unfold unwind at e
    cases hd : fr.defers with
    | nil =>
      rw [hd] at e
      obtain ⟨fn, hfn⟩ := hp.1
      have hc : fr.catches P = false := by unfold Frame.catches; rw [hfn]
      simp only [hm, hc, Bool.false_eq_true, if_false] at e
      cases cs with
      | nil =>
        simp only [List.nil_append, GStep.go.injEq] at e
        exact .inr ⟨chain, e.1.symm⟩
      | cons c cs =>
        simp only [List.cons_append, GStep.go.injEq] at e
        obtain ⟨e1, e2, _⟩ := e
        subst e2
        have hc0 := hcs c (by simp)
        have hr' : c.raise chain = { c with mode := .panicking chain } := by unfold Frame.raise; rw [hc0.1]
        exact .inl ⟨{ c with mode := .panicking chain }, cs, chain, by rw [← e1, hr']; rfl, rfl, hc0.2, fun d hd => hcs d (by simp [hd])⟩
    | cons d l =>
      rw [hd] at e
      obtain ⟨r, rfl, hobj⟩ := hp.2 d (by rw [hd]; simp)
      simp only at e
      have hrt := run_runT (P := P) (Instr.takeDeferred r) v
      cases hr0 : (Instr.takeDeferred r).runT P v #[] with
      | mk rs es0 =>
        rw [hr0] at e hrt
        simp only at e hrt
        cases rs with
        | halt x v' => simp only [GStep.after] at e; cases e
        | ok x v' =>
          simp only [GStep.after, GStep.go.injEq] at e
          obtain ⟨e1, e2, _⟩ := e
          subst e2
          have hx : x = [] ∧ Dk v v' := by
            cases hh : v.heap[r]? with
            | none => unfold Instr.takeDeferred at hrt; simp [getObj, Sem.run, bind, Sem.bind, hh] at hrt
            | some o =>
              cases o with
              | deferred dl =>
                rcases hobj dl hh with rfl | rfl
                · unfold Instr.takeDeferred at hrt; simp [getObj, Sem.run, bind, Sem.bind, hh, stuck] at hrt
                · unfold Instr.takeDeferred at hrt
                  simp [getObj, setObj, Sem.run, bind, Sem.bind, hh, pure] at hrt
                  obtain ⟨h1, h2⟩ := hrt
                  refine ⟨h1, fun b y q => ?_⟩
                  rw [h2] at q
                  have q : (v.heap.setIfInBounds r (.deferred none))[b]? = some (.deferred y) := q
                  rw [Array.getElem?_setIfInBounds] at q
                  split at q
                  · split at q
                    · cases q; exact .inr (.inl rfl)
                    · cases q
                  · exact .inl q
              | _ => unfold Instr.takeDeferred at hrt; simp [getObj, Sem.run, bind, Sem.bind, hh, stuck] at hrt
          obtain ⟨rfl, hdk⟩ := hx
          refine .inl ⟨{ fr with defers := [] ++ l }, cs, chain, by rw [← e1]; rfl, hm, ⟨hp.1, fun d hd' => ?_⟩, fun c hc => ⟨(hcs c hc).1, pd_dk hdk (hcs c hc).2⟩⟩
          exact (pd_dk hdk hp).2 d (by rw [hd]; simp at hd' ⊢; exact .inr hd')
  · exfalso
    unfold stepG at e
    have hm : (dum.raise chain).mode = .panicking chain := rfl
    have hd : (dum.raise chain).defers = [{ target := .nil, args := #[] }] := rfl
    simp only [G, hm] at e
    unfold unwind at e
    simp only [hd, hm] at e
    unfold callDeferred at e
    simp only at e
    cases e
theorem pan_never {m : Bool} {Stop : Goroutine → World → Prop} (hS : ∀ g v, Stop g v → ∃ fr, g = G fr [dum] ∧ ∀ chain, fr.mode ≠ .panicking chain) :
    ∀ (n : Nat) (g : Goroutine) (v : World), PanX P g v → ∀ g1 v1, rn P m n g v = some (g1, v1) → ¬ Stop g1 v1 := by
  intro n
  induction n with
  | zero =>
    intro g v h g1 v1 hr hs
    cases hr
    obtain ⟨fr, rfl, hm⟩ := hS _ _ hs
    rcases h with ⟨fr', cs, chain, e, hm', _⟩ | ⟨chain, e⟩
    · injection e with e1 e2
      subst e1
      exact hm _ hm'
    · injection e with e1 e2
      cases e2
  | succ n ih =>
    intro g v h g1 v1 hr
    simp only [rn] at hr
    cases e : stepG P m g v with
    | go g2 v2 es =>
      rw [e] at hr
      exact ih g2 v2 (pan_next h e) g1 v1 hr
    | _ => rw [e] at hr; cases hr
end
end Go.Proofs.YtfbdgdphpdhcpaaDoor.Sm
namespace Go.Proofs.YtfbdgdphpdhcpaaDoor.Sm
open Go Go.Conc

section
variable {P : Program}
/-- A goroutine that is like itself, in a world that is like itself. -/
def Slf (P : Program) (g : Goroutine) (v : World) : Prop := ∃ R t, Good P R ∧ GR P R t [dum] [dum] g g ∧ WR R v v
theorem wr_tap {R : Ren} {v w : World} (h : WR R v w) {τ τ' : Nat → Question → Nat} (ht : ∀ k, τ (v.drawn + k) = τ' (w.drawn + k)) : WR R (tap τ v) (tap τ' w) := ⟨h.inj, h.fn, h.dom, h.obj, h.low, h.same, ht⟩
theorem Slf.tap {g : Goroutine} {v : World} (h : Slf P g v) (τ : Nat → Question → Nat) : Slf P g (tap τ v) := by
  obtain ⟨R, t, h1, h2, h3⟩ := h
  exact ⟨R, t, h1, h2, wr_tap h3 fun _ => rfl⟩
theorem Slf.step {m : Bool} (hz : Zs P) {g : Goroutine} {v : World} (h : Slf P g v) {g1 : Goroutine} {v1 : World} {es : Array Event} (hst : stepG P m g v = .go g1 v1 es) (hstop : ∀ fr, g = G fr [dum] → fr.mode = .returning → fr.defers ≠ []) :
    Pan P [dum] g1 v1 ∨ Slf P g1 v1 := by
  obtain ⟨R, t, h1, h2, h3⟩ := h
  rcases sim_step (m' := m) hz h1 h2 h3 hst hstop with q | ⟨R', g1', w1, es1, e, hG, hgu⟩
  · exact .inl q
  · rw [hst, GStep.go.injEq] at e
    obtain ⟨e1, e2, _⟩ := e
    subst e1
    subst e2
    exact .inr ⟨R', t, h1.mono hgu.le, hG, hgu.wr⟩
theorem Slf.loc {m : Bool} (hz : Zs P) {g : Goroutine} {v : World} (h : Slf P g v) {g1 : Goroutine} {v1 : World} {es : Array Event} (hst : stepG P m g v = .go g1 v1 es) : StL (stepG P m g) v g1 v1 := by
  obtain ⟨R, t, h1, h2, h3⟩ := h
  exact loc_step hz h1 h2 h3 hst
theorem least {p : Nat → Prop} (h : ∃ n, p n) : ∃ n, p n ∧ ∀ k, k < n → ¬ p k := by
  obtain ⟨n, hn⟩ := h
  induction n using Nat.strongRecOn with
  | _ n ih =>
    by_cases q : ∃ k, k < n ∧ p k
    · obtain ⟨k, h1, h2⟩ := q
      exact ih k h1 h2
    · exact ⟨n, hn, fun k h1 h2 => q ⟨k, h1, h2⟩⟩
/-- Back at what lies below the lone call. -/
def AtRet (g : Goroutine) : Prop := ∃ fr, g = G fr [dum] ∧ fr.mode = .returning ∧ fr.defers = []
theorem ret_next {m : Bool} {g g2 : Goroutine} {v v2 : World} {es : Array Event} (h : AtRet g) (e : stepG P m g v = .go g2 v2 es) : ∃ f : Frame, g2 = G f [] ∧ f.todo = [.code (.refuse "")] ∧ f.mode = .run := by
  obtain ⟨fr, rfl, hm, hd⟩ := h
  rw [stepG_unwind hm] at e
  unfold unwind at e
  have hdr : ∀ {x : Value} {u : World}, doReturn P m fr [dum] none x u = .go { frame := dum, callers := [], status := .running, dying := none } u #[] := fun {x u} => by
    unfold doReturn
    cases fr.kind <;> rfl
  simp only [hd, hm, hdr] at e
  cases hf : P.funcs[fr.fn]? with
  | none =>
    rw [hf] at e
    simp only [GStep.go.injEq] at e
    exact ⟨dum, e.1.symm, rfl, rfl⟩
  | some fn =>
    rw [hf] at e
    simp only at e
    cases hr0 : (results fn fr.tmps).runT P v #[] with
    | mk rs es0 =>
      rw [hr0] at e
      simp only at e
      cases rs with
      | ok x v' =>
        simp only [GStep.after, GStep.go.injEq] at e
        exact ⟨dum, e.1.symm, rfl, rfl⟩
      | halt x v' => exfalso; cases x <;> (simp only [GStep.after] at e; cases e)
theorem refuse_ends {m : Bool} {f : Frame} {v : World} (h3 : f.todo = [.code (.refuse "")]) (h4 : f.mode = .run) : stepG P m (G f []) v = .ended (.unsupported (.elab "") (f.pos P)) v := by
  rw [stepG_exec h4]
  unfold stepG.exec
  simp only [h3]
/-- At the end of a piece. -/
def AtMk (g : Goroutine) : Prop := ∃ fr, g = G fr [dum] ∧ fr.mode = .run ∧ Mk fr.todo
def AtEnd' (g : Goroutine) : Prop := AtRet g ∨ AtMk g
theorem AtEnd'.form {g : Goroutine} (h : AtEnd' g) : ∃ fr, g = G fr [dum] ∧ ∀ chain, fr.mode ≠ .panicking chain := by
  rcases h with ⟨fr, e, hm, _⟩ | ⟨fr, e, hm, _⟩ <;> exact ⟨fr, e, fun c q => by rw [hm] at q; cases q⟩
theorem mk_ends {m : Bool} {g : Goroutine} {v : World} (h : AtMk g) : ∃ o w es, stepG P m g v = .ended o w es := by
  obtain ⟨fr, rfl, hm, s, e⟩ := h
  rw [stepG_exec hm]
  unfold stepG.exec
  simp only [e]
  exact ⟨_, _, _, rfl⟩
theorem ret_never {m : Bool} {Stop : Goroutine → World → Prop} (hS : ∀ g v, Stop g v → AtEnd' g) {g : Goroutine} {v : World} (h0 : AtEnd' g) :
    ∀ n g1 v1, rn P m (n + 1) g v = some (g1, v1) → ¬ Stop g1 v1 := by
  intro n g1 v1 hr hs
  rcases h0 with h | h
  rotate_left
  · obtain ⟨o, w, es, e⟩ := mk_ends (P := P) (m := m) (v := v) h
    simp only [rn, e] at hr
    cases hr
  simp only [rn] at hr
  cases e : stepG P m g v with
  | go g2 v2 es =>
    rw [e] at hr
    obtain ⟨f, rfl, h3, h4⟩ := ret_next h e
    cases n with
    | zero =>
      cases hr
      obtain ⟨f2, e2, _⟩ := (hS _ _ hs).form
      injection e2 with _ e3
      cases e3
    | succ n =>
      simp only [rn] at hr
      rw [refuse_ends h3 h4] at hr
      cases hr
  | _ => rw [e] at hr; cases hr
/-- ON EACH TAPE IT COMES TO THE STOP: so it is a tree of steps. -/
theorem bar {m : Bool} (hz : Zs P) {Stop : Goroutine → World → Prop} (hS : ∀ g v, Stop g v → AtEnd' g) (hT : ∀ g v τ, Stop g (tap τ v) → Stop g v)
    {g0 : Goroutine} {v0 : World} (h0 : Slf P g0 v0) (H : ∀ τ, ∃ n g1 v1, rn P m n g0 (tap τ v0) = some (g1, v1) ∧ Stop g1 v1) : LG P m Stop g0 v0 := by
  apply Classical.byContradiction
  intro hbad
  have lgin : ∀ {g v}, LGF P m Stop (Lfp (LGF P m Stop)) (g, v) → LG P m Stop g v := fun h => Lfp.in LGF.mono h
  -- a bad node
  let Bad : Goroutine × World → Prop := fun p => Slf P p.1 p.2 ∧ ¬ LG P m Stop p.1 p.2
  have hex : ∀ p : {p // Bad p}, ∃ τ, ¬ ∃ g1 v1 es, stepG P m p.1.1 (tap τ p.1.2) = .go g1 v1 es ∧ LG P m Stop g1 v1 := fun p => by
    apply Classical.byContradiction
    intro hn
    refine p.2.2 (lgin (.inr fun τ => ?_))
    exact Classical.byContradiction fun q => hn ⟨τ, q⟩
  let tp : {p // Bad p} → Nat → Question → Nat := fun p => Classical.choose (hex p)
  have htp : ∀ p, ¬ ∃ g1 v1 es, stepG P m p.1.1 (tap (tp p) p.1.2) = .go g1 v1 es ∧ LG P m Stop g1 v1 := fun p => Classical.choose_spec (hex p)
  have nostop : ∀ p : {p // Bad p}, ¬ Stop p.1.1 p.1.2 := fun p q => p.2.2 (lgin (.inl q))
  let Goes1 : {p // Bad p} → Prop := fun p => ∃ q : {p // Bad p}, ∃ es, stepG P m p.1.1 (tap (tp p) p.1.2) = .go q.1.1 q.1.2 es
  let nx : {p // Bad p} → {p // Bad p} := fun p => open Classical in if h : Goes1 p then Classical.choose h else p
  have hnx : ∀ p, Goes1 p → ∃ es, stepG P m p.1.1 (tap (tp p) p.1.2) = .go (nx p).1.1 (nx p).1.2 es := fun p h => by
    have e : nx p = Classical.choose h := dif_pos h
    rw [e]
    exact Classical.choose_spec h
  have hnx' : ∀ p, ¬ Goes1 p → nx p = p := fun p h => dif_neg h
  let sq : Nat → {p // Bad p} := fun n => Nat.rec ⟨(g0, v0), h0, hbad⟩ (fun _ p => nx p) n
  have hsq : ∀ n, sq (n + 1) = nx (sq n) := fun _ => rfl
  let D : Nat → Nat := fun n => (sq n).1.2.drawn
  have hstepw : ∀ p, Goes1 p → p.1.2.drawn ≤ (nx p).1.2.drawn := fun p h => by
    obtain ⟨es, e⟩ := hnx p h
    exact (Slf.loc hz (p.2.1.tap (tp p)) e).1
  have hD : ∀ n, D n ≤ D (n + 1) := fun n => by
    show (sq n).1.2.drawn ≤ (sq (n + 1)).1.2.drawn
    rw [hsq]
    by_cases h : Goes1 (sq n)
    · exact hstepw _ h
    · rw [hnx' _ h]; exact Nat.le_refl _
  have hDm : ∀ n k, D n ≤ D (n + k) := fun n k => by
    induction k with
    | zero => exact Nat.le_refl _
    | succ k ih => exact Nat.le_trans ih (hD _)
  -- the tape that is glued
  let τs : Nat → Question → Nat := fun d => open Classical in
    if h : ∃ n, d < D (n + 1) then tp (sq (Classical.choose (least h))) d
    else if h : ∃ n, ¬ Goes1 (sq n) then tp (sq (Classical.choose (least h))) d else fun _ => 0
  have hglue : ∀ n d, D n ≤ d → d < D (n + 1) → τs d = tp (sq n) d := fun n d h1 h2 => by
    have hx : ∃ n, d < D (n + 1) := ⟨n, h2⟩
    have e : τs d = tp (sq (Classical.choose (least hx))) d := dif_pos hx
    obtain ⟨s1, s2⟩ := Classical.choose_spec (least hx)
    rw [e]
    generalize Classical.choose (least hx) = z at s1 s2
    have hz : z = n := by
      rcases Nat.lt_trichotomy z n with q | q | q
      · exfalso
        obtain ⟨k, hk⟩ := Nat.exists_eq_add_of_lt q
        have h4 := hDm (z + 1) k
        rw [show z + 1 + k = n by omega] at h4
        omega
      · exact q
      · exact absurd h2 (s2 n q)
    rw [hz]
  have hrun : ∀ n, (∀ k, k < n → Goes1 (sq k)) → rn P m n g0 (tap τs v0) = some ((sq n).1.1, tap τs (sq n).1.2) := by
    intro n
    induction n with
    | zero => intro _; rfl
    | succ n ih =>
      intro hk
      have h1 := ih fun k h => hk k (by omega)
      rw [rn_add n 1 g0 _ h1]
      obtain ⟨es, e⟩ := hnx _ (hk n (by omega))
      obtain ⟨_, htape, hloc⟩ := Slf.loc hz ((sq n).2.1.tap (tp (sq n))) e
      obtain ⟨es2, e2⟩ := hloc τs (fun d h1 h2 => (hglue n d h1 h2).symm)
      have e2 : stepG P m (sq n).1.1 (tap τs (sq n).1.2) = .go (nx (sq n)).1.1 (tap τs (nx (sq n)).1.2) es2 := e2
      simp only [rn, e2]
      rfl
  obtain ⟨N, gN, vN, hN, hsN⟩ := H τs
  by_cases hall : ∀ k, k ≤ N → Goes1 (sq k)
  · have h1 := hrun N fun k hk => hall k (by omega)
    rw [h1] at hN
    cases hN
    exact nostop _ (hT _ _ _ hsN)
  · -- the first place where it does not go on
    have hx : ∃ n, ¬ Goes1 (sq n) := Classical.byContradiction fun q => hall fun k _ => Classical.byContradiction fun z => q ⟨k, z⟩
    obtain ⟨s1, s2⟩ := Classical.choose_spec (least hx)
    have hend : ∀ d, (∀ n, ¬ d < D (n + 1)) → τs d = tp (sq (Classical.choose (least hx))) d := fun d hd => by
      have h1 : ¬ ∃ n, d < D (n + 1) := fun ⟨n, q⟩ => hd n q
      have e : τs d = _ := dif_neg h1
      rw [e]
      exact dif_pos hx ▸ rfl
    generalize Classical.choose (least hx) = M at s1 s2 hend
    have hconst : ∀ k, sq (M + k) = sq M := fun k => by
      induction k with
      | zero => rfl
      | succ k ih => rw [show M + (k + 1) = (M + k) + 1 by omega, hsq, ih, hnx' _ s1]
    have hge : ∀ d, D M ≤ d → τs d = tp (sq M) d := fun d hd => hend d fun n q => by
      rcases Nat.lt_or_ge n M with z | z
      · obtain ⟨k, hk⟩ := Nat.exists_eq_add_of_lt z
        have h4 := hDm (n + 1) k
        rw [show n + 1 + k = M by omega] at h4
        omega
      · obtain ⟨k, rfl⟩ := Nat.exists_eq_add_of_le z
        have e : D (M + k + 1) = D M := by
          show (sq (M + k + 1)).1.2.drawn = (sq M).1.2.drawn
          rw [show M + k + 1 = M + (k + 1) by omega, hconst]
        omega
    have hgo : ∀ k, k < M → Goes1 (sq k) := fun k hk => Classical.byContradiction (s2 k hk)
    have hM := hrun M hgo
    rcases Nat.lt_or_ge M N with hlt | hle
    · obtain ⟨k, hk⟩ := Nat.exists_eq_add_of_lt hlt
      have h1 := rn_add M (k + 1) g0 _ hM
      rw [show M + (k + 1) = N by omega, hN] at h1
      by_cases hat : AtEnd' (sq M).1.1
      · exact ret_never hS hat k _ _ h1.symm hsN
      · simp only [rn] at h1
        cases e : stepG P m (sq M).1.1 (tap τs (sq M).1.2) with
        | go g1 v1 es =>
          rw [e] at h1
          simp only at h1
          obtain ⟨_, _, hloc⟩ := Slf.loc hz ((sq M).2.1.tap τs) e
          obtain ⟨es2, e2⟩ := hloc (tp (sq M)) (fun d h1 _ => hge d h1)
          have e2 : stepG P m (sq M).1.1 (tap (tp (sq M)) (sq M).1.2) = .go g1 (tap (tp (sq M)) v1) es2 := e2
          have hnr : ∀ fr, (sq M).1.1 = G fr [dum] → fr.mode = .returning → fr.defers ≠ [] := fun fr q1 q2 q3 => hat (.inl ⟨fr, q1, q2, q3⟩)
          rcases Slf.step hz ((sq M).2.1.tap (tp (sq M))) e2 hnr with hp | hs
          · exact pan_never (fun g v q => (hS g v q).form) k g1 v1 (.inl hp) _ _ h1.symm hsN
          · refine s1 ⟨⟨(g1, tap (tp (sq M)) v1), hs, fun q => htp (sq M) ⟨_, _, _, e2, q⟩⟩, es2, e2⟩
        | _ => rw [e] at h1; cases h1
    · have h1 := hrun N fun k hk => hgo k (by omega)
      rw [h1] at hN
      cases hN
      exact nostop _ (hT _ _ _ hsN)
end
end Go.Proofs.YtfbdgdphpdhcpaaDoor.Sm
