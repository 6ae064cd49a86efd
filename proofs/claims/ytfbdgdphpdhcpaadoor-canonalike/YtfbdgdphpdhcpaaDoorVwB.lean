/-
  A goroutine's view: a lone world in which it reckons, and how what it holds in company goes with it. Condition: Zs.
  Rules for goroutine 0 and for a worker from their views. Condition: Zs.
-/
import Derived.Test.YtfbdgdphpdhcpaaDoorZsP
import Derived.Conc.Own4
import Derived.Conc.DeferLaws
namespace Go.Proofs.YtfbdgdphpdhcpaaDoor.Sm
open Go Go.Conc

section
variable {P : Program} {R R' : Ren}
/-- What R names, by its own name. -/
def idn (R : Ren) : Ren := ⟨fun b c => c = b ∧ ∃ b', R.rel b b', R.fns, R.low, R.ok, R.kn, R.lo⟩
theorem OkX.imp {x : Operand} (hf : ∀ f, R.fns f → R'.fns f) (hg : ∀ g, R.rel g g ∧ R.lo g = 0 → R'.rel g g ∧ R'.lo g = 0) (h : OkX R x) : OkX R' x := by
  cases x with
  | tmp t => trivial
  | const v => exact h
  | global g => exact hg g h
  | func f => exact hf f h
theorem OkO.imp {x : Option Operand} (hf : ∀ f, R.fns f → R'.fns f) (hg : ∀ g, R.rel g g ∧ R.lo g = 0 → R'.rel g g ∧ R'.lo g = 0) (h : OkO R x) : OkO R' x := by
  cases x with
  | none => trivial
  | some x => exact OkX.imp hf hg h
theorem OkOp.imp {o : Op} (hf : ∀ f, R.fns f → R'.fns f) (hg : ∀ g, R.rel g g ∧ R.lo g = 0 → R'.rel g g ∧ R'.lo g = 0) (h : OkOp P R o) : OkOp P R' o := by
  have hx : ∀ {x : Operand}, OkX R x → OkX R' x := fun q => OkX.imp hf hg q
  have hO : ∀ {x : Option Operand}, OkO R x → OkO R' x := fun q => OkO.imp hf hg q
  have hxs : ∀ {xs : Array Operand}, OkXs R xs → OkXs R' xs := fun q x m => hx (q x m)
  cases o with
  | move x => exact hx h
  | assign x => exact hx h
  | nilCheck x => exact hx h
  | pick a b c => exact ⟨hx h.1, hx h.2.1, hx h.2.2⟩
  | alloc t => trivial
  | box t x => exact hx h
  | build t ps => exact fun p hp => hx (h p hp)
  | buildSlice t n ps => exact fun p hp => hx (h p hp)
  | load t a => exact hx h
  | store t a x => exact ⟨hx h.1, hx h.2⟩
  | binOp op t x y yt => exact ⟨hx h.1, hx h.2.1, h.2.2⟩
  | unOp op t x => exact hx h
  | convert s d x => exact ⟨hx h.1, h.2⟩
  | makeFunc fn a b =>
    cases fn with
    | func f => exact ⟨hf _ h.1, hxs h.2.1, hxs h.2.2⟩
    | _ => exact h.elim
  | makeSlice t l c => exact ⟨hx h.1, hx h.2⟩
  | slice t x lo hi mx => exact ⟨hx h.1, hO h.2.1, hO h.2.2.1, hO h.2.2.2⟩
  | fieldAddr s x f => exact ⟨hx h.1, h.2⟩
  | field t x f => exact hx h
  | indexAddr t x i => exact ⟨hx h.1, hx h.2⟩
  | index t x i => exact ⟨hx h.1, hx h.2⟩
  | extract x i => exact hx h
  | call c =>
    refine ⟨hxs h.1, ?_⟩
    have h2 := h.2
    revert h2
    cases c.callee with
    | value f => exact fun h2 => hx h2
    | builtin b => exact fun h2 => h2
    | invoke r n => exact fun h2 => h2.elim
  | _ => exact h.elim
theorem OkCode.imp {c : Code} (hf : ∀ f, R.fns f → R'.fns f) (hg : ∀ g, R.rel g g ∧ R.lo g = 0 → R'.rel g g ∧ R'.lo g = 0) (ho : ∀ c, R.ok c → R'.ok c) (h : OkCode P R c) : OkCode P R' c := by
  cases c with
  | seq a b => exact ⟨ho _ h.1, ho _ h.2⟩
  | cond x a b => exact ⟨OkX.imp hf hg h.1, ho _ h.2.1, ho _ h.2.2⟩
  | block i c => exact ho _ h
  | loop c => exact ho _ h
  | scope c => exact ho _ h
  | region i ops d => exact fun o hm => OkOp.imp hf hg (h o hm)
  | rangeFunc f ps a b => exact ⟨OkX.imp hf hg h.1, ho _ h.2.1, ho _ h.2.2⟩
  | _ => first | trivial | exact h.elim
theorem Good.imp (h : Good P R) (hg : ∀ g, R.rel g g ∧ R.lo g = 0 → R'.rel g g ∧ R'.lo g = 0) (e1 : R'.fns = R.fns) (e2 : R'.low = R.low) (e3 : R'.ok = R.ok) (e4 : R'.kn = R.kn) : Good P R' :=
  ⟨by rw [e2]; exact h.low, fun f hf => by
    rw [e1] at hf
    obtain ⟨fn, body, h1, h2, h3, h4⟩ := h.fns f hf
    exact ⟨fn, body, h1, h2, by rw [e3]; exact h3, h4⟩, fun f hf => by rw [e4]; rw [e1] at hf; exact h.known f hf, fun f hf => by rw [e4] at hf; exact h.kn f hf,
    fun c hc => (h.code c (by rw [e3] at hc; exact hc)).imp (fun f hf => by rw [e1]; exact hf) hg (fun c hc => by rw [e3]; exact hc), by rw [e3]; exact h.ret, fun id => by rw [e3]; exact h.exits id⟩
theorem Good.idn (h : Good P R) : Good P (idn R) := h.imp (fun g hg => ⟨⟨rfl, g, hg.1⟩, hg.2⟩) rfl rfl rfl rfl
theorem ar_idn {a a' : Addr} (h : AR R a a') : AR (idn R) a a := ⟨⟨rfl, _, h.1⟩, rfl, rfl, h.2.2.2⟩
theorem oar_idn : ∀ {a a' : Option Addr}, OAR R a a' → OAR (idn R) a a
  | none, none, _ => trivial
  | some _, some _, h => ar_idn h
  | none, some _, h => h.elim
  | some _, none, h => h.elim
theorem onr_idn : ∀ {a a' : Option Nat}, ONR R a a' → ONR (idn R) a a
  | none, none, _ => trivial
  | some _, some _, h => ⟨rfl, _, h⟩
  | none, some _, h => h.elim
  | some _, none, h => h.elim
theorem fnr_idn {f f' : Fn} (h : FnR R f f') : FnR (idn R) f f := by
  cases f <;> cases f' <;> first | exact h.elim | exact ⟨rfl, _, h⟩ | exact ⟨rfl, h.2⟩
theorem vr_idn {v v' : Value} (h : VR R v v') : VR (idn R) v v := by
  refine ⟨fun a b => b = a ∧ ∃ a', VR R a a', ⟨rfl, v', h⟩, fun a b q => ?_⟩
  obtain ⟨rfl, a', q⟩ := q
  have o := q.out
  have xp : ∀ {x x' : Array Value}, XP (VR R) x x' → XP (fun a b => b = a ∧ ∃ a', VR R a a') x x := fun {x x'} hx => ⟨rfl, fun i u u' h1 h2 => by
    rw [h1] at h2; cases h2
    obtain ⟨w, _, hw⟩ := XR.at (show XR R x x' from hx) h1
    exact ⟨rfl, w, hw⟩⟩
  cases b with
  | pointer a =>
    rcases a with _ | a
    · exact .inl rfl
    obtain ⟨_, _, z⟩ := o; exact ⟨_, rfl, ar_idn z⟩
  | slice a l c => obtain ⟨_, _, z⟩ := o; exact ⟨_, rfl, oar_idn z⟩
  | map a => obtain ⟨_, _, z⟩ := o; exact ⟨_, rfl, onr_idn z⟩
  | chan a => exact ⟨_, rfl, rfl⟩
  | func f x y => obtain ⟨_, _, _, _, z, hx, hy⟩ := o; exact ⟨_, _, _, rfl, fnr_idn z, xp hx, xp hy⟩
  | iface t v => obtain ⟨u, _, z⟩ := o; exact ⟨_, rfl, rfl, u, z⟩
  | agg x => obtain ⟨_, _, hx⟩ := o; exact ⟨_, rfl, xp hx⟩
  | tuple x => obtain ⟨_, _, hx⟩ := o; exact ⟨_, rfl, xp hx⟩
  | _ => rfl
theorem xr_idn {x x' : Array Value} (h : XR R x x') : XR (idn R) x x := ⟨rfl, fun i u u' h1 h2 => by
  rw [h1] at h2; cases h2
  obtain ⟨w, _, hw⟩ := h.at h1
  exact vr_idn hw⟩
theorem xl_idn {l : Nat} {x x' : Array Value} (h : XL l (VR R) x x') : XL l (VR (idn R)) x x := ⟨Nat.le_refl _, fun i u u' hl h1 h2 => by
  rw [h1] at h2; cases h2
  obtain ⟨w, _, hw⟩ := h.at hl h1
  exact vr_idn hw⟩
theorem or_idn {l : Nat} {o o' : Obj} (h : OR R l o o') : OR (idn R) l o o := by
  cases o <;> cases o' <;> first
    | exact h.elim
    | exact ⟨⟨rfl, rfl, rfl, h.1.2.2.2⟩, xr_idn h.2.1, rfl, rfl, rfl, ⟨rfl, _, h.2.2.2.2.2.1⟩, h.2.2.2.2.2.2⟩
    | exact ⟨rfl, xl_idn h.2.1, fun _ a b => ⟨a, b⟩⟩
    | exact ⟨ar_idn h.1, rfl⟩
    | exact ⟨rfl, h.2⟩
theorem WR0.idn {v w : World} (h : WR0 R v w) : WR (idn R) v v :=
  ⟨fun b c b' q1 q2 => q1.1.symm.trans q2.1, fun b b' c' q1 q2 => q1.1.trans q2.1.symm, fun b b' q => by
    obtain ⟨rfl, x, hx⟩ := q
    exact ⟨(h.dom _ _ hx).1, (h.dom _ _ hx).1⟩, fun b b' o q ho => by
    obtain ⟨rfl, x, hx⟩ := q
    obtain ⟨o', _, h2⟩ := h.obj _ _ o hx ho
    exact ⟨o, ho, or_idn h2⟩, ⟨h.low.1, h.low.1.1⟩, fun b b' q _ => q.1, fun _ => rfl⟩
end
section
variable (P : Program) (fs gs : List Nat)
/-- A renaming over the functions fs and the globals gs. -/
def Rg (r : Nat → Nat → Prop) : Ren := ⟨r, fun f => f ∈ fs, P.globals.size, fun c => codeB P fs gs c = true, fun f => ∃ fn, P.funcs[f]? = some fn, fun _ => 0⟩
end
section
variable {P : Program} {fs gs : List Nat} {r r' : Nat → Nat → Prop}
theorem rg_good (hf : fs.all (funcB P fs gs) = true) (hg : ∀ g ∈ gs, r g g) : Good P (Rg P fs gs r) :=
  (good_of (S := fun b => r b b) hf hg).imp (fun _ q => ⟨q.1.2, rfl⟩) rfl rfl rfl rfl
theorem rg_le (h : ∀ a b, r a b → r' a b) : Le (Rg P fs gs r) (Rg P fs gs r') := ⟨h, fun _ => ⟨Iff.rfl, Iff.rfl⟩, rfl, fun _ => Iff.rfl, rfl⟩
theorem rg_of {R' : Ren} (h : Le (Rg P fs gs r) R') : R' = Rg P fs gs R'.rel := by
  obtain ⟨h1, h2, h3, h4, h5⟩ := h
  obtain ⟨rel, fns, low, ok, kn, lo⟩ := R'
  simp only at h1 h2 h3 h4 h5
  have e1 : fns = fun f => f ∈ fs := by funext f; exact propext (h2 f).1.symm
  have e2 : kn = fun f => ∃ fn, P.funcs[f]? = some fn := by funext f; exact propext (h2 f).2.symm
  have e3 : ok = fun c => codeB P fs gs c = true := by funext c; exact propext (h4 c).symm
  subst e1 e2 e3
  have h3' : low = P.globals.size := h3
  subst h3'
  have h5' : lo = fun _ => 0 := h5
  subst h5'
  rfl
theorem rg_item (hg : ∀ g ∈ gs, r g g) {x : Item} (h : itemB P fs gs x = true) : IR P (Rg P fs gs r) x x := by
  have h1 := item_of (S := fun b => r b b) hg h
  cases x with
  | code c => exact h1
  | inRegion ops l => exact ⟨h1.1, fun i hi o ho => OkOp.imp (R := R0 P fs gs (fun b => r b b)) (R' := Rg P fs gs r) (fun _ q => q) (fun g q => ⟨q.1.2, rfl⟩) (h1.2 i hi o ho)⟩
  | _ => cases h
/-- The piece has come to its end. -/
def DoneV (P : Program) (fs gs : List Nat) (r : Nat → Nat → Prop) (v w : World) (Q : Act → World → Prop) (fn : FuncId) (k : List Item) (D : List Deferred) (kd : CallKind) (rc : List Frame) (s : St) : Prop :=
  ∃ (r' : Nat → Nat → Prop) (v1 : World) (a : Act) (x' : Array Value), s.g = G (Sm.fF fn x' k D kd) rc ∧ Q a v1 ∧ XR (Rg P fs gs r') a.tmps x' ∧ WR0 (Rg P fs gs r') v1 s.w ∧ (∀ b b', r b b' → r' b b') ∧
    (∀ b b', r' b b' → r b b' ∨ (v.heap.size ≤ b ∧ w.heap.size ≤ b')) ∧ w.heap.size ≤ s.w.heap.size ∧ s.O = Seen (Rg P fs gs r') ∧ s.W = Open (Rg P fs gs r') v1
theorem Co.size {m : Bool} {Stop : St → Prop} {s : St} (h : Co P m Stop s) : Co P m (fun s' => Stop s' ∧ s.w.heap.size ≤ s'.w.heap.size) s := by
  have key : ∀ n, n ≤ s.w.heap.size → Co P m (fun s' => Stop s' ∧ n ≤ s'.w.heap.size) s := by
    refine Lfp.ind CoF.mono (C := fun s => ∀ n, n ≤ s.w.heap.size → Co P m (fun s' => Stop s' ∧ n ≤ s'.w.heap.size) s) (fun s q n hn => ?_) h
    refine Lfp.in CoF.mono ?_
    rcases q with q | ⟨q0, q⟩
    · exact .inl fun w1 hr => ⟨q w1 hr, Nat.le_trans hn hr.1⟩
    · refine .inr ⟨q0, fun w1 hr => ?_⟩
      obtain ⟨g2, w2, es, O2, W2, h1, h2, h3, _, h5⟩ := q w1 hr
      exact ⟨g2, w2, es, O2, W2, h1, h2, h3, h5 n (Nat.le_trans hn (Nat.le_trans hr.1 h2.size))⟩
  exact key _ (Nat.le_refl _)
theorem Co.imp {m : Bool} {Stop Stop' : St → Prop} (hi : ∀ s, Stop s → Stop' s) {s : St} (h : Co P m Stop s) : Co P m Stop' s := by
  refine Lfp.ind CoF.mono (C := fun s => Co P m Stop' s) (fun s q => Lfp.in CoF.mono ?_) h
  rcases q with q | ⟨q0, q⟩
  · exact .inl fun w1 hr => hi _ (q w1 hr)
  · refine .inr ⟨q0, fun w1 hr => ?_⟩
    obtain ⟨g2, w2, es, O2, W2, h1, h2, h3, _, h5⟩ := q w1 hr
    exact ⟨g2, w2, es, O2, W2, h1, h2, h3, h5⟩
theorem WR0.tap {R : Ren} {v w : World} (h : WR0 R v w) (τ : Nat → Question → Nat) : WR0 R (Sm.tap τ v) w := h.heap (v' := Sm.tap τ v) rfl
/-- A PIECE, FROM A VIEW. -/
theorem co_view (hz : Zs P) (hf : fs.all (funcB P fs gs) = true) (hg : ∀ g ∈ gs, r g g) {m : Bool} {fn : FuncId} (hin : ∃ f, P.funcs[fn]? = some f) {x : Item} (hx : itemB P fs gs x = true) {tm tm' : Array Value} {v w : World} (hw : WR0 (Rg P fs gs r) v w) (ht : XR (Rg P fs gs r) tm tm')
    {Q : Act → World → Prop} (H : ∀ τ, ∃ a' v', a'.defers = [] ∧ Q a' v' ∧ Steps P (lone (pf fn ⟨tm, []⟩ [x, mkI]) [dum] (tap τ v)) (lone (pf fn a' [mkI]) [dum] v')) (k : List Item) (D : List Deferred) (kd : CallKind) (hkd : kd ≠ .early) (rc : List Frame) :
    Co P m (DoneV P fs gs r v w Q fn k D kd rc) ⟨G (fF fn tm' (x :: k) D kd) rc, w, Seen (Rg P fs gs r), Open (Rg P fs gs r) v⟩ := by
  have hgd : Good P (Rg P fs gs r) := rg_good hf hg
  have hix : IR P (Rg P fs gs r) x x := rg_item hg hx
  have hix' : IR P (idn (Rg P fs gs r)) x x := rg_item (r := (idn (Rg P fs gs r)).rel) (fun g q => ⟨rfl, g, hg g q⟩) hx
  have h0 : Slf P (G (pf fn ⟨tm, []⟩ [x, mkI]) [dum]) v := ⟨idn (Rg P fs gs r), some ([mkI], [], .normal), hgd.idn, ⟨_, [], _, [], rfl, rfl, ⟨⟨rfl, hin⟩, xr_idn ht, isR_mk hix' _ _, rfl, ⟨rfl, .inl rfl⟩, ⟨⟨rfl, fun q => by cases q⟩, rfl⟩, trivial⟩, trivial, rfl⟩, hw.idn⟩
  have hlg := lg_of_piece hz (Q := fun _ => Q) h0 H
  have hco := co_of_mk hz (m := m) (R0 := Rg P fs gs r) (n0 := v.heap.size) (m0 := w.heap.size) (k := k) (D := D) (kd := kd) (rc := rc) hlg hgd (g' := G (fF fn tm' (x :: k) D kd) rc) (w := w)
    ⟨_, [], _, [], rfl, rfl, ⟨⟨rfl, hin⟩, ht, isR_mk hix _ _, rfl, ⟨rfl, .inl rfl⟩, ⟨⟨rfl, hkd⟩, rfl⟩, trivial⟩, trivial, rfl⟩ hw (Le.refl _) (fun _ _ q => .inl q) (Nat.le_refl _) (Nat.le_refl _)
  refine hco.size.imp fun s q => ?_
  obtain ⟨⟨R', v1, τ, τ0, a, x', e1, hq, hxr, hwr, hle, hnew, hO, hW⟩, hsz⟩ := q
  have e := rg_of hle
  refine ⟨R'.rel, tap τ v1, a, x', e1, hq, by rw [← e]; exact hxr, by rw [← e]; exact hwr.tap τ, hle.1, hnew, hsz, by rw [← e]; exact hO, ?_⟩
  rw [← e, hW]
  funext b
  rfl
end
section
variable {μ : Type} {P : Program} {Msg : World → (Nat → Prop) → Value → μ → Prop} {Fin : Value → World → Prop}
/-- Who may do less does well enough. -/
theorem MS.weaken {s : MP μ} (h : MS P Msg Fin (fun _ => False) s) {O W : Nat → Prop} (hO : ∀ b, s.O b → O b) (hW : ∀ b, s.W b → W b) (hs : ∀ b, W b → O b) : MS P Msg Fin (fun _ => False) { s with O := O, W := W } := by
  have key : ∀ O W : Nat → Prop, (∀ b, s.O b → O b) → (∀ b, s.W b → W b) → (∀ b, W b → O b) → MS P Msg Fin (fun _ => False) { s with O := O, W := W } := by
    refine Lfp.ind MSF.mono (C := fun s => ∀ O W : Nat → Prop, (∀ b, s.O b → O b) → (∀ b, s.W b → W b) → (∀ b, W b → O b) → MS P Msg Fin (fun _ => False) { s with O := O, W := W }) (fun s q O W hO hW hs => ?_) h
    have hl : ∀ {w1 : World}, Ry O s.w w1 → Ry s.O s.w w1 := fun q => ⟨q.1, fun b hb => q.2.1 b (hO b hb), q.2.2⟩
    rcases q with q | ⟨q0, q⟩
    · exact (q s.w (Ry.refl _ _)).elim
    · refine Lfp.in MSF.mono (.inr ⟨q0, ?_⟩)
      rcases q with q | q | ⟨c, out, z, q1, q2, q3, q4⟩ | ⟨q1, q⟩
      · refine .inl fun w1 hr => ?_
        obtain ⟨g2, w2, es, O2, W2, h1, h2, _, h3⟩ := q w1 (hl hr)
        refine ⟨g2, w2, es, fun b => O2 b ∨ O b, fun b => W2 b ∨ W b, h1, ⟨h2.size, fun b hb hw => h2.kept b hb fun z => hw (hW b z), h2.os, fun b hb => ?_, fun b hb => ?_, fun b hb => hb.imp (h2.sub b) (hs b), fun e he => (h2.evs e he).mono (fun _ => .inl) (fun _ => .inl)⟩, h3 _ _ (fun _ => .inl) (fun _ => .inl) fun b hb => hb.imp (h2.sub b) (hs b)⟩
        · rcases hb with hb | hb
          · exact (h2.newO b hb).imp (hO b) id
          · exact .inl hb
        · rcases hb with hb | hb
          · exact (h2.newW b hb).imp (hW b) id
          · exact .inl hb
      · refine .inr (.inl fun w1 hr => ?_)
        obtain ⟨g2, child, c, out, Oc, Wc, a1, a2, a3, a4, a5, a6, a7, a8, _, a9⟩ := q w1 (hl hr)
        exact ⟨g2, child, c, out, Oc, Wc, a1, hW _ a2, a3, a4, fun b hb => hO b (a5 b hb), fun b hb => ⟨hW b (a6 b hb).1, (a6 b hb).2⟩, a7, a8, a9 _ _ (fun b hb => ⟨hO b hb.1, hb.2⟩) (fun b hb => ⟨hW b hb.1, hb.2⟩) fun b hb => ⟨hs b hb.1, hb.2.1, fun z => hb.2.2 (a6 b z).2⟩⟩
      · refine .inr (.inr (.inl ⟨c, out, z, q1, fun w1 hr => q2 w1 (hl hr), fun o rest e w2 x Tr a b d => ?_, fun e w2 a => (q4 e w2 (hl a)).2 _ _ hO hW hs⟩))
        exact (q3 o rest e w2 x Tr (hl a) b fun b hb => ⟨fun z => (d b hb).1 (hO b z), (d b hb).2⟩).2 _ _ (fun b hb => hb.imp (hO b) id) hW fun b hb => .inl (hs b hb)
      · refine .inr (.inr (.inr ⟨q1, fun w1 hr => ?_⟩))
        obtain ⟨v, es, h1, h2, h3⟩ := q w1 (hl hr)
        exact ⟨v, es, h1, fun e he => (h2 e he).mono hO hW, h3⟩
  exact key O W hO hW hs
theorem WS.weaken {p : WP μ} (h : WS P Msg p) {O W : Nat → Prop} (hO : ∀ b, p.O b → O b) (hW : ∀ b, p.W b → W b) (hs : ∀ b, W b → O b) : WS P Msg { p with O := O, W := W } := by
  have key : ∀ O W : Nat → Prop, (∀ b, p.O b → O b) → (∀ b, p.W b → W b) → (∀ b, W b → O b) → WS P Msg { p with O := O, W := W } := by
    refine Lfp.ind WSF.mono (C := fun p => ∀ O W : Nat → Prop, (∀ b, p.O b → O b) → (∀ b, p.W b → W b) → (∀ b, W b → O b) → WS P Msg { p with O := O, W := W }) (fun p q O W hO hW hs => ?_) h
    have hl : ∀ {w1 : World}, Ry O p.w w1 → Ry p.O p.w w1 := fun q => ⟨q.1, fun b hb => q.2.1 b (hO b hb), q.2.2⟩
    refine Lfp.in WSF.mono ?_
    rcases q with ⟨q0, q1, q2, q⟩ | ⟨q0, o, rest, Tr, q1, q2, q⟩ | ⟨q0, q1, q⟩
    · refine .inl ⟨q0, q1, q2, ?_⟩
      rcases q with q | q | ⟨q3, q4, q⟩
      · refine .inl fun w1 hr => ?_
        obtain ⟨g2, w2, es, O2, W2, h1, h2, e1, e2, _, h3⟩ := q w1 (hl hr)
        refine ⟨g2, w2, es, fun b => O2 b ∨ O b, fun b => W2 b ∨ W b, h1, ⟨h2.size, fun b hb hw => h2.kept b hb fun z => hw (hW b z), h2.os, fun b hb => ?_, fun b hb => ?_, fun b hb => hb.imp (h2.sub b) (hs b), fun e he => (h2.evs e he).mono (fun _ => .inl) (fun _ => .inl)⟩, e1, e2, h3 _ _ (fun _ => .inl) (fun _ => .inl) fun b hb => hb.imp (h2.sub b) (hs b)⟩
        · rcases hb with hb | hb
          · exact (h2.newO b hb).imp (hO b) id
          · exact .inl hb
        · rcases hb with hb | hb
          · exact (h2.newW b hb).imp (hW b) id
          · exact .inl hb
      · refine .inr (.inl fun w1 hr => ?_)
        obtain ⟨g2, x, z, h1, _, h2⟩ := q w1 (hl hr)
        exact ⟨g2, x, z, h1, h2 O W hO hW hs⟩
      · refine .inr (.inr ⟨q3, q4, fun w1 s hr hc => ?_⟩)
        obtain ⟨g2, h1, h2, h3, h4, _⟩ := q w1 s (hl hr) hc
        exact ⟨g2, h1, h2, h3, h4⟩
    · refine .inr (.inl ⟨q0, o, rest, Tr, q1, fun b hb => hW b (q2 b hb), fun w1 hr => ?_⟩)
      obtain ⟨h1, _, h2⟩ := q w1 (hl hr)
      exact ⟨h1, h2 _ _ hO (fun b hb => ⟨hW b hb.1, hb.2⟩) fun b hb => hs b hb.1⟩
    · refine .inr (.inr ⟨q0, q1, ?_⟩)
      rcases q with q | ⟨q2, g2, q3, q4, _, q5⟩
      · exact .inl q
      · exact .inr ⟨q2, g2, q3, q4, q5 O W hO hW hs⟩
  exact key O W hO hW hs
end
end Go.Proofs.YtfbdgdphpdhcpaaDoor.Sm
namespace Go.Proofs.YtfbdgdphpdhcpaaDoor.Sm
open Go Go.Conc

def isC : Obj → Bool
  | .cells .. => true
  | _ => false
/-- The world in which nobody can write the blocks of S. -/
def fz (S : Nat → Bool) (w : World) : World := { w with heap := w.heap.mapIdx fun i o => if S i then frzO o else o }
theorem fz_get (S : Nat → Bool) (w : World) (b : Nat) : (fz S w).heap[b]? = (w.heap[b]?).map fun o => if S b then frzO o else o := by
  unfold fz
  simp only [Array.getElem?_mapIdx]
theorem fz_size (S : Nat → Bool) (w : World) : (fz S w).heap.size = w.heap.size := by unfold fz; simp
theorem fz_cell (S : Nat → Bool) (w : World) (p : Addr) : (fz S w).cell? p = w.cell? p := by
  unfold World.cell?
  rw [fz_get]
  cases h : w.heap[p.block]? with
  | none => rfl
  | some o =>
    simp only [Option.map_some]
    by_cases q : S p.block = true
    · rw [if_pos q]
      cases o <;> rfl
    · rw [if_neg q]
theorem fz_other {S : Nat → Bool} {w : World} {b : Nat} (h : S b = false) : (fz S w).heap[b]? = w.heap[b]? := by
  rw [fz_get]; simp [h]
theorem or_fz {R : Ren} {l : Nat} {o o' : Obj} (h : OR R l o o') (q : Bool) : OR R l (if q = true then frzO o else o) o' := by
  cases q with
  | false => exact h
  | true =>
    cases o with
    | cells c e fr =>
      cases o' with
      | cells c' e' fr' => exact ⟨h.1, h.2.1, fun k h1 h2 => ⟨Nat.zero_le _, Nat.lt_of_lt_of_le (h.2.2 k h1 h2).2 (Nat.le_max_right _ _)⟩⟩
      | _ => exact h.elim
    | _ => exact h
theorem WR0.fz {R : Ren} {v w : World} (h : WR0 R v w) (S : Nat → Bool) : WR0 R (Sm.fz S v) w :=
  ⟨h.inj, h.fn, fun b b' q => ⟨by rw [fz_size]; exact (h.dom b b' q).1, (h.dom b b' q).2⟩, fun b b' o q ho => by
    rw [fz_get] at ho
    cases e : v.heap[b]? with
    | none => rw [e] at ho; cases ho
    | some o0 =>
      rw [e] at ho
      cases ho
      obtain ⟨o', h1, h2⟩ := h.obj b b' o0 q e
      exact ⟨o', h1, or_fz h2 (S b)⟩, ⟨⟨by rw [fz_size]; exact h.low.1.1, h.low.1.2⟩, h.low.2⟩, h.same⟩
theorem shut_fz {o : Obj} (h : isC o = true) : Shut (frzO o) := by
  cases o with
  | cells c e fr => exact fun k hk => ⟨Nat.zero_le _, Nat.lt_of_lt_of_le hk (Nat.le_max_left _ _)⟩
  | _ => cases h
theorem open_seen {R : Ren} {v : World} {b : Nat} (h : Open R v b) : Seen R b := let ⟨a, _, h1, _⟩ := h; ⟨a, h1⟩
theorem open_fz {R : Ren} {S : Nat → Bool} {v : World} {b' : Nat} (h : Open R (fz S v) b') : ∃ b o, R.rel b b' ∧ v.heap[b]? = some o ∧ ¬ Shut o ∧ (S b = true → isC o = false) := by
  obtain ⟨b, o, h1, h2, h3⟩ := h
  rw [fz_get] at h2
  cases e : v.heap[b]? with
  | none => rw [e] at h2; cases h2
  | some o0 =>
    rw [e] at h2
    cases h2
    replace h3 : ¬ Shut (if S b = true then frzO o0 else o0) := h3
    by_cases q : S b = true
    · rw [if_pos q] at h3
      refine ⟨b, o0, h1, e, fun z => h3 ?_, fun _ => ?_⟩
      · cases o0 with
        | cells c t fr => exact shut_fz rfl
        | _ => exact z
      · cases hc : isC o0 with
        | false => rfl
        | true => exact absurd (shut_fz hc) h3
    · rw [if_neg q] at h3
      exact ⟨b, o0, h1, e, h3, fun z => absurd z q⟩
theorem WR0.heapR {R : Ren} {v w w2 : World} (h : WR0 R v w) (e : w2.heap = w.heap) : WR0 R v w2 :=
  ⟨h.inj, h.fn, by rw [e]; exact h.dom, by rw [e]; exact h.obj, by rw [e]; exact h.low, h.same⟩
section
variable {P : Program} {fs gs : List Nat}
theorem isr_end {R : Ren} (hg : Good P R) {k : List Item} {D : List Deferred} {kd : CallKind} {l : List Item} (h : IsR P R (some (k, D, kd)) [mkI] l) : l = k := by
  cases l with
  | nil =>
    obtain ⟨⟨D', e⟩, _⟩ := h
    have : some (k, D, kd) = some ([], D') := e
    cases this; rfl
  | cons x l =>
    rcases h with h | ⟨⟨D', e⟩, _⟩
    · exfalso
      have h2 := h.1
      cases x with
      | code c =>
        obtain ⟨rfl, h3⟩ := h2
        exact hg.code _ h3
      | _ => exact h2.elim
    · have : some (k, D, kd) = some (x :: l, D') := e
      cases this; rfl
/-- One operation from a view. -/
theorem op_view (hz : Zs P) (hf : fs.all (funcB P fs gs) = true) {r : Nat → Nat → Prop} (hg : ∀ g ∈ gs, r g g) {m : Bool} {fn : FuncId} (hin : ∃ f, P.funcs[fn]? = some f) {ops : Array Oper} {i : Nat} {rest : List Nat} {tm tm' tm1 : Array Value} {v v1 w : World}
    (hx : itemB P fs gs (.inRegion ops (i :: rest)) = true) (hw : WR0 (Rg P fs gs r) v w) (ht : XR (Rg P fs gs r) tm tm')
    (hst : ∀ τ, ∃ es, stepG P m (G (pf fn ⟨tm, []⟩ [.inRegion ops (i :: rest), mkI]) [dum]) (tap τ v) = .go (G (pf fn ⟨tm1, []⟩ [.inRegion ops rest, mkI]) [dum]) (tap τ v1) es) (k : List Item) (D : List Deferred) (kd : CallKind) (hkd : kd ≠ .early) (rc : List Frame) :
    ∃ r' tm1' w2 es, stepG P m (G (fF fn tm' (.inRegion ops (i :: rest) :: k) D kd) rc) w = .go (G (fF fn tm1' (.inRegion ops rest :: k) D kd) rc) w2 es ∧ XR (Rg P fs gs r') tm1 tm1' ∧ WR0 (Rg P fs gs r') v1 w2 ∧ (∀ b b', r b b' → r' b b') ∧
      (∀ b b', r' b b' → r b b' ∨ (v.heap.size ≤ b ∧ w.heap.size ≤ b')) ∧ Gd (Seen (Rg P fs gs r)) (Open (Rg P fs gs r) v) (Seen (Rg P fs gs r')) (Open (Rg P fs gs r') v1) w w2 es := by
  have hgd : Good P (Rg P fs gs r) := rg_good hf hg
  have hix : IR P (Rg P fs gs r) (.inRegion ops (i :: rest)) (.inRegion ops (i :: rest)) := rg_item hg hx
  obtain ⟨es0, h0⟩ := hst (syn v w)
  have hG : GR P (Rg P fs gs r) (some (k, D, kd)) [dum] rc (G (pf fn ⟨tm, []⟩ [.inRegion ops (i :: rest), mkI]) [dum]) (G (fF fn tm' (.inRegion ops (i :: rest) :: k) D kd) rc) :=
    ⟨_, [], _, [], rfl, rfl, ⟨⟨rfl, hin⟩, ht, isR_mk hix _ _, rfl, ⟨rfl, .inl rfl⟩, ⟨⟨rfl, hkd⟩, rfl⟩, trivial⟩, trivial, rfl⟩
  rcases sim_step (m' := m) hz hgd hG hw.wr h0 (fun fr e hm => by injection e with e1 e2; subst e1; cases hm) with q | ⟨R', g1', w2, es', e, hG', hgu⟩
  · exfalso
    obtain ⟨fr, cs, chain, e1, e2, _⟩ := q
    have e3 : G (pf fn ⟨tm1, []⟩ [.inRegion ops rest, mkI]) [dum] = G fr (cs ++ [dum]) := e1
    injection e3 with e4 e5
    subst e4
    cases e2
  · obtain ⟨fr1, cs, fr', cs', e1, rfl, hfr, hc, hb⟩ := hG'
    have e3 : G (pf fn ⟨tm1, []⟩ [.inRegion ops rest, mkI]) [dum] = G fr1 (cs ++ [dum]) := e1
    injection e3 with e4 e5
    subst e4
    have hcs : cs = [] := cs_nil e5.symm
    subst hcs
    cases cs' with
    | cons a l => exact hc.elim
    | nil =>
      have hgd' := hgd.mono hgu.le
      have htd : fr'.todo = .inRegion ops rest :: k := by
        have h1 := hfr.td
        cases ht : fr'.todo with
        | nil => rw [ht] at h1; exact absurd h1.2 (fun ⟨s, q⟩ => by cases q)
        | cons x l =>
          rw [ht] at h1
          rcases h1 with h1 | ⟨_, s, q⟩
          · have h2 := h1.1
            cases x with
            | inRegion ops' l' =>
              obtain ⟨⟨rfl, rfl⟩, _⟩ := h2
              have := isr_end hgd' (D := D) (kd := kd) h1.2
              rw [this]
            | _ => exact h2.elim
          · cases q
      have hdf : fr'.defers = D := hfr.df
      have hro : fr'.roundOf = none := by
        have h1 := hfr.ro
        have e : (pf fn ⟨tm1, []⟩ [.inRegion ops rest, mkI]).roundOf = none := rfl
        rw [e] at h1
        cases h : fr'.roundOf with
        | none => rfl
        | some l => rw [h] at h1; exact h1.elim
      have hrg := rg_of hgu.le
      refine ⟨R'.rel, fr'.tmps, w2, es', ?_, by rw [← hrg]; exact hfr.tm, ?_, hgu.le.1, hgu.new, ?_⟩
      · rw [e]
        have hmd : fr'.mode = .run := hfr.md.1
        have hkd' : fr'.kind = kd := hfr.kd.1.1
        have hfn : fr'.fn = fn := hfr.fn.1
        obtain ⟨f1, f2, f3, f4, f5, f6, f7⟩ := fr'
        simp only at htd hdf hmd hkd' hfn hro
        subst htd hdf hmd hkd' hfn hro
        rfl
      · rw [← hrg]; exact hgu.wr.zero.heap (v' := v1) rfl
      · rw [← hrg]
        exact hgu.gd
end
section
variable {μ : Type} (P : Program) (fs gs : List Nat) (Msg : World → (Nat → Prop) → Value → μ → Prop) (Fin : Value → World → Prop)
/-- What was there at the start is as it was. -/
def Kp (K w : World) : Prop := K.heap.size ≤ w.heap.size ∧ (∀ b, b < K.heap.size → w.heap[b]? = K.heap[b]?) ∧ w.os = K.os ∧ w.output = K.output
/-- Goroutine 0 from its view (r, v), whatever the company's world is; X: a channel of its own that isn't handed on yet; K: the world at the start. -/
def MV (K : World) (r : Nat → Nat → Prop) (v : World) (ch : Nat → Option (List μ)) (X : Option Nat) (g : Goroutine) : Prop :=
  ∀ w, Kp K w → (∀ b, Open (Rg P fs gs r) v b → K.heap.size ≤ b) → WR0 (Rg P fs gs r) v w → (∀ c, ch c ≠ none → c < w.heap.size) → (∀ c, X = some c → K.heap.size ≤ c ∧ w.heap[c]? = some (.chan 0 #[] false 0 0 false) ∧ ¬ Seen (Rg P fs gs r) c ∧ ch c = none) →
    MS P Msg Fin (fun _ => False) ⟨g, w, fun b => Seen (Rg P fs gs r) b ∨ X = some b ∨ b < K.heap.size, fun b => Open (Rg P fs gs r) v b ∨ X = some b, ch⟩
/-- A worker from its view. -/
def WV (r : Nat → Nat → Prop) (v : World) (c : Nat) (out : List μ) (g : Goroutine) : Prop :=
  ∀ w x z, WR0 (Rg P fs gs r) v w → WS P Msg ⟨g, w, Seen (Rg P fs gs r), Open (Rg P fs gs r) v, c, out, 0, x, z⟩
end
section
variable {μ : Type} {P : Program} {fs gs : List Nat} {Msg : World → (Nat → Prop) → Value → μ → Prop} {Fin : Value → World → Prop} {K : World} {r : Nat → Nat → Prop} {v : World} {ch : Nat → Option (List μ)} {X : Option Nat}
theorem Kp.refl (K : World) : Kp K K := ⟨Nat.le_refl _, fun _ _ => rfl, rfl, rfl⟩
theorem Kp.rely {O : Nat → Prop} {w w1 : World} (h : Kp K w) (hr : Ry O w w1) (hO : ∀ b, b < K.heap.size → O b) : Kp K w1 :=
  ⟨Nat.le_trans h.1 hr.1, fun b hb => (hr.2.1 b (hO b hb)).trans (h.2.1 b hb), hr.2.2.1.trans h.2.2.1, hr.2.2.2.trans h.2.2.2⟩
theorem Kp.gd {O W O' W' : Nat → Prop} {w w1 : World} {es : Array Event} (h : Kp K w) (hg : Gd O W O' W' w w1 es) (hW : ∀ b, W b → K.heap.size ≤ b) : Kp K w1 :=
  ⟨Nat.le_trans h.1 hg.size, fun b hb => (hg.kept b (Nat.lt_of_lt_of_le hb h.1) fun q => Nat.lt_irrefl _ (Nat.lt_of_lt_of_le hb (hW b q))).trans (h.2.1 b hb), hg.os.1.trans h.2.2.1, hg.os.2.1.trans h.2.2.2⟩
theorem newW_kp {O W O' W' : Nat → Prop} {w w1 : World} {es : Array Event} (h : Kp K w) (hg : Gd O W O' W' w w1 es) (hW : ∀ b, W b → K.heap.size ≤ b) : ∀ b, W' b → K.heap.size ≤ b := fun b hb => by
  rcases hg.newW b hb with q | q
  · exact hW b q
  · exact Nat.le_trans h.1 q.1
theorem ry_x {R : Ren} {X : Option Nat} {w w1 : World} (h : Ry (fun b => Seen R b ∨ X = some b ∨ b < K.heap.size) w w1) : Ry (Seen R) w w1 := ⟨h.1, fun b hb => h.2.1 b (.inl hb), h.2.2⟩
theorem ry_k {R : Ren} {X : Option Nat} {w w1 : World} (hk : Kp K w) (h : Ry (fun b => Seen R b ∨ X = some b ∨ b < K.heap.size) w w1) : Kp K w1 := hk.rely h fun _ hb => .inr (.inr hb)
theorem mv_sub {R : Ren} {v : World} {X : Option Nat} : ∀ b, (Open R v b ∨ X = some b) → (Seen R b ∨ X = some b ∨ b < K.heap.size) := fun _ h => h.elim (fun q => .inl (open_seen q)) fun q => .inr (.inl q)
theorem x_rely {R : Ren} {w w1 : World} (h : Ry (fun b => Seen R b ∨ X = some b ∨ b < K.heap.size) w w1) (hx : ∀ c, X = some c → K.heap.size ≤ c ∧ w.heap[c]? = some (.chan 0 #[] false 0 0 false) ∧ ¬ Seen R c ∧ ch c = none) :
    ∀ c, X = some c → K.heap.size ≤ c ∧ w1.heap[c]? = some (.chan 0 #[] false 0 0 false) ∧ ¬ Seen R c ∧ ch c = none := fun c e => ⟨(hx c e).1, (h.2.1 c (.inr (.inl e))).trans (hx c e).2.1, (hx c e).2.2⟩
theorem MV.mv {g g' : Goroutine} (hs : g.status = .running) (h : ∀ w, stepG P true g w = .go g' w #[]) (hn : MV P fs gs Msg Fin K r v ch X g') : MV P fs gs Msg Fin K r v ch X g := fun _ hk ho hw hc hx =>
  MS.step hs fun w1 hr => ⟨g', w1, #[], _, _, h w1, Gd.still mv_sub, hn w1 (ry_k hk hr) ho (hw.rely (ry_x hr)) (fun c q => Nat.lt_of_lt_of_le (hc c q) hr.1) (x_rely hr hx)⟩
/-- Along the way what was there at the start stays. -/
def StK (K : World) (Stop : St → Prop) (s : St) : Prop := (∃ O, Stop ⟨s.g, s.w, O, s.W⟩ ∧ s.O = fun b => O b ∨ b < K.heap.size) ∧ Kp K s.w ∧ ∀ b, s.W b → K.heap.size ≤ b
theorem Co.stays {m : Bool} {Stop : St → Prop} {s : St} (h : Co P m Stop s) : Kp K s.w → (∀ b, s.W b → K.heap.size ≤ b) → Co P m (StK K Stop) ⟨s.g, s.w, fun b => s.O b ∨ b < K.heap.size, s.W⟩ := by
  refine Lfp.ind CoF.mono (C := fun s => Kp K s.w → (∀ b, s.W b → K.heap.size ≤ b) → Co P m (StK K Stop) ⟨s.g, s.w, fun b => s.O b ∨ b < K.heap.size, s.W⟩) (fun s q hk hW => ?_) h
  have hless : ∀ {w1 : World}, Ry (fun b => s.O b ∨ b < K.heap.size) s.w w1 → Ry s.O s.w w1 := fun hr => ⟨hr.1, fun b hb => hr.2.1 b (.inl hb), hr.2.2⟩
  refine Lfp.in CoF.mono ?_
  rcases q with q | ⟨q0, q⟩
  · exact .inl fun w1 hr => ⟨⟨s.O, q w1 (hless hr), rfl⟩, hk.rely hr fun _ => .inr, hW⟩
  · refine .inr ⟨q0, fun w1 hr => ?_⟩
    obtain ⟨g2, w2, es, O2, W2, h1, h2, h3, _, h5⟩ := q w1 (hless hr)
    have hk1 : Kp K w1 := hk.rely hr fun _ => .inr
    refine ⟨g2, w2, es, fun b => O2 b ∨ b < K.heap.size, W2, h1, ⟨h2.size, h2.kept, h2.os, fun b hb => ?_, h2.newW, fun b hb => .inl (h2.sub b hb), fun e he => (h2.evs e he).mono (fun _ => .inl) (fun _ => id)⟩, h3, h5 (hk1.gd h2 hW) (newW_kp hk1 h2 hW)⟩
    rcases hb with hb | hb
    · exact (h2.newO b hb).imp .inl id
    · exact .inl (.inr hb)
theorem MV.piece (hz : Zs P) (hf : fs.all (funcB P fs gs) = true) (hg : ∀ g ∈ gs, r g g) {fn : FuncId} (hin : ∃ f, P.funcs[fn]? = some f) {x : Item} (hx : itemB P fs gs x = true) {tm tm' : Array Value} (ht : XR (Rg P fs gs r) tm tm')
    {Q : Act → World → Prop} (H : ∀ τ, ∃ a' v', a'.defers = [] ∧ Q a' v' ∧ Steps P (lone (pf fn ⟨tm, []⟩ [x, mkI]) [dum] (tap τ v)) (lone (pf fn a' [mkI]) [dum] v')) {k : List Item} {D : List Deferred} {kd : CallKind} (hkd : kd ≠ .early) {rc : List Frame}
    (hn : ∀ r' v1 a x', (∀ b b', r b b' → r' b b') → XR (Rg P fs gs r') a.tmps x' → Q a v1 → MV P fs gs Msg Fin K r' v1 ch none (G (fF fn x' k D kd) rc)) : MV P fs gs Msg Fin K r v ch none (G (fF fn tm' (x :: k) D kd) rc) := fun w hk ho hw hc _ => by
  have h0 := (co_view hz hf hg (m := true) hin hx hw ht H k D kd hkd rc).stays (K := K) hk ho
  have h := MS.of_co (Msg := Msg) (Fin := Fin) (Stop' := fun _ => False) (ch := ch) h0 (fun s q => by
    obtain ⟨⟨O, ⟨r', v1, a, x', e, hq, hxr, hwr, hle, _, hsz, hO, hW⟩, hO'⟩, hk', hW'⟩ := q
    have e : s.g = _ := e
    have hO : O = _ := hO
    have hW : s.W = _ := hW
    rw [hW] at hW'
    have h1 := hn r' v1 a x' hle hxr hq s.w hk' hW' hwr (fun c q => Nat.lt_of_lt_of_le (hc c q) hsz) (fun c q => by cases q)
    rw [e, hO', hW, hO]
    exact h1.weaken (fun b hb => hb.elim .inl fun q => q.elim (fun z => by cases z) .inr) (fun b hb => hb.resolve_right (by simp)) (fun b hb => .inl (open_seen hb)))
  exact h.weaken (fun b hb => hb.elim .inl fun q => .inr (.inr q)) (fun b hb => .inl hb) mv_sub
theorem MV.op (hz : Zs P) (hf : fs.all (funcB P fs gs) = true) (hg : ∀ g ∈ gs, r g g) {fn : FuncId} (hin : ∃ f, P.funcs[fn]? = some f) {ops : Array Oper} {i : Nat} {rest : List Nat} {tm tm' tm1 : Array Value} {v1 : World}
    (hx : itemB P fs gs (.inRegion ops (i :: rest)) = true) (ht : XR (Rg P fs gs r) tm tm')
    (hst : ∀ τ, ∃ es, stepG P true (G (pf fn ⟨tm, []⟩ [.inRegion ops (i :: rest), mkI]) [dum]) (tap τ v) = .go (G (pf fn ⟨tm1, []⟩ [.inRegion ops rest, mkI]) [dum]) (tap τ v1) es) {k : List Item} {D : List Deferred} {kd : CallKind} (hkd : kd ≠ .early) {rc : List Frame}
    (hn : ∀ r' x', (∀ b b', r b b' → r' b b') → XR (Rg P fs gs r') tm1 x' → MV P fs gs Msg Fin K r' v1 ch X (G (fF fn x' (.inRegion ops rest :: k) D kd) rc)) : MV P fs gs Msg Fin K r v ch X (G (fF fn tm' (.inRegion ops (i :: rest) :: k) D kd) rc) := fun w hk ho hw hc hX =>
  MS.step rfl fun w1 hr => by
    have hw1 := hw.rely (ry_x hr)
    have hk1 := ry_k hk hr
    obtain ⟨r', tm1', w2, es, h1, h2, h3, h4, h5, h6⟩ := op_view hz hf hg (m := true) hin hx hw1 ht hst k D kd hkd rc
    have hX1 := x_rely hr hX
    refine ⟨_, w2, es, _, _, h1, ⟨h6.size, fun b hb hnb => h6.kept b hb fun z => hnb (.inl z), h6.os, fun b hb => ?_, fun b hb => ?_, mv_sub, fun e he => (h6.evs e he).mono (fun _ => .inl) (fun _ => .inl)⟩,
      hn r' tm1' h4 h2 w2 (hk1.gd h6 ho) (newW_kp hk1 h6 ho) h3 (fun c q => Nat.lt_of_lt_of_le (hc c q) (Nat.le_trans hr.1 h6.size)) fun c e => ?_⟩
    · rcases hb with hb | hb
      · exact (h6.newO b hb).imp .inl id
      · exact .inl (.inr hb)
    · rcases hb with hb | hb
      · exact (h6.newW b hb).imp .inl id
      · exact .inl (.inr hb)
    · obtain ⟨q0, q1, q2, q3⟩ := hX1 c e
      have hlt : c < w1.heap.size := (Array.getElem?_eq_some_iff.1 q1).1
      refine ⟨q0, (h6.kept c hlt fun z => q2 (open_seen z)).trans q1, fun ⟨b, hb⟩ => ?_, q3⟩
      rcases h5 b c hb with z | z
      · exact q2 ⟨b, z⟩
      · omega
/-- An order of operations is drawn. -/
theorem MV.draw {fn : FuncId} {id : Nat} {ops : Array Oper} {tm' : Array Value} {k : List Item} {D : List Deferred} {kd : CallKind} {rc : List Frame}
    (hn : ∀ t, MV P fs gs Msg Fin K r v ch X (G (fF fn tm' (.inRegion ops (Region.schedule (P.follows .mixedOrders) ops t) :: k) D kd) rc)) : MV P fs gs Msg Fin K r v ch X (G (fF fn tm' (.code (.region id ops true) :: k) D kd) rc) := fun _ hk ho hw hc hX =>
  MS.step rfl fun w1 hr => by
    have hw1 := hw.rely (ry_x hr)
    have hk1 := ry_k hk hr
    refine ⟨_, { w1 with drawn := w1.drawn + 1 }, #[], _, _, rfl, ⟨Nat.le_refl _, fun b _ _ => rfl, ⟨rfl, rfl, rfl⟩, fun b => .inl, fun b => .inl, mv_sub, fun e he => absurd he (by simp)⟩,
      hn _ _ ⟨hk1.1, hk1.2.1, hk1.2.2⟩ ho (hw1.heapR rfl) (fun c q => Nat.lt_of_lt_of_le (hc c q) hr.1) (x_rely hr hX)⟩
/-- A channel is made. -/
theorem MV.make {fn : FuncId} {ops : Array Oper} {i : Nat} {rest : List Nat} {o : Oper} {tm' : Array Value} {k : List Item} {D : List Deferred} {kd : CallKind} (hkd : kd ≠ .early) {rc : List Frame} (ho : ops[i]? = some o) (hwt : Region.wanted o (yielded ops tm') = true)
    (hrun : ∀ w, (execOp (Act.eval ⟨tm', D⟩) o).run P w = .ok (.value (.chan (some w.heap.size))) (w.alloc (.chan 0 #[] false 0 0 false))) (hev : ∀ w, (execOp (Act.eval ⟨tm', D⟩) o).events P w #[] = #[])
    (hn : ∀ c, MV P fs gs Msg Fin K r v ch (some c) (G (fF fn ((Act.put ⟨tm', D⟩ o.dst (.chan (some c))).tmps) (.inRegion ops rest :: k) D kd) rc)) : MV P fs gs Msg Fin K r v ch none (G (fF fn tm' (.inRegion ops (i :: rest) :: k) D kd) rc) := fun w hk hop hw hc _ =>
  MS.step rfl fun w1 hr => by
    have hw1 := hw.rely (ry_x hr)
    have hr1 : w.heap.size ≤ w1.heap.size := hr.1
    have hk1 := ry_k hk hr
    have hget : ∀ b, b < w1.heap.size → (w1.alloc (.chan 0 #[] false 0 0 false)).heap[b]? = w1.heap[b]? := fun b hb => by
      unfold World.alloc
      exact Array.getElem?_push_lt hb ▸ (by rw [Array.getElem?_eq_getElem hb])
    have hsz : (w1.alloc (.chan 0 #[] false 0 0 false)).heap.size = w1.heap.size + 1 := by unfold World.alloc; simp
    have hnew : (w1.alloc (.chan 0 #[] false 0 0 false)).heap[w1.heap.size]? = some (.chan 0 #[] false 0 0 false) := by unfold World.alloc; simp
    have hst := stepG_value (P := P) (main := true) (b := fF fn tm' [] D kd) (a := ⟨tm', D⟩) (k := k) (cs := rc) (rest := rest) ho hwt hkd (hrun w1)
    have hl : listed P (fF fn tm' [] D kd).fn ⟨tm', D⟩ o w1 = #[] := by unfold listed; rw [hev]; exact seen_none P _
    have hp : ∀ x, Act.put ⟨tm', D⟩ o.dst x = ⟨(Act.put ⟨tm', D⟩ o.dst x).tmps, D⟩ := fun x => by cases o.dst <;> rfl
    rw [hl, hp] at hst
    refine ⟨_, _, #[], fun b => Seen (Rg P fs gs r) b ∨ some w1.heap.size = some b ∨ b < K.heap.size, fun b => Open (Rg P fs gs r) v b ∨ some w1.heap.size = some b, hst, ⟨by rw [hsz]; omega, fun b hb _ => hget b hb, ⟨rfl, rfl, rfl⟩, fun b hb => ?_, fun b hb => ?_, mv_sub, fun e he => absurd he (by simp)⟩, ?_⟩
    · rcases hb with hb | hb | hb
      · exact .inl (.inl hb)
      · cases hb; exact .inr ⟨Nat.le_refl _, by rw [hsz]; omega⟩
      · exact .inl (.inr (.inr hb))
    · rcases hb with hb | hb
      · exact .inl (.inl hb)
      · cases hb; exact .inr ⟨Nat.le_refl _, by rw [hsz]; omega⟩
    · have h1 : WR0 (Rg P fs gs r) v (w1.alloc (.chan 0 #[] false 0 0 false)) :=
        ⟨hw1.inj, hw1.fn, fun b b' q => ⟨(hw1.dom b b' q).1, by rw [hsz]; have := (hw1.dom b b' q).2; omega⟩, fun b b' o q ho => by rw [hget b' (hw1.dom b b' q).2]; exact hw1.obj b b' o q ho, ⟨hw1.low.1, by rw [hsz]; have := hw1.low.2; omega⟩, hw1.same⟩
      have hk2 : Kp K (w1.alloc (.chan 0 #[] false 0 0 false)) := ⟨by rw [hsz]; have := hk1.1; omega, fun b hb => (hget b (Nat.lt_of_lt_of_le hb hk1.1)).trans (hk1.2.1 b hb), hk1.2.2⟩
      have h2 := hn w1.heap.size _ hk2 hop h1 (fun c q => by rw [hsz]; have := hc c q; omega) (fun c e => by
        cases e
        refine ⟨hk1.1, hnew, fun ⟨b, hb⟩ => ?_, ?_⟩
        · have := (hw1.dom b _ hb).2; omega
        · cases hcc : ch w1.heap.size with
          | none => rfl
          | some l => have := hc w1.heap.size (by rw [hcc]; simp); omega)
      exact h2
end
end Go.Proofs.YtfbdgdphpdhcpaaDoor.Sm
