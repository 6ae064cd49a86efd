/-
  A goroutine's view: a lone world in which it reckons, and how what it holds in company goes with it. Condition: Zs.
-/
import Derived.Test.YtfbdgdphpdhcpaaDoorZsP
namespace Go.Proofs.YtfbdgdphpdhcpaaDoor.Sm
open Go Go.Conc

section
variable {P : Program} {R R' : Ren}
/-- What R names, by its own name. -/
def idn (R : Ren) : Ren := ⟨fun b c => c = b ∧ ∃ b', R.rel b b', R.fns, R.low, R.ok, R.kn, R.lo⟩
theorem OkX.imp {x : Operand} (hf : ∀ f, R.fns f → R'.fns f) (hg : ∀ g, R.rel g g ∧ R.lo g = 0 → R'.rel g g ∧ R'.lo g = 0) (h : OkX R x) : OkX R' x := by
  cases x with
  | tmp t => trivial
  | const v => exact h
  | global g => exact hg g h
  | func f => exact hf f h
theorem OkO.imp {x : Option Operand} (hf : ∀ f, R.fns f → R'.fns f) (hg : ∀ g, R.rel g g ∧ R.lo g = 0 → R'.rel g g ∧ R'.lo g = 0) (h : OkO R x) : OkO R' x := by
  cases x with
  | none => trivial
  | some x => exact OkX.imp hf hg h
theorem OkOp.imp {o : Op} (hf : ∀ f, R.fns f → R'.fns f) (hg : ∀ g, R.rel g g ∧ R.lo g = 0 → R'.rel g g ∧ R'.lo g = 0) (h : OkOp P R o) : OkOp P R' o := by
  have hx : ∀ {x : Operand}, OkX R x → OkX R' x := fun q => OkX.imp hf hg q
  have hO : ∀ {x : Option Operand}, OkO R x → OkO R' x := fun q => OkO.imp hf hg q
  have hxs : ∀ {xs : Array Operand}, OkXs R xs → OkXs R' xs := fun q x m => hx (q x m)
  cases o with
  | move x => exact hx h
  | assign x => exact hx h
  | nilCheck x => exact hx h
  | pick a b c => exact ⟨hx h.1, hx h.2.1, hx h.2.2⟩
  | alloc t => trivial
  | box t x => exact hx h
  | build t ps => exact fun p hp => hx (h p hp)
  | buildSlice t n ps => exact fun p hp => hx (h p hp)
  | load t a => exact hx h
  | store t a x => exact ⟨hx h.1, hx h.2⟩
  | binOp op t x y yt => exact ⟨hx h.1, hx h.2.1, h.2.2⟩
  | unOp op t x => exact hx h
  | convert s d x => exact ⟨hx h.1, h.2⟩
  | makeFunc fn a b =>
    cases fn with
    | func f => exact ⟨hf _ h.1, hxs h.2.1, hxs h.2.2⟩
    | _ => exact h.elim
  | makeSlice t l c => exact ⟨hx h.1, hx h.2⟩
  | slice t x lo hi mx => exact ⟨hx h.1, hO h.2.1, hO h.2.2.1, hO h.2.2.2⟩
  | fieldAddr s x f => exact ⟨hx h.1, h.2⟩
  | field t x f => exact hx h
  | indexAddr t x i => exact ⟨hx h.1, hx h.2⟩
  | index t x i => exact ⟨hx h.1, hx h.2⟩
  | extract x i => exact hx h
  | call c =>
    refine ⟨hxs h.1, ?_⟩
    have h2 := h.2
    revert h2
    cases c.callee with
    | value f => exact fun h2 => hx h2
    | builtin b => exact fun h2 => h2
    | invoke r n => exact fun h2 => h2.elim
  | _ => exact h.elim
theorem OkCode.imp {c : Code} (hf : ∀ f, R.fns f → R'.fns f) (hg : ∀ g, R.rel g g ∧ R.lo g = 0 → R'.rel g g ∧ R'.lo g = 0) (ho : ∀ c, R.ok c → R'.ok c) (h : OkCode P R c) : OkCode P R' c := by
  cases c with
  | seq a b => exact ⟨ho _ h.1, ho _ h.2⟩
  | cond x a b => exact ⟨OkX.imp hf hg h.1, ho _ h.2.1, ho _ h.2.2⟩
  | block i c => exact ho _ h
  | loop c => exact ho _ h
  | scope c => exact ho _ h
  | region i ops d => exact fun o hm => OkOp.imp hf hg (h o hm)
  | rangeFunc f ps a b => exact ⟨OkX.imp hf hg h.1, ho _ h.2.1, ho _ h.2.2⟩
  | _ => first | trivial | exact h.elim
theorem Good.imp (h : Good P R) (hg : ∀ g, R.rel g g ∧ R.lo g = 0 → R'.rel g g ∧ R'.lo g = 0) (e1 : R'.fns = R.fns) (e2 : R'.low = R.low) (e3 : R'.ok = R.ok) (e4 : R'.kn = R.kn) : Good P R' :=
  ⟨by rw [e2]; exact h.low, fun f hf => by
    rw [e1] at hf
    obtain ⟨fn, body, h1, h2, h3, h4⟩ := h.fns f hf
    exact ⟨fn, body, h1, h2, by rw [e3]; exact h3, h4⟩, fun f hf => by rw [e4]; rw [e1] at hf; exact h.known f hf, fun f hf => by rw [e4] at hf; exact h.kn f hf,
    fun c hc => (h.code c (by rw [e3] at hc; exact hc)).imp (fun f hf => by rw [e1]; exact hf) hg (fun c hc => by rw [e3]; exact hc), by rw [e3]; exact h.ret, fun id => by rw [e3]; exact h.exits id⟩
theorem Good.idn (h : Good P R) : Good P (idn R) := h.imp (fun g hg => ⟨⟨rfl, g, hg.1⟩, hg.2⟩) rfl rfl rfl rfl
theorem ar_idn {a a' : Addr} (h : AR R a a') : AR (idn R) a a := ⟨⟨rfl, _, h.1⟩, rfl, rfl, h.2.2.2⟩
theorem oar_idn : ∀ {a a' : Option Addr}, OAR R a a' → OAR (idn R) a a
  | none, none, _ => trivial
  | some _, some _, h => ar_idn h
  | none, some _, h => h.elim
  | some _, none, h => h.elim
theorem onr_idn : ∀ {a a' : Option Nat}, ONR R a a' → ONR (idn R) a a
  | none, none, _ => trivial
  | some _, some _, h => ⟨rfl, _, h⟩
  | none, some _, h => h.elim
  | some _, none, h => h.elim
theorem fnr_idn {f f' : Fn} (h : FnR R f f') : FnR (idn R) f f := by
  cases f <;> cases f' <;> first | exact h.elim | exact ⟨rfl, _, h⟩ | exact ⟨rfl, h.2⟩
theorem vr_idn {v v' : Value} (h : VR R v v') : VR (idn R) v v := by
  refine ⟨fun a b => b = a ∧ ∃ a', VR R a a', ⟨rfl, v', h⟩, fun a b q => ?_⟩
  obtain ⟨rfl, a', q⟩ := q
  have o := q.out
  have xp : ∀ {x x' : Array Value}, XP (VR R) x x' → XP (fun a b => b = a ∧ ∃ a', VR R a a') x x := fun {x x'} hx => ⟨rfl, fun i u u' h1 h2 => by
    rw [h1] at h2; cases h2
    obtain ⟨w, _, hw⟩ := XR.at (show XR R x x' from hx) h1
    exact ⟨rfl, w, hw⟩⟩
  cases b with
  | pointer a =>
    rcases a with _ | a
    · exact .inl rfl
    obtain ⟨_, _, z⟩ := o; exact ⟨_, rfl, ar_idn z⟩
  | slice a l c => obtain ⟨_, _, z⟩ := o; exact ⟨_, rfl, oar_idn z⟩
  | map a => obtain ⟨_, _, z⟩ := o; exact ⟨_, rfl, onr_idn z⟩
  | chan a => exact ⟨_, rfl, rfl⟩
  | func f x y => obtain ⟨_, _, _, _, z, hx, hy⟩ := o; exact ⟨_, _, _, rfl, fnr_idn z, xp hx, xp hy⟩
  | iface t v => obtain ⟨u, _, z⟩ := o; exact ⟨_, rfl, rfl, u, z⟩
  | agg x => obtain ⟨_, _, hx⟩ := o; exact ⟨_, rfl, xp hx⟩
  | tuple x => obtain ⟨_, _, hx⟩ := o; exact ⟨_, rfl, xp hx⟩
  | _ => rfl
theorem xr_idn {x x' : Array Value} (h : XR R x x') : XR (idn R) x x := ⟨rfl, fun i u u' h1 h2 => by
  rw [h1] at h2; cases h2
  obtain ⟨w, _, hw⟩ := h.at h1
  exact vr_idn hw⟩
theorem xl_idn {l : Nat} {x x' : Array Value} (h : XL l (VR R) x x') : XL l (VR (idn R)) x x := ⟨Nat.le_refl _, fun i u u' hl h1 h2 => by
  rw [h1] at h2; cases h2
  obtain ⟨w, _, hw⟩ := h.at hl h1
  exact vr_idn hw⟩
theorem or_idn {l : Nat} {o o' : Obj} (h : OR R l o o') : OR (idn R) l o o := by
  cases o <;> cases o' <;> first
    | exact h.elim
    | exact ⟨⟨rfl, rfl, rfl, h.1.2.2.2⟩, xr_idn h.2.1, rfl, rfl, rfl, ⟨rfl, _, h.2.2.2.2.2.1⟩, h.2.2.2.2.2.2⟩
    | exact ⟨rfl, xl_idn h.2.1, fun _ a b => ⟨a, b⟩⟩
    | exact ⟨ar_idn h.1, rfl⟩
    | exact ⟨rfl, h.2⟩
theorem WR0.idn {v w : World} (h : WR0 R v w) : WR (idn R) v v :=
  ⟨fun b c b' q1 q2 => q1.1.symm.trans q2.1, fun b b' c' q1 q2 => q1.1.trans q2.1.symm, fun b b' q => by
    obtain ⟨rfl, x, hx⟩ := q
    exact ⟨(h.dom _ _ hx).1, (h.dom _ _ hx).1⟩, fun b b' o q ho => by
    obtain ⟨rfl, x, hx⟩ := q
    obtain ⟨o', _, h2⟩ := h.obj _ _ o hx ho
    exact ⟨o, ho, or_idn h2⟩, ⟨h.low.1, h.low.1.1⟩, fun b b' q _ => q.1, fun _ => rfl⟩
end
section
variable (P : Program) (fs gs : List Nat)
/-- A renaming over the functions fs and the globals gs. -/
def Rg (r : Nat → Nat → Prop) : Ren := ⟨r, fun f => f ∈ fs, P.globals.size, fun c => codeB P fs gs c = true, fun f => ∃ fn, P.funcs[f]? = some fn, fun _ => 0⟩
end
section
variable {P : Program} {fs gs : List Nat} {r r' : Nat → Nat → Prop}
theorem rg_good (hf : fs.all (funcB P fs gs) = true) (hg : ∀ g ∈ gs, r g g) : Good P (Rg P fs gs r) :=
  (good_of (S := fun b => r b b) hf hg).imp (fun _ q => ⟨q.1.2, rfl⟩) rfl rfl rfl rfl
theorem rg_le (h : ∀ a b, r a b → r' a b) : Le (Rg P fs gs r) (Rg P fs gs r') := ⟨h, fun _ => ⟨Iff.rfl, Iff.rfl⟩, rfl, fun _ => Iff.rfl, rfl⟩
theorem rg_of {R' : Ren} (h : Le (Rg P fs gs r) R') : R' = Rg P fs gs R'.rel := by
  obtain ⟨h1, h2, h3, h4, h5⟩ := h
  obtain ⟨rel, fns, low, ok, kn, lo⟩ := R'
  simp only at h1 h2 h3 h4 h5
  have e1 : fns = fun f => f ∈ fs := by funext f; exact propext (h2 f).1.symm
  have e2 : kn = fun f => ∃ fn, P.funcs[f]? = some fn := by funext f; exact propext (h2 f).2.symm
  have e3 : ok = fun c => codeB P fs gs c = true := by funext c; exact propext (h4 c).symm
  subst e1 e2 e3
  have h3' : low = P.globals.size := h3
  subst h3'
  have h5' : lo = fun _ => 0 := h5
  subst h5'
  rfl
theorem rg_item (hg : ∀ g ∈ gs, r g g) {x : Item} (h : itemB P fs gs x = true) : IR P (Rg P fs gs r) x x := by
  have h1 := item_of (S := fun b => r b b) hg h
  cases x with
  | code c => exact h1
  | inRegion ops l => exact ⟨h1.1, fun i hi o ho => OkOp.imp (R := R0 P fs gs (fun b => r b b)) (R' := Rg P fs gs r) (fun _ q => q) (fun g q => ⟨q.1.2, rfl⟩) (h1.2 i hi o ho)⟩
  | _ => cases h
/-- The piece has come to its end. -/
def DoneV (P : Program) (fs gs : List Nat) (r : Nat → Nat → Prop) (v w : World) (Q : Act → World → Prop) (fn : FuncId) (k : List Item) (D : List Deferred) (kd : CallKind) (rc : List Frame) (s : St) : Prop :=
  ∃ (r' : Nat → Nat → Prop) (v1 : World) (a : Act) (x' : Array Value), s.g = G (Sm.fF fn x' k D kd) rc ∧ Q a v1 ∧ XR (Rg P fs gs r') a.tmps x' ∧ WR0 (Rg P fs gs r') v1 s.w ∧ (∀ b b', r b b' → r' b b') ∧
    (∀ b b', r' b b' → r b b' ∨ (v.heap.size ≤ b ∧ w.heap.size ≤ b')) ∧ w.heap.size ≤ s.w.heap.size ∧ s.O = Seen (Rg P fs gs r') ∧ s.W = Open (Rg P fs gs r') v1
theorem Co.size {m : Bool} {Stop : St → Prop} {s : St} (h : Co P m Stop s) : Co P m (fun s' => Stop s' ∧ s.w.heap.size ≤ s'.w.heap.size) s := by
  have key : ∀ n, n ≤ s.w.heap.size → Co P m (fun s' => Stop s' ∧ n ≤ s'.w.heap.size) s := by
    refine Lfp.ind CoF.mono (C := fun s => ∀ n, n ≤ s.w.heap.size → Co P m (fun s' => Stop s' ∧ n ≤ s'.w.heap.size) s) (fun s q n hn => ?_) h
    refine Lfp.in CoF.mono ?_
    rcases q with q | ⟨q0, q⟩
    · exact .inl fun w1 hr => ⟨q w1 hr, Nat.le_trans hn hr.1⟩
    · refine .inr ⟨q0, fun w1 hr => ?_⟩
      obtain ⟨g2, w2, es, O2, W2, h1, h2, h3, _, h5⟩ := q w1 hr
      exact ⟨g2, w2, es, O2, W2, h1, h2, h3, h5 n (Nat.le_trans hn (Nat.le_trans hr.1 h2.size))⟩
  exact key _ (Nat.le_refl _)
theorem Co.imp {m : Bool} {Stop Stop' : St → Prop} (hi : ∀ s, Stop s → Stop' s) {s : St} (h : Co P m Stop s) : Co P m Stop' s := by
  refine Lfp.ind CoF.mono (C := fun s => Co P m Stop' s) (fun s q => Lfp.in CoF.mono ?_) h
  rcases q with q | ⟨q0, q⟩
  · exact .inl fun w1 hr => hi _ (q w1 hr)
  · refine .inr ⟨q0, fun w1 hr => ?_⟩
    obtain ⟨g2, w2, es, O2, W2, h1, h2, h3, _, h5⟩ := q w1 hr
    exact ⟨g2, w2, es, O2, W2, h1, h2, h3, h5⟩
theorem WR0.tap {R : Ren} {v w : World} (h : WR0 R v w) (τ : Nat → Question → Nat) : WR0 R (Sm.tap τ v) w := h.heap (v' := Sm.tap τ v) rfl
/-- A PIECE, FROM A VIEW. -/
theorem co_view (hz : Zs P) (hf : fs.all (funcB P fs gs) = true) (hg : ∀ g ∈ gs, r g g) {m : Bool} {fn : FuncId} (hin : ∃ f, P.funcs[fn]? = some f) {x : Item} (hx : itemB P fs gs x = true) {tm tm' : Array Value} {v w : World} (hw : WR0 (Rg P fs gs r) v w) (ht : XR (Rg P fs gs r) tm tm')
    {Q : Act → World → Prop} (H : ∀ τ, ∃ a' v', a'.defers = [] ∧ Q a' v' ∧ Steps P (lone (pf fn ⟨tm, []⟩ [x, mkI]) [dum] (tap τ v)) (lone (pf fn a' [mkI]) [dum] v')) (k : List Item) (D : List Deferred) (kd : CallKind) (hkd : kd ≠ .early) (rc : List Frame) :
    Co P m (DoneV P fs gs r v w Q fn k D kd rc) ⟨G (fF fn tm' (x :: k) D kd) rc, w, Seen (Rg P fs gs r), Open (Rg P fs gs r) v⟩ := by
  have hgd : Good P (Rg P fs gs r) := rg_good hf hg
  have hix : IR P (Rg P fs gs r) x x := rg_item hg hx
  have hix' : IR P (idn (Rg P fs gs r)) x x := rg_item (r := (idn (Rg P fs gs r)).rel) (fun g q => ⟨rfl, g, hg g q⟩) hx
  have h0 : Slf P (G (pf fn ⟨tm, []⟩ [x, mkI]) [dum]) v := ⟨idn (Rg P fs gs r), some ([mkI], [], .normal), hgd.idn, ⟨_, [], _, [], rfl, rfl, ⟨⟨rfl, hin⟩, xr_idn ht, isR_mk hix' _ _, rfl, ⟨rfl, .inl rfl⟩, ⟨⟨rfl, fun q => by cases q⟩, rfl⟩, trivial⟩, trivial, rfl⟩, hw.idn⟩
  have hlg := lg_of_piece hz (Q := fun _ => Q) h0 H
  have hco := co_of_mk hz (m := m) (R0 := Rg P fs gs r) (n0 := v.heap.size) (m0 := w.heap.size) (k := k) (D := D) (kd := kd) (rc := rc) hlg hgd (g' := G (fF fn tm' (x :: k) D kd) rc) (w := w)
    ⟨_, [], _, [], rfl, rfl, ⟨⟨rfl, hin⟩, ht, isR_mk hix _ _, rfl, ⟨rfl, .inl rfl⟩, ⟨⟨rfl, hkd⟩, rfl⟩, trivial⟩, trivial, rfl⟩ hw (Le.refl _) (fun _ _ q => .inl q) (Nat.le_refl _) (Nat.le_refl _)
  refine hco.size.imp fun s q => ?_
  obtain ⟨⟨R', v1, τ, τ0, a, x', e1, hq, hxr, hwr, hle, hnew, hO, hW⟩, hsz⟩ := q
  have e := rg_of hle
  refine ⟨R'.rel, tap τ v1, a, x', e1, hq, by rw [← e]; exact hxr, by rw [← e]; exact hwr.tap τ, hle.1, hnew, hsz, by rw [← e]; exact hO, ?_⟩
  rw [← e, hW]
  funext b
  rfl
end
section
variable {μ : Type} {P : Program} {Msg : World → (Nat → Prop) → Value → μ → Prop} {Fin : Value → World → Prop}
/-- Who may do less does well enough. -/
theorem MS.weaken {s : MP μ} (h : MS P Msg Fin (fun _ => False) s) {O W : Nat → Prop} (hO : ∀ b, s.O b → O b) (hW : ∀ b, s.W b → W b) (hs : ∀ b, W b → O b) : MS P Msg Fin (fun _ => False) { s with O := O, W := W } := by
  have key : ∀ O W : Nat → Prop, (∀ b, s.O b → O b) → (∀ b, s.W b → W b) → (∀ b, W b → O b) → MS P Msg Fin (fun _ => False) { s with O := O, W := W } := by
    refine Lfp.ind MSF.mono (C := fun s => ∀ O W : Nat → Prop, (∀ b, s.O b → O b) → (∀ b, s.W b → W b) → (∀ b, W b → O b) → MS P Msg Fin (fun _ => False) { s with O := O, W := W }) (fun s q O W hO hW hs => ?_) h
    have hl : ∀ {w1 : World}, Ry O s.w w1 → Ry s.O s.w w1 := fun q => ⟨q.1, fun b hb => q.2.1 b (hO b hb), q.2.2⟩
    rcases q with q | ⟨q0, q⟩
    · exact (q s.w (Ry.refl _ _)).elim
    · refine Lfp.in MSF.mono (.inr ⟨q0, ?_⟩)
      rcases q with q | q | ⟨c, out, z, q1, q2, q3, q4⟩ | ⟨q1, q⟩
      · refine .inl fun w1 hr => ?_
        obtain ⟨g2, w2, es, O2, W2, h1, h2, _, h3⟩ := q w1 (hl hr)
        refine ⟨g2, w2, es, fun b => O2 b ∨ O b, fun b => W2 b ∨ W b, h1, ⟨h2.size, fun b hb hw => h2.kept b hb fun z => hw (hW b z), h2.os, fun b hb => ?_, fun b hb => ?_, fun b hb => hb.imp (h2.sub b) (hs b), fun e he => (h2.evs e he).mono (fun _ => .inl) (fun _ => .inl)⟩, h3 _ _ (fun _ => .inl) (fun _ => .inl) fun b hb => hb.imp (h2.sub b) (hs b)⟩
        · rcases hb with hb | hb
          · exact (h2.newO b hb).imp (hO b) id
          · exact .inl hb
        · rcases hb with hb | hb
          · exact (h2.newW b hb).imp (hW b) id
          · exact .inl hb
      · refine .inr (.inl fun w1 hr => ?_)
        obtain ⟨g2, child, c, out, Oc, Wc, a1, a2, a3, a4, a5, a6, a7, a8, _, a9⟩ := q w1 (hl hr)
        exact ⟨g2, child, c, out, Oc, Wc, a1, hW _ a2, a3, a4, fun b hb => hO b (a5 b hb), fun b hb => ⟨hW b (a6 b hb).1, (a6 b hb).2⟩, a7, a8, a9 _ _ (fun b hb => ⟨hO b hb.1, hb.2⟩) (fun b hb => ⟨hW b hb.1, hb.2⟩) fun b hb => ⟨hs b hb.1, hb.2.1, fun z => hb.2.2 (a6 b z).2⟩⟩
      · refine .inr (.inr (.inl ⟨c, out, z, q1, fun w1 hr => q2 w1 (hl hr), fun o rest e w2 x Tr a b d => ?_, fun e w2 a => (q4 e w2 (hl a)).2 _ _ hO hW hs⟩))
        exact (q3 o rest e w2 x Tr (hl a) b fun b hb => ⟨fun z => (d b hb).1 (hO b z), (d b hb).2⟩).2 _ _ (fun b hb => hb.imp (hO b) id) hW fun b hb => .inl (hs b hb)
      · refine .inr (.inr (.inr ⟨q1, fun w1 hr => ?_⟩))
        obtain ⟨v, es, h1, h2, h3⟩ := q w1 (hl hr)
        exact ⟨v, es, h1, fun e he => (h2 e he).mono hO hW, h3⟩
  exact key O W hO hW hs
theorem WS.weaken {p : WP μ} (h : WS P Msg p) {O W : Nat → Prop} (hO : ∀ b, p.O b → O b) (hW : ∀ b, p.W b → W b) (hs : ∀ b, W b → O b) : WS P Msg { p with O := O, W := W } := by
  have key : ∀ O W : Nat → Prop, (∀ b, p.O b → O b) → (∀ b, p.W b → W b) → (∀ b, W b → O b) → WS P Msg { p with O := O, W := W } := by
    refine Lfp.ind WSF.mono (C := fun p => ∀ O W : Nat → Prop, (∀ b, p.O b → O b) → (∀ b, p.W b → W b) → (∀ b, W b → O b) → WS P Msg { p with O := O, W := W }) (fun p q O W hO hW hs => ?_) h
    have hl : ∀ {w1 : World}, Ry O p.w w1 → Ry p.O p.w w1 := fun q => ⟨q.1, fun b hb => q.2.1 b (hO b hb), q.2.2⟩
    refine Lfp.in WSF.mono ?_
    rcases q with ⟨q0, q1, q2, q⟩ | ⟨q0, o, rest, Tr, q1, q2, q⟩ | ⟨q0, q1, q⟩
    · refine .inl ⟨q0, q1, q2, ?_⟩
      rcases q with q | q | ⟨q3, q4, q⟩
      · refine .inl fun w1 hr => ?_
        obtain ⟨g2, w2, es, O2, W2, h1, h2, e1, e2, _, h3⟩ := q w1 (hl hr)
        refine ⟨g2, w2, es, fun b => O2 b ∨ O b, fun b => W2 b ∨ W b, h1, ⟨h2.size, fun b hb hw => h2.kept b hb fun z => hw (hW b z), h2.os, fun b hb => ?_, fun b hb => ?_, fun b hb => hb.imp (h2.sub b) (hs b), fun e he => (h2.evs e he).mono (fun _ => .inl) (fun _ => .inl)⟩, e1, e2, h3 _ _ (fun _ => .inl) (fun _ => .inl) fun b hb => hb.imp (h2.sub b) (hs b)⟩
        · rcases hb with hb | hb
          · exact (h2.newO b hb).imp (hO b) id
          · exact .inl hb
        · rcases hb with hb | hb
          · exact (h2.newW b hb).imp (hW b) id
          · exact .inl hb
      · refine .inr (.inl fun w1 hr => ?_)
        obtain ⟨g2, x, z, h1, _, h2⟩ := q w1 (hl hr)
        exact ⟨g2, x, z, h1, h2 O W hO hW hs⟩
      · refine .inr (.inr ⟨q3, q4, fun w1 s hr hc => ?_⟩)
        obtain ⟨g2, h1, h2, h3, h4, _⟩ := q w1 s (hl hr) hc
        exact ⟨g2, h1, h2, h3, h4⟩
    · refine .inr (.inl ⟨q0, o, rest, Tr, q1, fun b hb => hW b (q2 b hb), fun w1 hr => ?_⟩)
      obtain ⟨h1, _, h2⟩ := q w1 (hl hr)
      exact ⟨h1, h2 _ _ hO (fun b hb => ⟨hW b hb.1, hb.2⟩) fun b hb => hs b hb.1⟩
    · refine .inr (.inr ⟨q0, q1, ?_⟩)
      rcases q with q | ⟨q2, g2, q3, q4, _, q5⟩
      · exact .inl q
      · exact .inr ⟨q2, g2, q3, q4, q5 O W hO hW hs⟩
  exact key O W hO hW hs
end
end Go.Proofs.YtfbdgdphpdhcpaaDoor.Sm
