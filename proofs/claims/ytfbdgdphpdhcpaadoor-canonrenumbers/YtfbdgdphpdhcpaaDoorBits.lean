/-
  A piece of code carried into company: what runs alone from its beginning to its end does so among others, whatever is to be done behind it. Condition: Zs.
  The moves of control in a script: they look at no world. No condition.
  The zeros of a program's types name no block: a look at the types that are listed. No condition.
  Plain facts on int's bit operations at numbers that are not negative, and on sets as numbers. No condition. No Go text here.
-/
import Derived.Test.YtfbdgdphpdhcpaaDoorNetO
import Derived.Laws.BitsAllLaws
import Derived.WalkKit
namespace Go.Proofs.YtfbdgdphpdhcpaaDoor.Sm
open Go Go.Conc

def mkI : Item := .code (.refuse "")
/-- A frame of function fn within a piece. -/
def pf (fn : FuncId) (a : Act) (todo : List Item) : Frame := { fn := fn, tmps := a.tmps, todo := todo, defers := a.defers, mode := .run, kind := .normal }
def MStop (fn : FuncId) (Q : (Nat → Question → Nat) → Act → World → Prop) (g : Goroutine) (v : World) : Prop :=
  ∃ (a : Act) (τ τ0 : Nat → Question → Nat), a.defers = [] ∧ g = G (pf fn a [mkI]) [dum] ∧ Q τ0 a (tap τ v)
section
variable {P : Program}
theorem MStop.end {fn : FuncId} {Q : (Nat → Question → Nat) → Act → World → Prop} {g : Goroutine} {v : World} (h : MStop fn Q g v) : AtEnd' g := by
  obtain ⟨a, τ, τ0, _, e, _⟩ := h
  exact .inr ⟨_, e, rfl, "", rfl⟩
theorem lg_of_piece (hz : Zs P) {fn : FuncId} {Q : (Nat → Question → Nat) → Act → World → Prop} {a : Act} {l : List Item} {v : World} (h0 : Slf P (G (pf fn a l) [dum]) v)
    (H : ∀ τ, ∃ a' v', a'.defers = [] ∧ Q τ a' v' ∧ Steps P (lone (pf fn a l) [dum] (tap τ v)) (lone (pf fn a' [mkI]) [dum] v')) : LG P true (MStop fn Q) (G (pf fn a l) [dum]) v := by
  refine bar hz (fun g v h => h.end) (fun g v τ h => ?_) h0 fun τ => ?_
  · obtain ⟨a, τ', τ0, x, y, z⟩ := h
    exact ⟨a, τ', τ0, x, y, z⟩
  · obtain ⟨a', v', hd, hq, n, hn⟩ := H τ
    obtain ⟨g1, v1, e1, e2⟩ := run_on hz n _ _ (.inl (h0.tap τ)) _ hn
    have e3 : g1 = G (pf fn a' [mkI]) [dum] ∧ v1 = v' := by
      have : lone (pf fn a' [mkI]) [dum] v' = mach g1 v1 := e1
      unfold lone mach at this
      simp only [Machine.mk.injEq, Array.mk.injEq, List.cons.injEq, and_true] at this
      exact ⟨this.2.symm, this.1.symm⟩
    obtain ⟨rfl, rfl⟩ := e3
    exact ⟨n, _, v1, e2, a', v1.tape, τ, hd, rfl, hq⟩
theorem not_pan {Stop : Goroutine → World → Prop} (hS : ∀ g v, Stop g v → AtEnd' g) {g : Goroutine} {v : World} (h : LG P true Stop g v) : ¬ PanX P g v := by
  refine Lfp.ind (C := fun p : Goroutine × World => ¬ PanX P p.1 p.2) LGF.mono (fun p hp hx => ?_) h
  rcases hp with hs | hs
  · obtain ⟨fr, e, hm⟩ := (hS _ _ hs).form
    rcases hx with ⟨fr', cs, chain, e', hm', _⟩ | ⟨chain, e'⟩
    · rw [e] at e'
      injection e' with e1 e2
      subst e1
      exact hm _ hm'
    · rw [e] at e'
      injection e' with e1 e2
      cases e2
  · obtain ⟨g1, v1, es, h1, _, h3⟩ := hs p.2.tape
    exact h3 (pan_next hx h1)
theorem not_refuse {Stop : Goroutine → World → Prop} (hS : ∀ g v, Stop g v → AtEnd' g) {fr : Frame} {v : World} (h : LG P true Stop (G fr []) v) (h3 : fr.todo = [.code (.refuse "")]) (h4 : fr.mode = .run) : False := by
  rcases Lfp.out LGF.mono h with hs | hs
  · obtain ⟨fr', e, _⟩ := (hS _ _ hs).form
    injection e with e1 e2
    cases e2
  · obtain ⟨g1, v1, es, h1, _⟩ := hs v.tape
    rw [refuse_ends h3 h4] at h1
    cases h1
/-- The piece has come to its end. -/
def DoneP (R0 : Ren) (n0 m0 : Nat) (Q : (Nat → Question → Nat) → Act → World → Prop) (fn : FuncId) (k : List Item) (D : List Deferred) (kd : CallKind) (rc : List Frame) (s : St) : Prop :=
  ∃ (R' : Ren) (v1 : World) (τ τ0 : Nat → Question → Nat) (a : Act) (x' : Array Value), s.g = G { fn := fn, tmps := x', todo := k, defers := D, mode := .run, kind := kd } rc ∧ Q τ0 a (tap τ v1) ∧ XR R' a.tmps x' ∧ WR0 R' v1 s.w ∧ Le R0 R' ∧
    (∀ b b', R'.rel b b' → R0.rel b b' ∨ (n0 ≤ b ∧ m0 ≤ b')) ∧ s.O = Seen R' ∧ s.W = Open R' v1
theorem co_of_mk (hz : Zs P) {m : Bool} {fn : FuncId} {Q : (Nat → Question → Nat) → Act → World → Prop} {R0 : Ren} {n0 m0 : Nat} {k : List Item} {D : List Deferred} {kd : CallKind} {rc : List Frame} {g : Goroutine} {v : World} (hl : LG P true (MStop fn Q) g v) :
    ∀ {R : Ren} {g' : Goroutine} {w : World}, Good P R → GR P R (some (k, D, kd)) [dum] rc g g' → WR0 R v w → Le R0 R → (∀ b b', R.rel b b' → R0.rel b b' ∨ (n0 ≤ b ∧ m0 ≤ b')) → n0 ≤ v.heap.size → m0 ≤ w.heap.size →
      Co P m (DoneP R0 n0 m0 Q fn k D kd rc) ⟨g', w, Seen R, Open R v⟩ := by
  refine Lfp.ind (C := fun p : Goroutine × World => ∀ {R : Ren} {g' : Goroutine} {w : World}, Good P R → GR P R (some (k, D, kd)) [dum] rc p.1 g' → WR0 R p.2 w → Le R0 R → (∀ b b', R.rel b b' → R0.rel b b' ∨ (n0 ≤ b ∧ m0 ≤ b')) → n0 ≤ p.2.heap.size → m0 ≤ w.heap.size →
      Co P m (DoneP R0 n0 m0 Q fn k D kd rc) ⟨g', w, Seen R, Open R p.2⟩) LGF.mono (fun p hp => ?_) hl
  obtain ⟨g, v⟩ := p
  intro R g' w hg hG hw hle hnew hn hm
  have hn' : n0 ≤ v.heap.size := hn
  clear hn
  refine Lfp.in CoF.mono ?_
  have hnew' : ∀ {R' : Ren} {v' w1 w' : World} {es : Array Event} {τ : Nat → Question → Nat}, Gu R R' (tap τ v) v' w1 w' es → w.heap.size ≤ w1.heap.size → ∀ b b', R'.rel b b' → R0.rel b b' ∨ (n0 ≤ b ∧ m0 ≤ b') := fun {R' v' w1 w' es τ} hgu hsz b b' q => by
    rcases hgu.new b b' q with z | z
    · exact hnew b b' z
    · have z1 : v.heap.size ≤ b := z.1
      exact .inr ⟨by omega, by omega⟩
  rcases hp with hs | hs
  · -- the end
    obtain ⟨a, τ, τ0, hd, e, hq⟩ := hs
    obtain ⟨fr1, cs, fr', cs', e1, rfl, hf, hc, hb⟩ := hG
    simp only at e e1
    rw [e] at e1
    injection e1 with e2 e3
    subst e2
    have hcs : cs = [] := cs_nil e3.symm
    subst hcs
    cases cs' with
    | cons a l => exact hc.elim
    | nil =>
      have htd : fr'.todo = k := by
        have h1 := hf.td
        cases ht : fr'.todo with
        | nil =>
          rw [ht] at h1
          obtain ⟨⟨D', e⟩, _⟩ := h1
          have : some (k, D, kd) = some ([], D') := e
          cases this; rfl
        | cons x l =>
          rw [ht] at h1
          rcases h1 with h1 | ⟨⟨D', e⟩, _⟩
          · exfalso
            have h2 := h1.1
            cases x with
            | code c =>
              obtain ⟨rfl, h3⟩ := h2
              exact hg.code _ h3
            | _ => exact h2.elim
          · have : some (k, D, kd) = some (x :: l, D') := e
            cases this; rfl
      have hdf : fr'.defers = D := by
        have h1 := hf.df
        have e : (pf fn a [mkI]).defers = [] := hd
        rw [e] at h1
        exact h1
      have hmd : fr'.mode = .run := hf.md.1
      have hkd : fr'.kind = kd := hf.kd.1.1
      have hfn : fr'.fn = fn := hf.fn.1
      have hro : fr'.roundOf = none := by
        have h1 := hf.ro
        have e : (pf fn a [mkI]).roundOf = none := rfl
        rw [e] at h1
        cases h : fr'.roundOf with
        | none => rfl
        | some l => rw [h] at h1; exact h1.elim
      refine .inl fun w1 hr => ⟨R, v, τ, τ0, a, fr'.tmps, ?_, hq, hf.tm, hw.rely hr, hle, hnew, rfl, rfl⟩
      show G fr' ([] ++ rc) = _
      obtain ⟨f1, f2, f3, f4, f5, f6, f7⟩ := fr'
      simp only at htd hdf hmd hkd hfn hro
      subst htd hdf hmd hkd hfn hro
      rfl
  · -- it goes on
    have hnr : ∀ fr, g = G fr [dum] → fr.mode = .returning → fr.defers ≠ [] := fun fr q1 q2 q3 => by
      obtain ⟨g1, v1, es, h1, h2, _⟩ := hs v.tape
      obtain ⟨fr2, rfl, h3, h4⟩ := ret_next ⟨fr, q1, q2, q3⟩ h1
      exact not_refuse (fun g v h => h.end) h2 h3 h4
    have hrun : g'.status = .running := by
      obtain ⟨_, _, _, _, _, rfl, _⟩ := hG
      rfl
    refine .inr ⟨hrun, fun w1 hr => ?_⟩
    have hw1 := hw.rely hr
    obtain ⟨g1, v1, es, h1, h2, h3⟩ := hs (syn v w1)
    rcases sim_step (m' := m) hz hg hG hw1.wr h1 hnr with q | ⟨R', g1', w2, es', e, hG', hgu⟩
    · exact absurd (.inl q) (not_pan (fun g v h => h.end) h2)
    · refine ⟨g1', w2, es', Seen R', Open R' v1, e, hgu.gd, (by obtain ⟨_, _, _, _, _, rfl, _⟩ := hG'; exact ⟨rfl, rfl⟩), ?_⟩
      refine h3 (hg.mono hgu.le) hG' hgu.wr.zero (hle.trans hgu.le) (hnew' hgu hr.1) ?_ ?_
      · have : v.heap.size ≤ v1.heap.size := by
          rcases Nat.lt_or_ge v1.heap.size v.heap.size with z | z
          · obtain ⟨o', q, _⟩ := hgu.shut v1.heap.size _ (Array.getElem?_eq_getElem z)
            rw [Array.getElem?_eq_none (Nat.le_refl _)] at q; cases q
          · exact z
        show n0 ≤ v1.heap.size
        omega
      · have h5 : w.heap.size ≤ w1.heap.size := hr.1
        have := hgu.size
        show m0 ≤ w2.heap.size
        have hm : m0 ≤ w.heap.size := hm
        omega
end
section
variable {P : Program} {fs gs : List Nat} {S : Nat → Prop}
/-- What a piece begins with. -/
def itemB (P : Program) (fs gs : List Nat) : Item → Bool
  | .code c => codeB P fs gs c
  | .inRegion ops l => l.all fun i => match ops[i]? with
    | some o => opB P fs gs o.op
    | none => true
  | _ => false
theorem item_of (hg : ∀ g ∈ gs, S g) {x : Item} (h : itemB P fs gs x = true) : IR P (R0 P fs gs S) x x := by
  cases x with
  | code c => exact ⟨rfl, h⟩
  | inRegion ops l =>
    refine ⟨⟨rfl, rfl⟩, fun i hi o ho => okop_of hg ?_⟩
    have h1 := List.all_eq_true.1 h i hi
    rw [ho] at h1
    exact h1
  | _ => cases h
theorem isR_mk {R : Ren} {x : Item} (hx : IR P R x x) (k : List Item) (D : List Deferred × CallKind) : IsR P R (some (k, D)) [x, mkI] (x :: k) := by
  refine .inl ⟨hx, ?_⟩
  cases k with
  | nil => exact ⟨⟨D, rfl⟩, "", rfl⟩
  | cons y k => exact .inr ⟨⟨D, rfl⟩, "", rfl⟩
/-- A contract of a piece, as the lone walk gives it. -/
theorem piece_of_wp {fn : FuncId} {c : Code} {tm : Array Value} {v : World} {Q : Act → World → Prop} (h : c.wp P (fun e a w => e = .normal ∧ a.defers = [] ∧ Q a w) ⟨tm, []⟩ v) :
    ∃ a' v', a'.defers = [] ∧ Q a' v' ∧ Steps P (lone (pf fn ⟨tm, []⟩ [.code c, mkI]) [dum] v) (lone (pf fn a' [mkI]) [dum] v') := by
  obtain ⟨e, a', w', ⟨rfl, hd, hq⟩, har⟩ := h (pf fn ⟨tm, []⟩ []) [mkI] [dum]
  exact ⟨a', w', hd, hq, har⟩
end
end Go.Proofs.YtfbdgdphpdhcpaaDoor.Sm
namespace Go.Proofs.YtfbdgdphpdhcpaaDoor.Sm
open Go Go.Conc

/-- A frame that runs. -/
def fF (fn : FuncId) (tm : Array Value) (k : List Item) (D : List Deferred) (kd : CallKind) : Frame := { fn := fn, tmps := tm, todo := k, defers := D, mode := .run, kind := kd }
/-- One move: the world is not looked at. -/
def Mv (P : Program) (m : Bool) (f f' : Frame) : Prop := ∀ cs w, stepG P m (G f cs) w = .go (G f' cs) w #[]
section
variable {P : Program} {m : Bool} {fn : FuncId} {tm : Array Value} {k : List Item} {D : List Deferred} {kd : CallKind}
theorem mv_seq (x y : Code) : Mv P m (fF fn tm (.code (.seq x y) :: k) D kd) (fF fn tm (.code x :: .code y :: k) D kd) := fun _ _ => rfl
theorem mv_skip : Mv P m (fF fn tm (.code .skip :: k) D kd) (fF fn tm k D kd) := fun _ _ => rfl
theorem mv_block (i : Nat) (x : Code) : Mv P m (fF fn tm (.code (.block i x) :: k) D kd) (fF fn tm (.code x :: .inBlock i :: k) D kd) := fun _ _ => rfl
theorem mv_inBlock (i : Nat) : Mv P m (fF fn tm (.inBlock i :: k) D kd) (fF fn tm k D kd) := fun _ _ => rfl
theorem mv_loop (x : Code) : Mv P m (fF fn tm (.code (.loop x) :: k) D kd) (fF fn tm (.code x :: .inLoop x :: k) D kd) := fun _ _ => rfl
theorem mv_inLoop (x : Code) : Mv P m (fF fn tm (.inLoop x :: k) D kd) (fF fn tm (.code x :: .inLoop x :: k) D kd) := fun _ _ => rfl
theorem mv_cond {c : Operand} {x y : Code} {b : Bool} (h : (fF fn tm [] D kd).eval c = .bool b) : Mv P m (fF fn tm (.code (.cond c x y) :: k) D kd) (fF fn tm (.code (if b then x else y) :: k) D kd) := fun cs w => by
  have h' : (fF fn tm (.code (.cond c x y) :: k) D kd).eval c = .bool b := by
    rw [← h]; cases c <;> rfl
  show stepG.exec P m true (fF fn tm (.code (.cond c x y) :: k) D kd) cs none w = _
  unfold stepG.exec
  simp only [fF] at h' ⊢
  simp only [h']
  rfl
theorem mv_exit {i : Nat} {k' : List Item} (h : exitTo i k = some k') : Mv P m (fF fn tm (.code (.exit i) :: k) D kd) (fF fn tm k' D kd) := fun cs w => by
  show stepG.exec P m true (fF fn tm (.code (.exit i) :: k) D kd) cs none w = _
  unfold stepG.exec
  simp only [fF, h]
  rfl
theorem mv_region (i : Nat) (ops : Array Oper) : Mv P m (fF fn tm (.code (.region i ops false) :: k) D kd) (fF fn tm (.inRegion ops (List.range ops.size) :: k) D kd) := fun _ _ => rfl
theorem mv_done (ops : Array Oper) : Mv P m (fF fn tm (.inRegion ops [] :: k) D kd) (fF fn tm k D kd) := fun _ _ => rfl
end
section
variable {μ : Type} {P : Program} {Msg : World → (Nat → Prop) → Value → μ → Prop} {Fin : Value → World → Prop} {Stop' : MP μ → Prop}
theorem WS.mv {f f' : Frame} {cs : List Frame} {w : World} {O W : Nat → Prop} {c : Nat} {out : List μ} {x z : Value} (h : Mv P false f f') (hW : ∀ b, W b → O b) (hn : ∀ w1, Ry O w w1 → WS P Msg ⟨G f' cs, w1, O, W, c, out, 0, x, z⟩) : WS P Msg ⟨G f cs, w, O, W, c, out, 0, x, z⟩ :=
  WS.step rfl rfl rfl fun w1 hr => ⟨_, w1, #[], O, W, h cs w1, Gd.still hW, ⟨rfl, rfl⟩, hn w1 hr⟩
theorem MS.mv {f f' : Frame} {cs : List Frame} {w : World} {O W : Nat → Prop} {ch : Nat → Option (List μ)} (h : Mv P true f f') (hW : ∀ b, W b → O b) (hn : ∀ w1, Ry O w w1 → MS P Msg Fin Stop' ⟨G f' cs, w1, O, W, ch⟩) : MS P Msg Fin Stop' ⟨G f cs, w, O, W, ch⟩ :=
  MS.step rfl fun w1 hr => ⟨_, w1, #[], O, W, h cs w1, Gd.still hW, hn w1 hr⟩
/-- The others have had their way meanwhile. -/
theorem Ry.trans {O : Nat → Prop} {u v w : World} (h : Ry O u v) (h' : Ry O v w) : Ry O u w := ⟨Nat.le_trans h.1 h'.1, fun b hb => (h'.2.1 b hb).trans (h.2.1 b hb), h'.2.2.1.trans h.2.2.1, h'.2.2.2.trans h.2.2.2⟩
theorem Ry.cell {O : Nat → Prop} {u v : World} (h : Ry O u v) {p : Addr} (hp : O p.block) : v.cell? p = u.cell? p := by
  unfold World.cell?
  rw [h.2.1 _ hp]
theorem Ry.frozen {O : Nat → Prop} {u v : World} (h : Ry O u v) {p : Addr} (hp : O p.block) : v.frozen? p = u.frozen? p := by
  unfold World.frozen?
  rw [h.2.1 _ hp]
/-- Numbers that lie in the lone world lie in this one. -/
theorem XR.same {R : Ren} {x x' : Array Value} (h : XR R x x') {i : Nat} {k : IntKind} {n : Int} (hi : x[i]? = some (.int k n)) : x'[i]? = some (.int k n) := by
  obtain ⟨v', e, hv⟩ := h.at hi
  rw [e]
  have q := hv.out
  cases (show v' = _ from q)
  rfl
theorem XL.same {R : Ren} {l : Nat} {x x' : Array Value} (h : XL l (VR R) x x') {i : Nat} (hl : l ≤ i) {k : IntKind} {n : Int} (hi : x[i]? = some (.int k n)) : x'[i]? = some (.int k n) := by
  obtain ⟨v', e, hv⟩ := h.at hl hi
  rw [e]
  have q := hv.out
  cases (show v' = _ from q)
  rfl
theorem WR0.int {R : Ren} {v w : World} (h : WR0 R v w) {b b' : Nat} (hb : R.rel b b') {off : Nat} {k : IntKind} {n : Int} (hc : v.cell? ⟨b, off, none⟩ = some (.int k n)) : w.cell? ⟨b', off, none⟩ = some (.int k n) := by
  unfold World.cell? at hc ⊢
  cases ho : v.heap[b]? with
  | none => rw [ho] at hc; cases hc
  | some o =>
    rw [ho] at hc
    obtain ⟨o', e, hor⟩ := h.obj b b' o hb ho
    rw [e]
    cases o with
    | cells c t fr =>
      cases o' with
      | cells c' t' fr' => exact XL.same hor.2.1 (by rw [h.low.1.2]; exact Nat.zero_le _) hc
      | _ => exact hor.elim
    | _ => cases hc
end
end Go.Proofs.YtfbdgdphpdhcpaaDoor.Sm
namespace Go.Proofs.YtfbdgdphpdhcpaaDoor.Sm
open Go

def PZ (z : Value) : Prop := ∀ R : Ren, VR R z z
def PX (x : Array Value) : Prop := ∀ v ∈ x, PZ v
theorem PX.xr {x : Array Value} (h : PX x) (R : Ren) : XR R x x := XR.refl_of fun _ v hi => h v (Array.mem_of_getElem? hi) R
theorem PZ.agg {x : Array Value} (h : PX x) : PZ (.agg x) := fun R => VR.agg (h.xr R)
theorem PX.nil : PX #[] := fun v h => by simp at h
theorem PX.append {x y : Array Value} (h : PX x) (h' : PX y) : PX (x ++ y) := fun v hv => (Array.mem_append.1 hv).elim (h v) (h' v)
theorem PZ.cells {z : Value} (h : PZ z) : PX z.cells := by
  intro v hv R
  obtain ⟨i, hi, rfl⟩ := Array.mem_iff_getElem.1 hv
  have := (h R).cells
  exact this.2 i _ _ (Array.getElem?_eq_getElem hi) (Array.getElem?_eq_getElem hi)
theorem list_inv {α β : Type} {f : α → β → Option (ForInStep β)} {Inv : β → Prop} (hf : ∀ a s r, f a s = some r → Inv s → Inv r.value) : ∀ (l : List α) (s s' : β), forIn l s f = some s' → Inv s → Inv s' := by
  intro l
  induction l with
  | nil => intro s s' h hi; simp at h; subst h; exact hi
  | cons a l ih =>
    intro s s' h hi
    rw [List.forIn_cons] at h
    cases e : f a s with
    | none => rw [e] at h; cases h
    | some r =>
      rw [e] at h
      have hr := hf a s r e hi
      cases r with
      | done b => cases h; exact hr
      | yield b => exact ih b s' h hr
theorem array_inv {α β : Type} {f : α → β → Option (ForInStep β)} {Inv : β → Prop} (hf : ∀ a s r, f a s = some r → Inv s → Inv r.value) (l : Array α) (s s' : β) (h : forIn l s f = some s') (hi : Inv s) : Inv s' := by
  rw [← Array.forIn_toList] at h
  exact list_inv hf l.toList s s' h hi
def OZ (o : Option Value) : Prop := ∀ z, o = some z → PZ z
def OX (o : Option (Array Value)) : Prop := ∀ z, o = some z → PX z
theorem struct_zero {info : TypeId → Option TypeInfo} (h : ∀ t i, info t = some i → OZ i.zero) (fs : Array Field) (i : TypeInfo) (e : Made.reckonStruct info fs = some i) : OZ i.zero := by
  unfold Made.reckonStruct at e
  simp only [bind, Option.bind_eq_some_iff] at e
  obtain ⟨s, hs, e⟩ := e
  have key := array_inv (Inv := fun s : Array Field × Nat × Nat × Nat × Nat × Bool × Bool × Option (Array Value) × String => OX s.2.2.2.2.2.2.2.1) (fun f s r hr hi => ?_) fs _ s hs (fun z hz => by cases hz; exact PX.nil)
  · have hzero : OZ (s.2.2.2.2.2.2.2.1.map .agg) := fun z hz => by
      cases e' : s.2.2.2.2.2.2.2.1 with
      | none => rw [e'] at hz; cases hz
      | some x => rw [e'] at hz; cases hz; exact PZ.agg (key x e')
    split at e <;> (cases e; exact hzero)
  · obtain ⟨i, hinfo, hr⟩ := Option.bind_eq_some_iff.1 hr
    have hz := h _ _ hinfo
    have hZ : OX (if s.2.1 + i.size > Made.mostCells then none else s.2.2.2.2.2.2.2.1.bind fun a => i.zero.bind fun b => pure (a ++ b.cells)) := by
      intro z hz'
      split at hz'
      · cases hz'
      · obtain ⟨a, ha, hz'⟩ := Option.bind_eq_some_iff.1 hz'
        obtain ⟨b, hb, hz'⟩ := Option.bind_eq_some_iff.1 hz'
        cases hz'
        exact (hi a ha).append (hz b hb).cells
    by_cases a1 : i.str.isEmpty = true
    · rw [if_pos a1] at hr; cases hr
    rw [if_neg a1] at hr
    by_cases a2 : f.embedded = true
    · rw [if_pos a2] at hr; cases hr
    rw [if_neg a2] at hr
    by_cases a3 : f.tag.isEmpty = true
    · rw [if_pos a3] at hr
      by_cases a4 : i.bytes = 0
      · simp only [pure, Option.bind_some, if_pos a4] at hr
        cases hr; exact hZ
      · simp only [pure, Option.bind_some, if_neg a4] at hr
        cases hr; exact hZ
    · rw [if_neg a3] at hr
      obtain ⟨tag, _, hr⟩ := Option.bind_eq_some_iff.1 hr
      by_cases a4 : i.bytes = 0
      · rw [if_pos a4] at hr; cases hr; exact hZ
      · rw [if_neg a4] at hr; cases hr; exact hZ
theorem flat_px {l : Array Value} (h : PX l) (n : Nat) : PX (Array.replicate n l).flatten := by
  intro v hv
  obtain ⟨x, hx, hv⟩ := Array.mem_flatten.1 hv
  obtain ⟨_, e⟩ := Array.mem_replicate.1 hx
  exact h v (by rw [← e]; exact hv)
theorem PZ.none_ptr : PZ (.pointer none) := fun _ => VR.pointer (a := none) (a' := none) trivial
theorem reckon_zero {info : TypeId → Option TypeInfo} (h : ∀ t i, info t = some i → OZ i.zero) (d : TypeDesc) (i : TypeInfo) (e : Made.reckon info d = some i) : OZ i.zero := by
  have hw : ∀ (d : TypeDesc) (s : String) (z : Value) (c : Bool) (b : Nat), PZ z → OZ (Made.word d s z c b).zero := fun d s z c b hz y hy => by
    have : some z = some y := hy
    cases this; exact hz
  unfold Made.reckon at e
  cases d with
  | pointer t =>
    simp only [bind, Option.bind_eq_some_iff] at e
    obtain ⟨j, _, e⟩ := e
    split at e
    · cases e
    · split at e
      · cases e
      · obtain ⟨s, _, e⟩ := Option.bind_eq_some_iff.1 e
        cases e
        exact hw _ _ _ _ _ PZ.none_ptr
    · obtain ⟨s, _, e⟩ := Option.bind_eq_some_iff.1 e
      cases e
      exact hw _ _ _ _ _ PZ.none_ptr
  | slice t =>
    simp only [bind, Option.bind_eq_some_iff] at e
    obtain ⟨j, _, s, _, e⟩ := e
    cases e
    exact hw _ _ _ _ _ fun _ => VR.slice (a := none) (a' := none) trivial _ _
  | map k t =>
    simp only [bind, Option.bind_eq_some_iff] at e
    obtain ⟨j, _, s, _, j2, _, s2, _, e⟩ := e
    cases e
    exact hw _ _ _ _ _ fun _ => VR.map (a := none) (a' := none) trivial
  | chan dir t =>
    simp only [bind, Option.bind_eq_some_iff] at e
    obtain ⟨j, _, s, _, e⟩ := e
    cases e
    exact hw _ _ _ _ _ fun R => VR.chan R none
  | func ps rs v =>
    simp only [bind, Option.bind_eq_some_iff] at e
    obtain ⟨s, _, e⟩ := e
    cases e
    exact hw _ _ _ _ _ fun R => VR.nilFunc R
  | array n t =>
    simp only [bind, Option.bind_eq_some_iff] at e
    obtain ⟨j, hj, s, _, e⟩ := e
    cases e
    intro z hz
    simp only at hz
    split at hz
    · cases hz
    · split at hz
      · cases hz; exact PZ.agg PX.nil
      · cases e2 : j.zero with
        | none => rw [e2] at hz; cases hz
        | some y =>
          rw [e2] at hz
          cases hz
          exact PZ.agg (flat_px (h _ _ hj y e2).cells n)
  | struct fs => exact struct_zero h fs i e
  | _ => cases e
def tyB (i : TypeInfo) : Bool := match i.zero with
  | some z => pureV 6 z
  | none => true
theorem info_zero (P : Program) (hp : P.types.all tyB = true) : Zs P := by
  have hold : ∀ (t : TypeId) (i : TypeInfo), P.types[t]? = some i → OZ i.zero := fun t i h z hz R => by
    obtain ⟨ht, rfl⟩ := Array.getElem?_eq_some_iff.1 h
    have h1 := Array.all_eq_true.1 hp t ht
    unfold tyB at h1
    rw [hz] at h1
    exact vr_pure 6 z h1 R
  have key : ∀ (n : Nat) (t : TypeId) (i : TypeInfo), Made.infoAt P.toTables n t = some i → OZ i.zero := by
    intro n
    induction n with
    | zero => intro t i h; cases h
    | succ n ih =>
      intro t i h
      unfold Made.infoAt at h
      split at h
      · exact hold t i h
      · obtain ⟨d, _, h⟩ := Option.bind_eq_some_iff.1 h
        exact reckon_zero ih d i h
  intro t i z h hz
  have h : (if t < P.types.size then P.types[t]? else Made.infoAt P.toTables Made.depth t) = some i := h
  split at h
  · exact hold t i h z hz
  · exact key _ t i h z hz
end Go.Proofs.YtfbdgdphpdhcpaaDoor.Sm
namespace Go.Proofs.YtfbdgdphpdhcpaaDoor
open Go.RowKit

theorem wrap_i64_small (n : Int) (h0 : 0 ≤ n) (h1 : n < 9223372036854775808) : IntKind.i64.wrap n = n := by
  simp [IntKind.wrap, IntKind.bits, IntKind.signed]; omega

theorem i64_and (a b : Nat) (ha : a < 9223372036854775808) (hb : b < 9223372036854775808) : bits .and .i64 (a : Int) (b : Int) = ((a &&& b : Nat) : Int) := by
  have hx : a &&& b < 2 ^ 63 := Nat.and_lt_two_pow _ (by omega)
  show IntKind.i64.wrap ((BitVec.ofInt 64 (a : Int) &&& BitVec.ofInt 64 (b : Int)).toNat : Int) = _
  rw [BitVec.toNat_and, ofInt_u64 a (by omega), ofInt_u64 b (by omega), wrap_i64_small _ (by omega) (by omega)]
theorem i64_or (a b : Nat) (ha : a < 9223372036854775808) (hb : b < 9223372036854775808) : bits .or .i64 (a : Int) (b : Int) = ((a ||| b : Nat) : Int) := by
  have hx : a ||| b < 2 ^ 63 := Nat.or_lt_two_pow (by omega) (by omega)
  show IntKind.i64.wrap ((BitVec.ofInt 64 (a : Int) ||| BitVec.ofInt 64 (b : Int)).toNat : Int) = _
  rw [BitVec.toNat_or, ofInt_u64 a (by omega), ofInt_u64 b (by omega), wrap_i64_small _ (by omega) (by omega)]

/-- What a has and b has not. -/
def lack (a b : Nat) : Nat := a &&& (18446744073709551615 - b)
theorem lack_le (a b : Nat) : lack a b ≤ a := Nat.and_le_left
theorem i64_andNot (a b : Nat) (ha : a < 9223372036854775808) (hb : b < 9223372036854775808) : bits .andNot .i64 (a : Int) (b : Int) = ((lack a b : Nat) : Int) := by
  have hx : lack a b < 9223372036854775808 := by have := lack_le a b; omega
  show IntKind.i64.wrap ((BitVec.ofInt 64 (a : Int) &&& ~~~BitVec.ofInt 64 (b : Int)).toNat : Int) = _
  rw [BitVec.toNat_and, BitVec.toNat_not, ofInt_u64 a (by omega), ofInt_u64 b (by omega)]
  have e : 2 ^ 64 - 1 - b = 18446744073709551615 - b := by omega
  rw [e]
  exact wrap_i64_small _ (by omega) (by unfold lack at hx; omega)
theorem lack_bit (a b i : Nat) (ha : a < 18446744073709551616) (hb : b < 18446744073709551616) : (lack a b).testBit i = (a.testBit i && !b.testBit i) := by
  unfold lack
  rw [Nat.testBit_and]
  have e : (18446744073709551615 - b) = 2 ^ 64 - (b + 1) := by omega
  rw [e, Nat.testBit_two_pow_sub_succ (by omega)]
  by_cases h : i < 64
  · simp [h]
  · have : a.testBit i = false := Nat.testBit_lt_two_pow (Nat.lt_of_lt_of_le ha (by
      have : (18446744073709551616 : Nat) = 2 ^ 64 := by decide
      rw [this]; exact Nat.pow_le_pow_right (by decide) (by omega)))
    simp [this]
theorem lack_zero (a b : Nat) (ha : a < 18446744073709551616) (hb : b < 18446744073709551616) : lack a b = 0 ↔ ∀ i, a.testBit i = true → b.testBit i = true := by
  constructor
  · intro h i hi
    have := lack_bit a b i ha hb
    rw [h] at this
    simp [hi] at this
    exact this
  · intro h
    apply Nat.eq_of_testBit_eq
    intro i
    rw [lack_bit a b i ha hb]
    cases hi : a.testBit i
    · simp
    · simp [h i hi]

theorem bit_and_one (s p : Nat) (hs : s < 9223372036854775808) : (bits .and .i64 ((s : Int) / 2 ^ p) 1 == 1) = s.testBit p := by
  have e : ((s : Int) / 2 ^ p) = ((s / 2 ^ p : Nat) : Int) := by simp
  have hlt : s / 2 ^ p < 9223372036854775808 := Nat.lt_of_le_of_lt (Nat.div_le_self _ _) hs
  rw [e]
  have := i64_and (s / 2 ^ p) 1 hlt (by decide)
  rw [show (1 : Int) = ((1 : Nat) : Int) from rfl, this, Nat.and_one_is_mod]
  rw [Nat.testBit_eq_decide_div_mod_eq]
  by_cases h : s / 2 ^ p % 2 = 1 <;> simp [h] <;> omega
theorem pow_small (n : Nat) (h : n < 62) : (2 : Nat) ^ n < 4611686018427387904 := by
  have : (4611686018427387904 : Nat) = 2 ^ 62 := by decide
  rw [this]; exact Nat.pow_lt_pow_right (by decide) h
/-- Two to the n, behind a name. -/
def pw (n : Nat) : Nat := 2 ^ n
theorem pw_small (n : Nat) (h : n < 62) : pw n < 4611686018427387904 := pow_small n h
theorem pw_le (n : Nat) (h : n ≤ 10) : pw n ≤ 1024 := Nat.le_trans (Nat.pow_le_pow_right (by decide) h) (by decide)
theorem pw_pos (n : Nat) : 0 < pw n := Nat.two_pow_pos n
theorem pw_succ (n : Nat) : pw (n + 1) = 2 * pw n := by unfold pw; rw [Nat.pow_succ]; omega
theorem wrap_pow (n : Nat) (h : n < 62) : wrap64 (2 ^ n) = ((pw n : Nat) : Int) := by
  have := pw_small n h
  rw [show ((2 : Int) ^ n) = ((pw n : Nat) : Int) by simp [pw]]
  generalize pw n = m at *
  exact IntWalk.wrap64_in _ ⟨by omega, by omega⟩
theorem bit_of_lt {s n p : Nat} (h : s < 2 ^ n) (hp : s.testBit p = true) : p < n := by
  rcases Nat.lt_or_ge p n with h1 | h1
  · exact h1
  · rw [Nat.testBit_lt_two_pow (Nat.lt_of_lt_of_le h (Nat.pow_le_pow_right (by decide) h1))] at hp
    cases hp
theorem upto_succ {P : Nat → Prop} {k : Nat} (h : ∀ u, u < k → P u) (hk : P k) : ∀ u, u < k + 1 → P u := by
  intro u hu
  rcases Nat.lt_or_ge u k with h1 | h1
  · exact h u h1
  · have e : u = k := by omega
    rw [e]; exact hk
theorem upto_zero {P : Nat → Prop} : ∀ u, u < 0 → P u := fun _ hu => absurd hu (Nat.not_lt_zero _)
theorem ret_int {k : IntKind} {a b : Int} (h : a = b) : Ending.returned (.int k a) = .returned (.int k b) := by rw [h]
theorem ret_bool {a b : Bool} (h : a = b) : Ending.returned (.bool a) = .returned (.bool b) := by rw [h]
end Go.Proofs.YtfbdgdphpdhcpaaDoor
