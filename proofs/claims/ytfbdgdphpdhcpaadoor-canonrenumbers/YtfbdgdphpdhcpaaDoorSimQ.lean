/-
  The library's small terms, block for block. No condition.
  Operations, block for block: those that read, make and write variables. Condition: what the program has for the zero of a type names no block (Zs).
  Operations, block for block: places in rows, slices, rows that are made, lengths, append. Condition: Zs.
-/
import Derived.Test.YtfbdgdphpdhcpaaDoorSimS
namespace Go.Proofs.YtfbdgdphpdhcpaaDoor.Sm
open Go

/-- What comes out is the same. -/
def EqA {α : Type} : Ren → α → α → Prop := fun _ a a' => a' = a
def VA : Ren → Value → Value → Prop := fun R v v' => VR R v v'
def XA : Ren → Array Value → Array Value → Prop := fun R v v' => XR R v v'
def DA : Ren → Addr → Addr → Prop := fun R a a' => AR R a a'
section
variable {P : Program} {R : Ren}
theorem SR.bind' {α β : Type} {A : Ren → α → α → Prop} {B : Ren → β → β → Prop} {f f' : α → Sem β} {s s' : Sem α} (h : SR P A R s s') (hf : ∀ (R' : Ren) a a', Le R R' → A R' a a' → SR P B R' (f a) (f' a')) : SR P B R (s >>= f) (s' >>= f') := h.bind hf
theorem sr_pure {α : Type} {A : Ren → α → α → Prop} {a a' : α} (h : ∀ R', Le R R' → A R' a a') : SR P A R (pure a) (pure a') := SR.pure h
theorem sr_eq {α : Type} (a : α) : SR P EqA R (pure a) (pure a) := SR.pure fun _ _ => rfl
theorem sr_stuck {α : Type} {A : Ren → α → α → Prop} (s : String) (s' : Sem α) : SR P A R (stuck s) s' := SR.dead _ fun w => ⟨⟨_, w, rfl, trivial, Dk.refl w⟩, Lc.halt fun _ => rfl⟩
theorem sr_unsupported {α : Type} {A : Ren → α → α → Prop} (u : Unsupported) (s' : Sem α) (hu : PlainH (.unsupported u) := by exact trivial) : SR P A R (unsupported u) s' := SR.dead _ fun w => ⟨⟨_, w, rfl, hu, Dk.refl w⟩, Lc.halt fun _ => rfl⟩
theorem sr_program : SR P (fun _ a a' => a = P ∧ a' = P) R program program := SR.program (SR.pure fun _ _ => ⟨rfl, rfl⟩)
theorem sr_typeInfo (t : TypeId) : SR P EqA R (typeInfo t) (typeInfo t) := by
  unfold typeInfo
  refine sr_program.bind' fun R' p p' _ e => ?_
  obtain ⟨rfl, rfl⟩ := e
  split
  · exact sr_eq _
  · exact sr_stuck _ _
theorem sr_underlying (t : TypeId) : SR P EqA R (underlying t) (underlying t) := by
  unfold underlying
  refine sr_program.bind' fun R' p p' _ e => ?_
  obtain ⟨rfl, rfl⟩ := e
  split
  · exact sr_eq _
  · exact sr_stuck _ _
theorem sr_sizeOf (t : TypeId) : SR P EqA R (sizeOf t) (sizeOf t) := by
  unfold sizeOf
  exact (sr_typeInfo t).bind' fun R' p p' _ e => by cases e; exact sr_eq _
theorem sr_isAgg (t : TypeId) : SR P EqA R (isAgg t) (isAgg t) := by
  unfold isAgg
  refine (sr_underlying t).bind' fun R' p p' _ e => ?_
  cases e
  split <;> exact sr_eq _
theorem AR.add {a a' : Addr} (h : AR R a a') (n : Nat) : AR R (a.add n) (a'.add n) := by
  unfold Addr.add
  split
  · exact h
  · exact ⟨h.1, by simp [h.2.1], rfl, Nat.le_trans h.2.2.2 (Nat.le_add_right _ _)⟩
theorem sr_load {a a' : Addr} (h : AR R a a') : SR P VA R (load a) (load a') := SR.load h fun _ _ _ _ hv => SR.pure fun _ hl => hv.mono hl
theorem sr_store {a a' : Addr} {v v' : Value} (h : AR R a a') (hv : VR R v v') : SR P EqA R (store a v) (store a' v') := SR.store h hv (sr_eq _)
theorem sr_loadCellsFrom : ∀ (n : Nat) {R : Ren} {a a' : Addr} (i : Nat) {x x' : Array Value}, AR R a a' → XR R x x' → SR P XA R (loadCellsFrom a i n x) (loadCellsFrom a' i n x')
  | 0, _, _, _, _, _, _, _, hx => sr_pure fun _ hl => XR.mono hl hx
  | n + 1, _, _, _, i, _, _, h, hx => (sr_load (h.add i)).bind' fun _ _ _ hl hv => sr_loadCellsFrom n (i + 1) (h.mono hl) ((hx.mono hl).push hv)
theorem XR.nil : XR R #[] #[] := ⟨rfl, fun i v v' h => by simp at h⟩
theorem sr_loadCells {a a' : Addr} (h : AR R a a') (n : Nat) : SR P XA R (loadCells a n) (loadCells a' n) := sr_loadCellsFrom n 0 h XR.nil
/-- Lists of values. -/
def LR (R : Ren) : List Value → List Value → Prop
  | [], [] => True
  | v :: l, v' :: l' => VR R v v' ∧ LR R l l'
  | _, _ => False
theorem LR.mono {R R' : Ren} (h : Le R R') : ∀ {l l' : List Value}, LR R l l' → LR R' l l'
  | [], [], _ => trivial
  | _ :: _, _ :: _, q => ⟨q.1.mono h, LR.mono h q.2⟩
  | [], _ :: _, q => q.elim
  | _ :: _, [], q => q.elim
theorem sr_storeCells : ∀ {l l' : List Value} {R : Ren} {a a' : Addr} (i : Nat), AR R a a' → LR R l l' → SR P EqA R (storeCells a l i) (storeCells a' l' i)
  | [], [], _, _, _, _, _, _ => sr_eq _
  | _ :: _, _ :: _, _, _, _, i, h, q => (sr_store (h.add i) q.1).bind' fun _ _ _ hl _ => sr_storeCells (i + 1) (h.mono hl) (LR.mono hl q.2)
  | [], _ :: _, _, _, _, _, _, q => q.elim
  | _ :: _, [], _, _, _, _, _, q => q.elim
theorem sr_loadVar (t : TypeId) {a a' : Addr} (h : AR R a a') : SR P VA R (loadVar t a) (loadVar t a') := by
  unfold loadVar
  refine (sr_isAgg t).bind' fun R1 b b' hl e => ?_
  cases e
  split
  · refine (sr_sizeOf t).bind' fun R2 n n' hl2 e => ?_
    cases e
    exact (sr_loadCells (h.mono (hl.trans hl2)) n).bind' fun R3 x x' _ hx => sr_pure fun _ hl3 => VR.agg (XR.mono hl3 hx)
  · exact sr_load (h.mono hl)
theorem XR.list {x x' : Array Value} (h : XR R x x') : LR R x.toList x'.toList := by
  obtain ⟨l⟩ := x
  obtain ⟨l'⟩ := x'
  show LR R l l'
  obtain ⟨hs, hx⟩ := h
  simp at hs hx
  induction l generalizing l' with
  | nil => cases l' with | nil => trivial | cons a r => simp at hs
  | cons a r ih =>
    cases l' with
    | nil => simp at hs
    | cons a' r' =>
      exact ⟨hx 0 a a' (by simp) (by simp), ih r' (by simpa using hs) fun i v v' h1 h2 => hx (i + 1) v v' (by simpa using h1) (by simpa using h2)⟩
theorem XR.one {v v' : Value} (h : VR R v v') : XR R #[v] #[v'] := ⟨rfl, fun i u u' h1 h2 => by
  cases i with
  | zero => simp at h1 h2; subst h1; subst h2; exact h
  | succ i => simp at h1⟩
theorem cells_one {v : Value} (h : ∀ c, v ≠ .agg c) : v.cells = #[v] := by
  cases v with
  | agg c => exact absurd rfl (h c)
  | _ => rfl
theorem VR.cells {v v' : Value} (h : VR R v v') : XR R v.cells v'.cells := by
  by_cases h1 : ∃ c, v = .agg c
  · obtain ⟨c, rfl⟩ := h1
    obtain ⟨c', rfl, hx⟩ := h.out
    exact hx
  · by_cases h2 : ∃ c, v = .tuple c
    · obtain ⟨c, rfl⟩ := h2
      obtain ⟨c', rfl, hx⟩ := h.out
      exact XR.one h
    · have q := h.notAgg (fun c e => h1 ⟨c, e⟩) (fun c e => h2 ⟨c, e⟩)
      rw [cells_one (fun c e => h1 ⟨c, e⟩), cells_one q.1]
      exact XR.one h
theorem sr_storeVar (t : TypeId) {a a' : Addr} {v v' : Value} (h : AR R a a') (hv : VR R v v') : SR P EqA R (storeVar t a v) (storeVar t a' v') := by
  unfold storeVar
  refine (sr_sizeOf t).bind' fun R1 n n' hl e => ?_
  cases e
  have hc := (hv.mono hl).cells
  rw [hc.1]
  split
  · exact (SR.dead _ fun w => ⟨⟨_, w, rfl, trivial, Dk.refl w⟩, Lc.halt fun _ => rfl⟩)
  · exact sr_storeCells 0 (h.mono hl) hc.list
theorem OR.cells {l0 : Nat} {x x' : Array Value} (h : XR R x x') (t : TypeId) : OR R l0 (.cells x t) (.cells x' t) := ⟨rfl, .of h, fun o _ h2 => by simp at h2⟩
theorem sr_newRow (t : TypeId) {x x' : Array Value} (h : XR R x x') : SR P DA R (newRow t x) (newRow t x') := SR.new (OR.cells h t) fun _ _ _ _ hr => SR.pure fun _ hl => ⟨hl.1 _ _ hr.1, rfl, rfl, by rw [hl.2.2.2.2, hr.2]; exact Nat.le_refl _⟩
theorem sr_newVar (t : TypeId) {v v' : Value} (h : VR R v v') : SR P DA R (newVar t v) (newVar t v') := sr_newRow t h.cells
theorem sr_choose (q : Question) : SR P EqA R (choose q) (choose q) := SR.choose q fun n => sr_eq n
theorem sr_askRoom (n : Nat) : SR P EqA R (askRoom n) (askRoom n) := by
  unfold askRoom
  split
  · exact SR.noRoom (sr_eq _)
  · exact sr_eq _
end
end Go.Proofs.YtfbdgdphpdhcpaaDoor.Sm
namespace Go.Proofs.YtfbdgdphpdhcpaaDoor.Sm
open Go

/-- Nothing comes out, whatever the world. -/
def Dead (P : Program) {α : Type} (s : Sem α) : Prop := ∀ w, (∃ x w', s.run P w = .halt x w' ∧ PlainH x ∧ Dk w w') ∧ Lc P s w
/-- If it halts, it does so plainly. -/
def Tame (P : Program) {α : Type} (s : Sem α) : Prop := ∀ w, (match s.run P w with
  | .ok _ w' => Dk w w'
  | .halt x w' => PlainH x ∧ Dk w w') ∧ Lc P s w
section
variable {P : Program} {α β : Type} {A : Ren → α → α → Prop} {R : Ren}
theorem SR.no {s : Sem α} (h : Dead P s) (s' : Sem α) : SR P A R s s' := .dead s' h
theorem Dead.first {s : Sem α} (h : Dead P s) (f : α → Sem β) : Dead P (s >>= f) := by
  intro w
  obtain ⟨⟨x, w', e, hx⟩, hl⟩ := h w
  exact ⟨⟨x, w', (Sem.run_bind' P s f w).trans (by rw [e]; rfl), hx⟩, hl.bind fun a v1 q => by rw [e] at q; cases q⟩
theorem Dead.after {s : Sem α} {f : α → Sem β} (h0 : Tame P s) (h : ∀ a, Dead P (f a)) : Dead P (s >>= f) := by
  intro w
  obtain ⟨h1, hl⟩ := h0 w
  refine ⟨?_, hl.bind fun a v1 _ => (h a v1).2⟩
  cases e : s.run P w with
  | ok a w1 =>
    rw [e] at h1
    obtain ⟨⟨x, w', e', hx, hd⟩, _⟩ := h a w1
    exact ⟨x, w', (Sem.run_bind' P s f w).trans (by rw [e]; exact e'), hx, h1.trans hd⟩
  | halt x w1 => rw [e] at h1; exact ⟨x, w1, (Sem.run_bind' P s f w).trans (by rw [e]; rfl), h1⟩
theorem Tame.bind {s : Sem α} {f : α → Sem β} (h0 : Tame P s) (h : ∀ a, Tame P (f a)) : Tame P (s >>= f) := by
  intro w
  obtain ⟨h1, hl⟩ := h0 w
  refine ⟨?_, hl.bind fun a v1 _ => (h a v1).2⟩
  have q : (s >>= f).run P w = _ := Sem.run_bind' P s f w
  rw [q]
  cases e : s.run P w with
  | ok a w1 =>
    rw [e] at h1
    have h2 := (h a w1).1
    show match (f a).run P w1 with
      | .ok _ w' => Dk w w'
      | .halt x w' => PlainH x ∧ Dk w w'
    cases e2 : (f a).run P w1 with
    | ok b w2 => rw [e2] at h2; exact h1.trans h2
    | halt x w2 => rw [e2] at h2; exact ⟨h2.1, h1.trans h2.2⟩
  | halt y w1 => rw [e] at h1; exact h1
theorem tame_pure (a : α) : Tame P (pure a) := fun w => ⟨Dk.refl w, fun _ _ => rfl⟩
theorem tame_program : Tame P program := fun w => ⟨Dk.refl w, fun _ _ => rfl⟩
theorem tame_halt (x : Halt) (hx : PlainH x := by exact trivial) : Tame P (Sem.halt x : Sem α) := fun w => ⟨⟨hx, Dk.refl w⟩, fun _ _ => rfl⟩
theorem tame_choose (q : Question) : Tame P (choose q) := fun w => by
  refine ⟨?_, fun τ hτ => ?_⟩
  · simp only [choose, Sem.run]
    split <;> rename_i e <;> split at e <;> cases e <;> exact Dk.heap rfl
  · cases hf : q.forced with
    | true => simp only [choose, Sem.run, hf, if_true]; rfl
    | false =>
      simp only [choose, Sem.run, hf, Bool.false_eq_true, if_false] at hτ ⊢
      have h0 : w.tape w.drawn = τ w.drawn := hτ w.drawn (Nat.le_refl _) (Nat.lt_succ_self _)
      have e2 : (tap τ w).tape (tap τ w).drawn = w.tape w.drawn := h0.symm
      rw [e2]; rfl
theorem Dk.push (w : World) (o : Obj) (h : ∀ l, o = .deferred l → l = none ∨ l = some []) : Dk w { w with heap := w.heap.push o } := fun b l q => by
  have q : (w.heap.push o)[b]? = some (.deferred l) := q
  rw [Array.getElem?_push] at q
  split at q
  · exact .inr (h l (Option.some.inj q))
  · exact .inl q
theorem tame_typeInfo (t : TypeId) : Tame P (typeInfo t) := by
  unfold typeInfo
  refine Tame.bind tame_program fun p => ?_
  split
  · exact tame_pure _
  · exact tame_halt _
theorem tame_underlying (t : TypeId) : Tame P (underlying t) := by
  unfold underlying
  refine Tame.bind tame_program fun p => ?_
  split
  · exact tame_pure _
  · exact tame_halt _
theorem dead_halt (x : Halt) (hx : PlainH x := by exact trivial) : Dead P (Sem.halt x : Sem α) := fun w => ⟨⟨x, w, rfl, hx, Dk.refl w⟩, fun _ _ => rfl⟩
theorem tame_elemOf (t : TypeId) : Tame P (elemOf t) := by
  unfold elemOf
  refine Tame.bind (tame_underlying t) fun d => ?_
  split
  · exact tame_pure _
  · exact tame_halt _
theorem tame_newRow (t : TypeId) (x : Array Value) : Tame P (newRow t x) := fun w => ⟨Dk.push w _ (fun l e => by cases e), fun _ _ => rfl⟩
theorem tame_newVar (t : TypeId) (v : Value) : Tame P (newVar t v) := tame_newRow t v.cells
theorem dead_rt (e : RuntimeError) : Dead P (runtimePanic e : Sem α) := by
  unfold runtimePanic
  refine Dead.after tame_program fun p => ?_
  cases e with
  | typeAssertion i c a m => exact Dead.after (tame_elemOf _) fun _ => Dead.after (tame_newVar _ _) fun _ => dead_halt _
  | panicNil => exact Dead.after (tame_elemOf _) fun _ => Dead.after (tame_newVar _ _) fun _ => dead_halt _
  | _ => exact dead_halt _
theorem dead_bounds (k : IntKind) (x y : Int) (c : BoundsCode) : Dead P (boundsPanic k x y c : Sem α) := by
  unfold boundsPanic
  simp only
  split
  · refine Dead.after ?_ fun _ => dead_rt _
    rw [← bind_pure_comp]
    exact Tame.bind (tame_choose _) fun _ => tame_pure _
  · exact Dead.after (tame_pure _) fun _ => dead_rt _
theorem sr_rt (e : RuntimeError) (s' : Sem α) : SR P A R (runtimePanic e) s' := .no (dead_rt e) s'
theorem sr_bounds (k : IntKind) (x y : Int) (c : BoundsCode) (s' : Sem α) : SR P A R (boundsPanic k x y c) s' := .no (dead_bounds k x y c) s'
/-- Shapes of rows that differ in length alone. -/
def ShA (_ : Ren) (s s' : Option (TypeId × Nat)) : Prop := s'.map (·.1) = s.map (·.1) ∧ ∀ z z', s = some z → s' = some z' → z.2 ≤ z'.2
theorem SR.shape {r r' : Nat} {k k' : Option (TypeId × Nat) → Sem α} (hr : R.rel r r') (hk : ∀ s s', ShA R s s' → SR P A R (k s) (k' s')) : SR P A R (.shape r k) (.shape r' k') := by
  intro R2 hl v w e2 hw
  have e : ShA R (v.shape? r) (w.shape? r') := by
    unfold World.shape?
    rcases hw.kind (hl.1 _ _ hr) with ⟨c, e, fr, q⟩ | ⟨l, q⟩ | ⟨l, q⟩ | ⟨a0, l, q⟩ <;>
      (obtain ⟨o', h1, h2⟩ := hw.obj _ _ _ (hl.1 _ _ hr) q
       cases o' <;> first | exact h2.elim | (first | (obtain ⟨rfl, h3, _⟩ := h2; rw [q, h1]; exact ⟨rfl, fun z z' e1 e2 => by cases e1; cases e2; exact h3.1⟩) | (rw [q, h1]; exact ⟨rfl, fun z z' e1 e2 => by cases e1⟩)))
  have := hk (v.shape? r) (w.shape? r') e R2 hl v w e2 hw
  refine ⟨?_, Lc.step (fun _ => rfl) rfl rfl this.2⟩
  simp only [Sem.run, Sem.runT]
  exact this.1
theorem sr_shape {r r' : Nat} (hr : R.rel r r') : SR P ShA R (shape r) (shape r') := SR.shape hr fun _ _ e => SR.pure fun _ _ => e
end
/-- What the program has for zeros names no block. -/
def Zs (P : Program) : Prop := ∀ (t : TypeId) (i : TypeInfo) (z : Value), P.info? t = some i → i.zero = some z → ∀ R : Ren, VR R z z
section
variable {P : Program} {R : Ren}
theorem sr_info (t : TypeId) : SR P (fun _ a a' => a' = a ∧ P.info? t = some a) R (typeInfo t) (typeInfo t) := by
  unfold typeInfo
  refine sr_program.bind' fun R' p p' _ e => ?_
  obtain ⟨rfl, rfl⟩ := e
  split
  · rename_i i hi; exact sr_pure fun _ _ => ⟨rfl, hi⟩
  · exact sr_stuck _ _
theorem sr_zero (hz : Zs P) (t : TypeId) : SR P VA R (zeroValue t) (zeroValue t) := by
  unfold zeroValue
  refine (sr_info t).bind' fun R' i i' _ e => ?_
  obtain ⟨rfl, hi⟩ := e
  split
  · rename_i z hq; exact sr_pure fun R2 _ => hz t _ z hi hq R2
  · exact sr_unsupported _ _
theorem XR.extract {x x' : Array Value} (h : XR R x x') (i j : Nat) : XR R (x.extract i j) (x'.extract i j) := by
  refine ⟨by simp [h.1], fun k v v' hv hv' => ?_⟩
  rw [Array.getElem?_extract] at hv hv'
  split at hv
  · split at hv'
    · exact h.2 _ _ _ hv hv'
    · cases hv'
  · cases hv
theorem sr_part (t : TypeId) {x x' : Array Value} (h : XR R x x') (o : Nat) : SR P VA R (part t x o) (part t x' o) := by
  unfold part
  refine (sr_isAgg t).bind' fun R1 b b' hl e => ?_
  cases e
  split
  · refine (sr_sizeOf t).bind' fun R2 n n' hl2 e => ?_
    cases e
    exact sr_pure fun R3 hl3 => VR.agg (XR.mono ((hl.trans hl2).trans hl3) (h.extract _ _))
  · split
    · rename_i v hv
      obtain ⟨v', hv', hr⟩ := h.at hv
      rw [hv']
      exact sr_pure fun R2 hl2 => hr.mono (hl.trans hl2)
    · exact sr_stuck _ _
theorem sr_sure {v v' : Value} (h : VR R v v') : SR P DA R (Instr.sureAddr v) (Instr.sureAddr v') := by
  have q := h.out
  unfold Instr.sureAddr
  split
  · rename_i a
    obtain ⟨a', rfl, ha⟩ := q
    exact sr_pure fun R2 hl => AR.mono hl ha
  · exact sr_stuck _ _
theorem sr_ptr {a a' : Addr} (h : AR R a a') : SR P VA R (pure (.pointer (some a))) (pure (.pointer (some a'))) := sr_pure fun _ hl => VR.pointer (OAR.mono hl h)
theorem sr_alloc (hz : Zs P) (t : TypeId) (old : Value) : SR P VA R (Instr.alloc t true old) (Instr.alloc t true old) := by
  unfold Instr.alloc
  refine (sr_zero hz t).bind' fun R1 z z' _ hv => ?_
  simp only
  exact (sr_newVar t hv).bind' fun R2 a a' _ ha => sr_ptr ha
theorem sr_box (t : TypeId) {v v' : Value} (h : VR R v v') : SR P VA R (Instr.box t v) (Instr.box t v') := by
  unfold Instr.box
  exact (sr_newVar t h).bind' fun R2 a a' _ ha => sr_ptr ha
theorem sr_loadAt (t : TypeId) {v v' : Value} (h : VR R v v') : SR P VA R (Instr.loadAt t v) (Instr.loadAt t v') := by
  unfold Instr.loadAt
  exact (sr_sure h).bind' fun R1 a a' _ ha => sr_loadVar t ha
theorem sr_storeAt (t : TypeId) {v v' x x' : Value} (h : VR R v v') (hx : VR R x x') : SR P EqA R (Instr.storeAt t v x) (Instr.storeAt t v' x') := by
  unfold Instr.storeAt
  exact (sr_sure h).bind' fun R1 a a' hl ha => sr_storeVar t ha (hx.mono hl)
theorem sr_asIntOf {v v' : Value} (h : VR R v v') : SR P (fun _ a a' => a' = a ∧ v = .int a.1 a.2 ∧ v' = .int a.1 a.2) R (asIntOf v) (asIntOf v') := by
  have q := h.out
  unfold asIntOf
  split
  · rename_i k n
    cases (show v' = _ from q)
    exact sr_pure fun _ _ => ⟨rfl, rfl, rfl⟩
  · exact sr_unsupported _ _
  · exact sr_stuck _ _
theorem sr_asInt {v v' : Value} (h : VR R v v') : SR P EqA R (asInt v) (asInt v') := by
  unfold asInt
  exact (sr_asIntOf h).bind' fun R1 a a' _ e => by obtain ⟨rfl, _⟩ := e; exact sr_eq _
theorem sr_asBool {v v' : Value} (h : VR R v v') : SR P EqA R (asBool v) (asBool v') := by
  have q := h.out
  unfold asBool
  split
  · cases (show v' = _ from q); exact sr_eq _
  · exact sr_stuck _ _
theorem sr_asAgg {v v' : Value} (h : VR R v v') : SR P XA R (asAgg v) (asAgg v') := by
  have q := h.out
  unfold asAgg
  split
  · obtain ⟨x', rfl, hx⟩ := q
    exact sr_pure fun _ hl => XR.mono hl hx
  · exact sr_stuck _ _
theorem sr_extract {v v' : Value} (h : VR R v v') (i : Nat) : SR P VA R (Instr.extract v i) (Instr.extract v' i) := by
  have q := h.out
  unfold Instr.extract
  split
  · obtain ⟨x', rfl, hx⟩ := q
    simp only
    split
    · rename_i z hz
      obtain ⟨z', hz', hr⟩ := XR.at hx hz
      rw [hz']
      exact sr_pure fun _ hl => hr.mono hl
    · exact sr_stuck _ _
  · exact sr_stuck _ _
theorem sr_field (t : TypeId) {v v' : Value} (h : VR R v v') (f : Nat) : SR P VA R (Instr.field t v f) (Instr.field t v' f) := by
  unfold Instr.field
  refine (sr_underlying t).bind' fun R1 d d' hl e => ?_
  cases e
  split
  · split
    · exact (sr_asAgg (h.mono hl)).bind' fun R2 x x' _ hx => sr_part _ hx _
    · exact sr_stuck _ _
  · exact sr_stuck _ _
theorem sr_int (k : IntKind) (n : Int) : SR P VA R (pure (.int k n)) (pure (.int k n)) := sr_pure fun _ _ => VR.int _ k n
theorem sr_bool (b : Bool) : SR P VA R (pure (.bool b)) (pure (.bool b)) := sr_pure fun _ _ => VR.bool _ b
theorem sr_intArith (op : BinOp) (k : IntKind) (x y : Int) : SR P VA R (Op.intArith op k x y) (Op.intArith op k x y) := by
  unfold Op.intArith
  split <;> first | exact sr_int _ _ | exact sr_stuck _ _
theorem sr_intDiv (op : BinOp) (k : IntKind) (x y : Int) : SR P VA R (Op.intDiv op k x y) (Op.intDiv op k x y) := by
  unfold Op.intDiv
  split
  · exact sr_rt _ _
  · split <;> first | exact sr_int _ _ | exact sr_stuck _ _
theorem sr_intBits (op : BinOp) (k : IntKind) (x y : Int) : SR P VA R (Op.intBits op k x y) (Op.intBits op k x y) := by
  unfold Op.intBits
  split <;> first | exact sr_int _ _ | exact sr_stuck _ _
theorem sr_intCmp (op : BinOp) (x y : Int) : SR P VA R (Op.intCmp op x y) (Op.intCmp op x y) := by
  unfold Op.intCmp
  split <;> first | exact sr_bool _ | exact sr_stuck _ _
end
end Go.Proofs.YtfbdgdphpdhcpaaDoor.Sm
namespace Go.Proofs.YtfbdgdphpdhcpaaDoor.Sm
open Go

section
variable {P : Program} {R : Ren}
theorem OAR.map {a a' : Option Addr} (h : OAR R a a') (n : Nat) : OAR R (a.map (·.add n)) (a'.map (·.add n)) := by
  cases a <;> cases a' <;> first | exact h.elim | trivial | exact AR.add h n
/-- A pair of a place, and two numbers. -/
def QA : Ren → Option Addr × Nat × TypeId → Option Addr × Nat × TypeId → Prop := fun R a a' => OAR R a.1 a'.1 ∧ a'.2 = a.2
theorem sr_indexAt (t : TypeId) {x x' i i' : Value} (h : VR R x x') (hi : VR R i i') : SR P VA R (Instr.indexAt t x i) (Instr.indexAt t x' i') := by
  unfold Instr.indexAt
  refine (sr_asIntOf hi).bind' fun R1 ki ki' hl1 e => ?_
  obtain ⟨rfl, _, _⟩ := e
  obtain ⟨k, n⟩ := ki'
  simp only
  refine (sr_underlying t).bind' fun R2 d d' hl2 e => ?_
  cases e
  have hx := h.mono (hl1.trans hl2)
  have fin : ∀ {R3 R4 : Ren} {a a' : Option Addr} (_ : Le R3 R4) (_ : OAR R3 a a'), OAR R4 a a' := fun hl hb => hb.mono hl
  cases d with
  | array len elem =>
    refine (sr_sure hx).bind' fun R3 a a' _ ha => ?_
    refine SR.bind' (sr_pure (A := fun _ p p' => p = (some a, len, elem) ∧ p' = (some a', len, elem)) fun _ _ => ⟨rfl, rfl⟩) fun R4 p p' hl4 hp => ?_
    obtain ⟨rfl, rfl⟩ := hp
    refine (sr_underlying t).bind' fun R5 d d' hl5 e => ?_
    cases e
    have ha' := AR.mono (hl4.trans hl5) ha
    simp only
    split
    · exact (sr_sizeOf elem).bind' fun R5 z z' hl5 e => by cases e; exact sr_ptr ((AR.mono hl5 ha').add _)
    · split <;> (split <;> first | exact sr_unsupported _ _ | exact sr_bounds _ _ _ _ _)
  | slice elem =>
    have q := hx.out
    cases x with
    | slice base l c =>
      obtain ⟨base', rfl, hb⟩ := q
      refine SR.bind' (sr_pure (A := fun _ p p' => p = (base, l, elem) ∧ p' = (base', l, elem)) fun _ _ => ⟨rfl, rfl⟩) fun R4 p p' hl4 hp => ?_
      obtain ⟨rfl, rfl⟩ := hp
      refine (sr_underlying t).bind' fun R5 d d' hl5 e => ?_
      cases e
      have hb' := fin (hl4.trans hl5) hb
      cases base with
      | none =>
        cases base' with
        | none => exact sr_bounds _ _ _ _ _
        | some _ => exact hb.elim
      | some a =>
        cases base' with
        | none => exact hb.elim
        | some a' =>
          simp only
          split
          · exact (sr_sizeOf elem).bind' fun R5 z z' hl5 e => by cases e; exact sr_ptr ((AR.mono hl5 hb').add _)
          · split <;> (split <;> first | exact sr_unsupported _ _ | exact sr_bounds _ _ _ _ _)
    | _ => exact SR.no (Dead.first (dead_halt _) _) _
  | _ => exact SR.no (Dead.first (dead_halt _) _) _
theorem sr_sliceBound {x x' : Value} (h : VR R x x') (y : Nat) (c : BoundsCode) : SR P EqA R (Instr.sliceBound x y c) (Instr.sliceBound x' y c) := by
  unfold Instr.sliceBound
  refine (sr_asIntOf h).bind' fun R1 ki ki' hl1 e => ?_
  obtain ⟨rfl, _, _⟩ := e
  obtain ⟨k, n⟩ := ki'
  simp only
  split
  · exact sr_eq _
  · exact sr_bounds _ _ _ _ _
/-- Values that may be missing. -/
def VO (R : Ren) : Option Value → Option Value → Prop
  | none, none => True
  | some v, some v' => VR R v v'
  | _, _ => False
theorem VO.mono {R R' : Ren} (hl : Le R R') {x x' : Option Value} (h : VO R x x') : VO R' x x' := by
  cases x <;> cases x' <;> first | exact h.elim | trivial | exact VR.mono hl h
theorem sr_sliceBounds (b : Bool) (len cap : Nat) {lo lo' hi hi' mx mx' : Option Value} (h1 : VO R lo lo') (h2 : VO R hi hi') (h3 : VO R mx mx') : SR P EqA R (Instr.sliceBounds b len cap lo hi mx) (Instr.sliceBounds b len cap lo' hi' mx') := by
  unfold Instr.sliceBounds
  cases mx with
  | none =>
    cases mx' with
    | some _ => exact h3.elim
    | none =>
      simp only
      cases hi with
      | none =>
        cases hi' with
        | some _ => exact h2.elim
        | none =>
          simp only [pure_bind]
          cases lo with
          | none =>
            cases lo' with
            | some _ => exact h1.elim
            | none => exact sr_eq _
          | some l =>
            cases lo' with
            | none => exact h1.elim
            | some l' => exact (sr_sliceBound h1 _ _).bind' fun R1 a a' _ e => by cases e; exact sr_eq _
      | some g =>
        cases hi' with
        | none => exact h2.elim
        | some g' =>
          refine (sr_sliceBound h2 _ _).bind' fun R1 a a' hl e => ?_
          cases e
          cases lo with
          | none =>
            cases lo' with
            | some _ => exact h1.elim
            | none => exact sr_eq _
          | some l =>
            cases lo' with
            | none => exact h1.elim
            | some l' => exact (sr_sliceBound (VR.mono hl h1) _ _).bind' fun R1 a a' _ e => by cases e; exact sr_eq _
  | some m =>
    cases mx' with
    | none => exact h3.elim
    | some m' =>
      refine (sr_sliceBound h3 _ _).bind' fun R1 a a' hl e => ?_
      cases e
      cases hi with
      | none =>
        cases hi' with
        | some _ => exact h2.elim
        | none => exact SR.no (Dead.first (dead_halt _) _) _
      | some g =>
        cases hi' with
        | none => exact h2.elim
        | some g' =>
          refine (sr_sliceBound (VR.mono hl h2) _ _).bind' fun R2 a a' hl2 e => ?_
          cases e
          cases lo with
          | none =>
            cases lo' with
            | some _ => exact h1.elim
            | none => exact sr_eq _
          | some l =>
            cases lo' with
            | none => exact h1.elim
            | some l' => exact (sr_sliceBound (VR.mono (hl.trans hl2) h1) _ _).bind' fun R1 a a' _ e => by cases e; exact sr_eq _
theorem sr_asAddr {v v' : Value} (h : VR R v v') : SR P DA R (asAddr v) (asAddr v') := by
  have q := h.out
  unfold asAddr
  split
  · rename_i a
    obtain ⟨a', rfl, ha⟩ := q
    exact sr_pure fun R2 hl => AR.mono hl ha
  · exact sr_rt _ _
  · exact sr_stuck _ _
theorem sr_slice (t : TypeId) {x x' lo lo' hi hi' mx mx' : _} (h : VR R x x') (h1 : VO R lo lo') (h2 : VO R hi hi') (h3 : VO R mx mx') : SR P VA R (Instr.slice t x lo hi mx) (Instr.slice t x' lo' hi' mx') := by
  unfold Instr.slice
  refine (sr_underlying t).bind' fun R1 d d' hl e => ?_
  cases e
  have hx := h.mono hl
  have q := hx.out
  cases d with
  | slice elem =>
    cases x with
    | slice a l c =>
      obtain ⟨a', rfl, hb⟩ := q
      refine (sr_sliceBounds true l c (h1.mono hl) (h2.mono hl) (h3.mono hl)).bind' fun R2 b b' hl2 e => ?_
      cases e
      refine (sr_sizeOf elem).bind' fun R3 n n' hl3 e => ?_
      cases e
      refine sr_pure fun R4 hl4 => VR.slice ?_ _ _
      have hb' := OAR.mono ((hl2.trans hl3).trans hl4) hb
      split
      · exact hb'
      · exact hb'.map _
    | _ => exact SR.no (dead_halt _) _
  | string =>
    cases x with
    | string s =>
      cases (show x' = _ from q)
      cases mx with
      | some m => exact SR.no (Dead.first (dead_halt _) _) _
      | none =>
        cases mx' with
        | some m' => exact h3.elim
        | none =>
          refine (sr_sliceBounds false s.size s.size (h1.mono hl) (h2.mono hl) (mx := none) (mx' := none) trivial).bind' fun R2 b b' hl2 e => ?_
          cases e
          exact sr_pure fun _ _ => VR.string _ _
    | _ => exact SR.no (dead_halt _) _
  | pointer arr =>
    refine (sr_asAddr hx).bind' fun R2 a a' hl2 ha => ?_
    refine (sr_underlying arr).bind' fun R3 d d' hl3 e => ?_
    cases e
    cases d with
    | array n elem =>
      have hm := hl.trans (hl2.trans hl3)
      refine (sr_sliceBounds false n n (h1.mono hm) (h2.mono hm) (h3.mono hm)).bind' fun R4 b b' hl4 e => ?_
      cases e
      refine (sr_sizeOf elem).bind' fun R5 z z' hl5 e => ?_
      cases e
      refine sr_pure fun R6 hl6 => VR.slice ?_ _ _
      have ha' := AR.mono (hl3.trans (hl4.trans (hl5.trans hl6))) ha
      show AR _ _ _
      split
      · exact ha'
      · exact ha'.add _
    | _ => exact SR.no (dead_halt _) _
  | _ => exact SR.no (dead_halt _) _
theorem sr_sliceAt (t : TypeId) {x x' lo lo' hi hi' mx mx' : _} (h : VR R x x') (h1 : VO R lo lo') (h2 : VO R hi hi') (h3 : VO R mx mx') : SR P VA R (Instr.sliceAt t x lo hi mx) (Instr.sliceAt t x' lo' hi' mx') := by
  unfold Instr.sliceAt
  refine (sr_underlying t).bind' fun R1 d d' hl e => ?_
  cases e
  cases d with
  | array n elem =>
    refine (sr_sure (h.mono hl)).bind' fun R2 a a' hl2 ha => ?_
    have hm := hl.trans hl2
    refine (sr_sliceBounds false n n (h1.mono hm) (h2.mono hm) (h3.mono hm)).bind' fun R4 b b' hl4 e => ?_
    cases e
    refine (sr_sizeOf elem).bind' fun R5 z z' hl5 e => ?_
    cases e
    refine sr_pure fun R6 hl6 => VR.slice ?_ _ _
    have ha' := AR.mono (hl4.trans (hl5.trans hl6)) ha
    show AR _ _ _
    split
    · exact ha'
    · exact ha'.add _
  | _ => exact sr_slice t (h.mono hl) (h1.mono hl) (h2.mono hl) (h3.mono hl)
theorem XR.get {z z' : Array Value} (h : XR R z z') (i : Nat) : VR R z[i]! z'[i]! := by
  rw [getElem!_def, getElem!_def]
  cases e : z[i]? with
  | none => rw [h.none e]; exact VR.in rfl
  | some v => obtain ⟨v', e', hv⟩ := h.at e; rw [e']; exact hv
theorem XR.range {z z' : Array Value} (h : XR R z z') (n : Nat) : XR R ((Array.range n).map (fun x => z[x % z.size]!)) ((Array.range n).map (fun x => z'[x % z'.size]!)) := by
  refine ⟨by simp, fun i v v' hv hv' => ?_⟩
  rw [Array.getElem?_map] at hv hv'
  cases e : (Array.range n)[i]? with
  | none => rw [e] at hv; cases hv
  | some k =>
    rw [e] at hv hv'
    cases hv; cases hv'
    rw [h.1]
    exact h.get _
theorem sr_makeSlice (hz : Zs P) (t : TypeId) {l l' c c' : Value} (hl : VR R l l') (hc : VR R c c') : SR P VA R (Instr.makeSlice t l c) (Instr.makeSlice t l' c') := by
  unfold Instr.makeSlice
  refine (sr_underlying t).bind' fun R1 d d' q1 e => ?_
  cases e
  cases d with
  | slice elem =>
    refine (sr_asInt (hl.mono q1)).bind' fun R2 n n' q2 e => ?_
    cases e
    refine (sr_asInt (hc.mono (q1.trans q2))).bind' fun R3 m m' q3 e => ?_
    cases e
    refine (sr_info elem).bind' fun R4 i i' q4 e => ?_
    obtain ⟨rfl, hi⟩ := e
    simp only
    split
    · split
      · exact SR.no (Dead.first (dead_rt _) _) _
      · split
        · exact SR.no (Dead.first (dead_rt _) _) _
        · first | exact SR.no (Dead.after (tame_choose _) fun _ => Dead.first (dead_rt _) _) _ | exact SR.no (Dead.after (tame_pure _) fun _ => Dead.first (dead_rt _) _) _ | exact SR.no (Dead.after (tame_typeInfo _) fun _ => Dead.first (dead_rt _) _) _
    · refine (sr_askRoom _).bind' fun R5 u u' q5 e => ?_
      refine (sr_sizeOf elem).bind' fun R6 k k' q6 e => ?_
      cases e
      split
      · refine SR.bind' (sr_pure (A := XA) fun _ _ => XR.nil) fun R8 zr zr' _ hzr => ?_
        exact (sr_newRow elem (hzr.range _)).bind' fun R7 a a' _ ha => sr_pure fun R8 hl8 => VR.slice (a := some a) (a' := some a') (AR.mono hl8 ha) _ _
      · refine (sr_zero hz elem).bind' fun R7 z z' _ hzz => ?_
        refine SR.bind' (sr_pure (A := XA) fun R9 h9 => XR.mono h9 hzz.cells) fun R8 zr zr' _ hzr => ?_
        exact (sr_newRow elem (hzr.range _)).bind' fun R7 a a' _ ha => sr_pure fun R8 hl8 => VR.slice (a := some a) (a' := some a') (AR.mono hl8 ha) _ _
  | _ => exact SR.no (dead_halt _) _
end
end Go.Proofs.YtfbdgdphpdhcpaaDoor.Sm
