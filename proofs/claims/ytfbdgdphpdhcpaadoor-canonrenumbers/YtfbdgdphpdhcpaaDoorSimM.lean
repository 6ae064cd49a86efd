/-
  What an operation yields, block for block: calls, loops over functions. Conditions: the functions that a value may name have bodies.
  Operators on what is no address, block for block. No condition.
  Addresses that stand where numbers are asked, block for block. No condition.
-/
import Derived.Test.YtfbdgdphpdhcpaaDoorSimA
namespace Go.Proofs.YtfbdgdphpdhcpaaDoor.Sm
open Go

/-- What a deferred call goes to. -/
def TR (R : Ren) : Target → Target → Prop
  | .fn f x, .fn f' x' => FnR R f f' ∧ XR R x x'
  | .nil, .nil => True
  | .builtin b ts t cs, .builtin b' ts' t' cs' => b' = b ∧ ts' = ts ∧ t' = t ∧ cs' = cs
  | .collected r, .collected r' => R.rel r r'
  | _, _ => False
theorem TR.mono {R R' : Ren} (h : Le R R') {t t' : Target} (x : TR R t t') : TR R' t t' := by
  cases t <;> cases t' <;> first | exact x.elim | exact ⟨x.1.mono h, x.2.mono h⟩ | exact h.1 _ _ x | exact x
def DR (R : Ren) (d d' : Deferred) : Prop := TR R d.target d'.target ∧ XR R d.args d'.args
theorem DR.mono {R R' : Ren} (h : Le R R') {d d' : Deferred} (x : DR R d d') : DR R' d d' := ⟨x.1.mono h, x.2.mono h⟩
/-- What comes next; what hands over to others isn't here. -/
def NR (R : Ren) : Next → Next → Prop
  | .value v, .value v' => VR R v v'
  | .skip, .skip => True
  | .enter f x, .enter f' x' => (f' = f ∧ R.fns f) ∧ XR R x x'
  | .round l f x a b, .round l' f' x' a' b' => R.rel l l' ∧ (f' = f ∧ R.kn f) ∧ XR R x x' ∧ a' = a ∧ b' = b ∧ R.ok a ∧ R.ok b
  | _, _ => False
theorem NR.mono {R R' : Ren} (h : Le R R') {n n' : Next} (x : NR R n n') : NR R' n n' := by
  cases n <;> cases n' <;> first | exact x.elim | exact VR.mono h x | exact ⟨⟨x.1.1, (h.2.1 _).1.1 x.1.2⟩, x.2.mono h⟩ | exact ⟨h.1 _ _ x.1, ⟨x.2.1.1, (h.2.1 _).2.1 x.2.1.2⟩, x.2.2.1.mono h, x.2.2.2.1, x.2.2.2.2.1, (h.2.2.2.1 _).1 x.2.2.2.2.2.1, (h.2.2.2.1 _).1 x.2.2.2.2.2.2⟩ | exact x
section
variable {P : Program} {R : Ren}
def DA' : Ren → Deferred → Deferred → Prop := fun R d d' => DR R d d'
def NA : Ren → Next → Next → Prop := fun R n n' => NR R n n'
theorem sr_value {s s' : Sem Value} (h : SR P VA R s s') : SR P NA R (do pure (.value (← s))) (do pure (.value (← s'))) := h.bind' fun _ _ _ _ hv => sr_pure fun _ hl => VR.mono hl hv
theorem sr_skip {α : Type} {A : Ren → α → α → Prop} {s s' : Sem α} (h : SR P A R s s') : SR P NA R (do let _ ← s; pure .skip) (do let _ ← s'; pure .skip) := h.bind' fun _ _ _ _ _ => sr_pure fun _ _ => trivial
theorem sr_callFunc (hB : ∀ f, R.fns f → ∃ fn, P.funcs[f]? = some fn ∧ fn.body.isSome = true ∧ (fn.name == "runtime.NumGoroutine") = false) {f : FuncId} (hf : R.fns f) {x x' : Array Value} (hx : XR R x x') : SR P NA R (callFunc f x) (callFunc f x') := by
  obtain ⟨fn, h1, h2, h3⟩ := hB f hf
  unfold callFunc
  refine sr_program.bind' fun R1 p p' hl e => ?_
  obtain ⟨rfl, rfl⟩ := e
  have h4 : fn.body.isNone = false := by cases q : fn.body with | none => rw [q] at h2; cases h2 | some c => rfl
  simp only [h1, h3, h4, Bool.false_eq_true, if_false]
  exact sr_pure fun R2 h2 => ⟨⟨rfl, ((hl.trans h2).2.1 _).1.1 hf⟩, XR.mono (hl.trans h2) hx⟩
def OL (R : Ren) (l l' : Loop) : Prop := OR R 0 (.loop l) (.loop l')
theorem sr_getLoop {l l' : Nat} (h : R.rel l l') : SR P OL R (Instr.getLoop l) (Instr.getLoop l') := by
  unfold Instr.getLoop
  refine (sr_getObj h).bind' fun R1 o o' _ ho => ?_
  obtain ⟨_, ho⟩ := ho
  rcases ho.no with ⟨c, e, f, rfl⟩ | ⟨r, rfl⟩ | ⟨d, rfl⟩ | ⟨a0, l0, rfl⟩
  · exact SR.no (dead_halt _) _
  · cases o' with
    | loop r' => exact sr_pure fun R2 hl => OR.mono (l0 := 0) hl ho
    | _ => exact ho.elim
  · exact SR.no (dead_halt _) _
  · exact SR.no (dead_halt _) _
theorem sr_setObj {r r' : Nat} {o o' : Obj} (hr : R.rel r r') (hl : LD o) (ho : ∀ l0, OR R l0 o o') : SR P EqA R (setObj r o) (setObj r' o') := SR.setObj hr hl ho (sr_eq _)
theorem XR.zipFold {x x' : Array Value} (ps : Array Tmp) (h : XR R x x') : ∀ {t t' : Array Value}, XR R t t' → XR R ((ps.zip x).foldl (fun t p => t.setIfInBounds p.1 p.2) t) ((ps.zip x').foldl (fun t p => t.setIfInBounds p.1 p.2) t') := by
  obtain ⟨x⟩ := x
  obtain ⟨x'⟩ := x'
  obtain ⟨ps⟩ := ps
  obtain ⟨hs, hx⟩ := h
  simp only [List.size_toArray, List.getElem?_toArray] at hs hx
  intro t t' ht
  simp only [List.zip_toArray, List.foldl_toArray]
  induction ps generalizing x x' t t' with
  | nil => simpa using ht
  | cons p ps ih =>
    cases x with
    | nil =>
      cases x' with
      | nil => simpa using ht
      | cons a r => simp at hs
    | cons a r =>
      cases x' with
      | nil => simp at hs
      | cons a' r' =>
        simp only [List.zip_cons_cons, List.foldl_cons]
        exact ih r r' (by simpa using hs) (fun i v v' h1 h2 => hx (i + 1) v v' (by simpa using h1) (by simpa using h2)) (ht.set p (hx 0 a a' (by simp) (by simp)))
theorem sr_yield {l l' : Nat} (h : R.rel l l') {x x' : Array Value} (hx : XR R x x') : SR P NA R (Instr.yield l x) (Instr.yield l' x') := by
  unfold Instr.yield
  refine (sr_getLoop h).bind' fun R1 r r' hl ho => ?_
  obtain ⟨⟨_, _, e1, kf⟩, ht, e2, e3, e4, _, k1, k2, _⟩ := ho
  rw [hx.1, e2]
  refine SR.ite (fun _ => SR.no (Dead.first (dead_halt _) _) _) (fun _ => ?_)
  exact sr_pure fun R2 h2 => ⟨(hl.trans h2).1 _ _ h, ⟨e1, (h2.2.1 _).2.1 kf⟩, XR.mono h2 (XR.zipFold r.params (XR.mono hl hx) ht), e3, e4, (h2.2.2.2.1 _).1 k1, (h2.2.2.2.1 _).1 k2⟩
theorem sr_beginRound {l l' : Nat} (h : R.rel l l') : SR P EqA R (Instr.beginRound l) (Instr.beginRound l') := by
  unfold Instr.beginRound
  refine (sr_getLoop h).bind' fun R1 r r' hl ho => ?_
  have hq := ho
  obtain ⟨⟨e0, e5, e1⟩, ht, e2, e3, e4, e6⟩ := ho
  refine SR.bind' (A := EqA) (sr_setObj (hl.1 _ _ h) ?_ ?_) fun R2 u u' hl2 e => ?_
  · exact trivial
  · exact fun _ => ⟨⟨rfl, e5, e1⟩, ht, e2, e3, e4, e6⟩
  rw [e0]
  split
  · exact sr_eq _
  · exact sr_rt _ _
  · exact sr_rt _ _
  · exact sr_rt _ _
theorem sr_endRound {l l' : Nat} (h : R.rel l l') (j : Option Code) (hj : ∀ c, j = some c → R.ok c) : SR P VA R (Instr.endRound l j) (Instr.endRound l' j) := by
  unfold Instr.endRound
  refine (sr_getLoop h).bind' fun R1 r r' hl ho => ?_
  obtain ⟨⟨e0, e5, e1⟩, ht, e2, e3, e4, e6⟩ := ho
  refine SR.bind' (A := EqA) (sr_setObj (hl.1 _ _ h) ?_ ?_) fun R2 u u' hl2 e => ?_
  · exact trivial
  · exact fun _ => ⟨⟨rfl, rfl, e1⟩, ht, e2, e3, e4, e6.1, e6.2.1, e6.2.2.1, fun c e => (hl.2.2.2.1 _).1 (hj c e)⟩
  exact sr_bool _
theorem sr_endLoop {l l' : Nat} (h : R.rel l l') : SR P (fun R a a' => a' = a ∧ ∀ c, a = some c → R.ok c) R (Instr.endLoop l) (Instr.endLoop l') := by
  unfold Instr.endLoop
  refine (sr_getLoop h).bind' fun R1 r r' hl ho => ?_
  obtain ⟨⟨e0, e5, e1⟩, ht, e2, e3, e4, e6⟩ := ho
  rw [e0]
  refine SR.ite (fun _ => SR.no (Dead.first (dead_rt _) _) _) (fun _ => ?_)
  refine SR.bind' (A := EqA) (sr_setObj (hl.1 _ _ h) ?_ ?_) fun R2 u u' hl2 e => ?_
  · exact trivial
  · exact fun _ => ⟨⟨rfl, e5, e1⟩, ht, e2, e3, e4, e6⟩
  rw [e5]
  exact sr_pure fun R3 h3 => ⟨rfl, fun c e => ((hl2.trans h3).2.2.2.1 _).1 (e6.2.2.2 c e)⟩
theorem sr_takeDeferred {l l' : Nat} (h : R.rel l l') : SR P (fun _ a a' => a = [] ∧ a' = []) R (Instr.takeDeferred l) (Instr.takeDeferred l') := by
  unfold Instr.takeDeferred
  refine (sr_getObj h).bind' fun R1 o o' hl ho => ?_
  obtain ⟨_, ho⟩ := ho
  rcases ho.no with ⟨c, e, f, rfl⟩ | ⟨r, rfl⟩ | ⟨d, rfl⟩ | ⟨a0, l0, rfl⟩
  · exact SR.no (dead_halt _) _
  · exact SR.no (dead_halt _) _
  · cases o' with
    | deferred d' =>
      obtain ⟨rfl, hd⟩ := ho
      rcases hd with rfl | rfl
      · exact SR.no (dead_halt _) _
      · refine SR.bind' (A := EqA) (sr_setObj (hl.1 _ _ h) ?_ ?_) fun R2 u u' hl2 e => sr_pure fun _ _ => ⟨rfl, rfl⟩
        · exact trivial
        · exact fun _ => ⟨rfl, .inl rfl⟩
    | _ => exact ho.elim
  · exact SR.no (dead_halt _) _
theorem sr_newObj {o o' : Obj} (h : OR R 0 o o') : SR P (fun R r r' => R.rel r r' ∧ R.lo r = 0) R (newObj o) (newObj o') := SR.new h fun _ _ _ _ hr => SR.pure fun _ hl => ⟨hl.1 _ _ hr.1, by rw [hl.2.2.2.2]; exact hr.2⟩
/-- What a frame has put off: what loops over functions have collected. -/
def CL0 (R : Ren) : List Deferred → List Deferred → Prop
  | [], [] => True
  | d :: l, d' :: l' => (∃ r r', d = { target := .collected r, args := #[] } ∧ d' = { target := .collected r', args := #[] } ∧ R.rel r r') ∧ CL0 R l l'
  | _, _ => False
theorem CL0.mono {R R' : Ren} (hl : Le R R') : ∀ {l l' : List Deferred}, CL0 R l l' → CL0 R' l l'
  | [], [], _ => trivial
  | _ :: _, _ :: _, ⟨⟨r, r', h1, h2, h3⟩, h⟩ => ⟨⟨r, r', h1, h2, hl.1 _ _ h3⟩, CL0.mono hl h⟩
  | [], _ :: _, h => h.elim
  | _ :: _, [], h => h.elim
/-- What the second frame has besides: what it is to do behind the piece's end, what it has put off, how it was called. -/
abbrev Tl := Option (List Item × List Deferred × CallKind)
def Tl.puts : Tl → List Deferred
  | none => []
  | some (_, D, _) => D
def Tl.knd : Tl → CallKind
  | none => .normal
  | some (_, _, kd) => kd
/-- The bottom frame's alone. -/
def tl (t : Tl) : Bool → Tl
  | true => t
  | false => none
def CLR (R : Ren) (b : Tl) : List Deferred → List Deferred → Prop
  | [], l' => l' = b.puts
  | d :: l, d' :: l' => (∃ r r', d = { target := .collected r, args := #[] } ∧ d' = { target := .collected r', args := #[] } ∧ R.rel r r') ∧ CLR R b l l'
  | _ :: _, [] => False
theorem CLR.mono {R R' : Ren} {b : Tl} (hl : Le R R') : ∀ {l l' : List Deferred}, CLR R b l l' → CLR R' b l l'
  | [], _, h => h
  | _ :: _, _ :: _, ⟨⟨r, r', h1, h2, h3⟩, h⟩ => ⟨⟨r, r', h1, h2, hl.1 _ _ h3⟩, CLR.mono hl h⟩
  | _ :: _, [], h => h.elim
theorem CLR.append {R : Ren} {b : Tl} : ∀ {l l' m m' : List Deferred}, CL0 R l l' → CLR R b m m' → CLR R b (l ++ m) (l' ++ m')
  | [], [], _, _, _, h => h
  | _ :: _, _ :: _, _, _, q, h => ⟨q.1, CLR.append q.2 h⟩
  | [], _ :: _, _, _, q, _ => q.elim
  | _ :: _, [], _, _, q, _ => q.elim
theorem sr_enterLoop (f : FuncId) {x x' : Array Value} (hx : XR R x x') (ps : Array Tmp) (a b : Code) (kf : R.kn f) (ka : R.ok a) (kb : R.ok b) {l l' : Option Nat} (hl : ONR R l l') :
    SR P (fun R p p' => R.rel p.1 p'.1 ∧ CL0 R p.2 p'.2) R (Instr.enterLoop f x ps a b l) (Instr.enterLoop f x' ps a b l') := by
  unfold Instr.enterLoop
  cases l with
  | none =>
    cases l' with
    | some _ => exact hl.elim
    | none =>
      refine SR.bind' (A := fun R r r' => R.rel r r' ∧ R.lo r = 0) (sr_newObj ?_) fun R1 r r' h1 hr => ?_
      · exact ⟨rfl, .inr rfl⟩
      · refine SR.bind' (sr_pure (A := fun R p p' => R.rel p.1 p'.1 ∧ CL0 R p.2 p'.2) fun R2 h2 => ?_) fun R2 p p' h2 hp => ?_
        · exact ⟨h2.1 _ _ hr.1, ⟨_, _, rfl, rfl, h2.1 _ _ hr.1⟩, trivial⟩
        · refine SR.bind' (A := fun R r r' => R.rel r r' ∧ R.lo r = 0) (sr_newObj ?_) fun R3 r r' h3 hr => ?_
          · exact ⟨⟨rfl, rfl, rfl, ((h1.trans h2).2.1 _).2.1 kf⟩, XR.mono (h1.trans h2) hx, rfl, rfl, rfl, hp.1, ((h1.trans h2).2.2.2.1 _).1 ka, ((h1.trans h2).2.2.2.1 _).1 kb, fun c e => by cases e⟩
          · exact sr_pure fun R4 h4 => ⟨h4.1 _ _ hr.1, CL0.mono (h3.trans h4) hp.2⟩
  | some k =>
    cases l' with
    | none => exact hl.elim
    | some k' =>
      refine (sr_getLoop hl).bind' fun R1 r r' h1 hr => ?_
      obtain ⟨⟨e0, e5, e1⟩, ht, e2, e3, e4, e6⟩ := hr
      refine SR.bind' (sr_pure (A := fun R p p' => R.rel p.1 p'.1 ∧ CL0 R p.2 p'.2) fun R2 h2 => ?_) fun R2 p p' h2 hp => ?_
      · exact ⟨h2.1 _ _ e6.1, trivial⟩
      · refine SR.bind' (A := fun R r r' => R.rel r r' ∧ R.lo r = 0) (sr_newObj ?_) fun R3 r r' h3 hr => ?_
        · exact ⟨⟨rfl, rfl, rfl, ((h1.trans h2).2.1 _).2.1 kf⟩, XR.mono (h1.trans h2) hx, rfl, rfl, rfl, hp.1, ((h1.trans h2).2.2.2.1 _).1 ka, ((h1.trans h2).2.2.2.1 _).1 kb, fun c e => by cases e⟩
        · exact sr_pure fun R4 h4 => ⟨h4.1 _ _ hr.1, CL0.mono (h3.trans h4) hp.2⟩
end
end Go.Proofs.YtfbdgdphpdhcpaaDoor.Sm
namespace Go.Proofs.YtfbdgdphpdhcpaaDoor.Sm
open Go

section
variable {P : Program} {R : Ren}
theorem sr_shift (op : BinOp) (k : IntKind) (x : Int) (k' : IntKind) (y : Int) : SR P VA R (Op.shift op k x k' y) (Op.shift op k x k' y) := by
  unfold Op.shift
  refine SR.ite (fun _ => sr_rt _ _) (fun _ => ?_)
  simp only
  split <;> first | exact sr_int _ _ | exact sr_stuck _ _
theorem sr_stringOp (op : BinOp) (x y : ByteArray) : SR P VA R (Op.stringOp op x y) (Op.stringOp op x y) := by
  unfold Op.stringOp
  simp only
  cases op with
  | add => exact SR.ite (fun _ => sr_unsupported _ _) (fun _ => sr_pure fun _ _ => VR.string _ _)
  | _ => first | exact sr_bool _ | exact sr_stuck _ _
theorem sr_floatCmp (op : BinOp) (k : FloatKind) (x y : Nat) : SR P VA R (Op.floatCmp op k x y) (Op.floatCmp op k x y) := by
  unfold Op.floatCmp
  simp only
  cases op <;> first | exact sr_bool _ | exact sr_stuck _ _
theorem sr_floatArith (op : BinOp) (k : FloatKind) (x y : Nat) : SR P VA R (Op.floatArith op k x y) (Op.floatArith op k x y) := by
  unfold Op.floatArith
  cases op <;> first
    | (refine SR.bind' (sr_eq _) fun R1 r r' _ e => ?_
       cases e
       cases r with
       | some r => exact sr_pure fun _ _ => VR.in rfl
       | none => exact (sr_choose _).bind' fun R1 n n' _ e => by cases e; exact sr_pure fun _ _ => VR.in rfl)
    | exact SR.no (Dead.first (dead_halt _) _) _
theorem sr_intToInt (k : IntKind) (n : Int) : SR P VA R (Conv.intToInt k n) (Conv.intToInt k n) := sr_int _ _
/-- Two ints. -/
theorem sr_ints (op : BinOp) (t : TypeId) (k k' : IntKind) (a b : Int) : SR P VA R (binOp op t (.int k a) (.int k' b)) (binOp op t (.int k a) (.int k' b)) := by
  cases op with
  | shl =>
    show SR P VA R (Op.shift .shl k a k' b) (Op.shift .shl k a k' b)
    exact sr_shift _ _ _ _ _
  | shr =>
    show SR P VA R (Op.shift .shr k a k' b) (Op.shift .shr k a k' b)
    exact sr_shift _ _ _ _ _
  | add => exact SR.ite (fun _ => sr_stuck _ _) (fun _ => sr_intArith _ _ _ _)
  | sub => exact SR.ite (fun _ => sr_stuck _ _) (fun _ => sr_intArith _ _ _ _)
  | mul => exact SR.ite (fun _ => sr_stuck _ _) (fun _ => sr_intArith _ _ _ _)
  | quo => exact SR.ite (fun _ => sr_stuck _ _) (fun _ => sr_intDiv _ _ _ _)
  | rem => exact SR.ite (fun _ => sr_stuck _ _) (fun _ => sr_intDiv _ _ _ _)
  | and => exact SR.ite (fun _ => sr_stuck _ _) (fun _ => sr_intBits _ _ _ _)
  | or => exact SR.ite (fun _ => sr_stuck _ _) (fun _ => sr_intBits _ _ _ _)
  | xor => exact SR.ite (fun _ => sr_stuck _ _) (fun _ => sr_intBits _ _ _ _)
  | andNot => exact SR.ite (fun _ => sr_stuck _ _) (fun _ => sr_intBits _ _ _ _)
  | _ => exact SR.ite (fun _ => sr_stuck _ _) (fun _ => sr_intCmp _ _ _)
end
end Go.Proofs.YtfbdgdphpdhcpaaDoor.Sm
namespace Go.Proofs.YtfbdgdphpdhcpaaDoor.Sm
open Go

section
variable {P : Program} {R : Ren}
/-- A test of two addresses comes out the same. -/
theorem SR.same {α : Type} {A : Ren → α → α → Prop} {a a' b b' : Addr} {s s' : Sem α} (ha : AR R a a') (hb : AR R b b') (h : (a' == b') = (a == b) → (a'.block == b'.block) = (a.block == b.block) → SR P A R s s') : SR P A R s s' := by
  intro R2 hl v w e2 hw
  have e : (a'.block == b'.block) = (a.block == b.block) := by
    rw [Bool.eq_iff_iff, beq_iff_eq, beq_iff_eq]
    refine ⟨fun q => hw.inj _ _ _ (hl.1 _ _ ha.1) (by rw [q]; exact hl.1 _ _ hb.1), fun q => hw.fn _ _ _ (hl.1 _ _ ha.1) (by rw [q]; exact hl.1 _ _ hb.1)⟩
  have e2' : (a' == b') = (a == b) := by
    rw [Bool.eq_iff_iff, beq_iff_eq, beq_iff_eq]
    rw [Bool.eq_iff_iff, beq_iff_eq, beq_iff_eq] at e
    obtain ⟨x, y, z⟩ := a
    obtain ⟨x', y', z'⟩ := a'
    obtain ⟨u, o, p⟩ := b
    obtain ⟨u', o', p'⟩ := b'
    obtain ⟨_, h1, h2, _⟩ := ha
    obtain ⟨_, h3, h4, _⟩ := hb
    simp only at h1 h2 h3 h4 e
    subst h1 h2 h3 h4
    simp only [Addr.mk.injEq]
    rw [e]
  exact h e2' e R2 hl v w e2 hw
theorem sr_viewAt {r r' : Nat} (h : R.rel r r') : SR P (fun _ a a' => a = none ∧ a' = none) R (viewAt r) (viewAt r') := by
  unfold viewAt
  refine (sr_shape h).bind' fun R1 s s' hl e => ?_
  cases s with
  | some z =>
    cases s' with
    | none => cases e.1
    | some z' => exact sr_pure fun _ _ => ⟨rfl, rfl⟩
  | none =>
    cases s' with
    | some _ => cases e.1
    | none =>
    refine (sr_getObj (hl.1 _ _ h)).bind' fun R2 o o' _ ho => ?_
    obtain ⟨_, ho⟩ := ho
    cases o <;> first | (cases o' <;> exact ho.elim) | (cases o' <;> first | exact ho.elim | exact sr_pure fun _ _ => ⟨rfl, rfl⟩)
def NOR (R : Ren) : Option (Addr × Bool) → Option (Addr × Bool) → Prop
  | none, none => True
  | some p, some p' => AR R p.1 p'.1 ∧ p'.2 = p.2
  | _, _ => False
theorem sr_numberAt {r r' : Nat} (h : R.rel r r') : SR P NOR R (numberAt r) (numberAt r') := by
  unfold numberAt
  refine (sr_shape h).bind' fun R1 s s' hl e => ?_
  cases s with
  | some z =>
    cases s' with
    | none => cases e.1
    | some z' => exact sr_pure fun _ _ => trivial
  | none =>
    cases s' with
    | some _ => cases e.1
    | none =>
    refine (sr_getObj (hl.1 _ _ h)).bind' fun R2 o o' _ ho => ?_
    obtain ⟨_, ho⟩ := ho
    rcases ho.no with ⟨c, e, f, rfl⟩ | ⟨r, rfl⟩ | ⟨d, rfl⟩ | ⟨a0, l0, rfl⟩ <;> cases o' <;> first | exact ho.elim | exact sr_pure fun _ _ => trivial | exact sr_pure fun _ h2 => ⟨AR.mono h2 ho.1, ho.2⟩
theorem sr_behind {a a' : Addr} (h : AR R a a') : SR P (fun R p p' => AR R p.1 p'.1 ∧ p'.2 = p.2) R (behindNumber a) (behindNumber a') := by
  unfold behindNumber
  refine (sr_numberAt h.1).bind' fun R1 n n' hl hn => ?_
  cases n <;> cases n' <;> first | exact hn.elim | exact sr_pure fun _ h2 => ⟨AR.mono (hl.trans h2) h, rfl⟩ | exact sr_pure fun _ h2 => ⟨AR.mono h2 hn.1, hn.2⟩
theorem sr_asNumber {a a' : Addr} (h : AR R a a') (l : Bool) : SR P VA R (asNumber a l) (asNumber a' l) := by
  unfold asNumber
  refine SR.bind' (A := fun R r r' => R.rel r r' ∧ R.lo r = 0) (sr_newObj ?_) fun R1 r r' _ hr => ?_
  · exact ⟨h, rfl⟩
  · exact sr_pure fun _ h2 => VR.pointer (a := some _) (a' := some _) ⟨h2.1 _ _ hr.1, rfl, rfl, by rw [h2.2.2.2.2, hr.2]; exact Nat.le_refl _⟩
theorem sr_noView {a a' : Addr} (h : AR R a a') : SR P EqA R (noView a) (noView a') := by
  unfold noView
  refine (sr_viewAt h.1).bind' fun R1 o o' _ e => ?_
  obtain ⟨rfl, rfl⟩ := e
  exact sr_eq _
theorem sr_byteOf {a a' : Addr} (h : AR R a a') : SR P EqA R (byteOf a) (byteOf a') := by
  unfold byteOf
  rw [h.2.2.1]
  cases a.spot with
  | some s => exact sr_eq _
  | none =>
    refine sr_program.bind' fun R1 p p' hl e => ?_
    obtain ⟨rfl, rfl⟩ := e
    refine (sr_noView (h.mono hl)).bind' fun R2 u u' hl2 _ => ?_
    refine (sr_shape ((h.mono (hl.trans hl2)).1)).bind' fun R3 s s' hl3 es => ?_
    cases s with
    | none => exact SR.no (dead_halt _) _
    | some z =>
      obtain ⟨e, n⟩ := z
      cases s' with
      | none => cases es.1
      | some z' =>
      obtain ⟨e', n'⟩ := z'
      have es' : e' = e := by injection es.1
      subst es'
      simp only
      refine SR.ite (fun _ => sr_eq _) (fun _ => ?_)
      rw [h.2.1]
      split
      · exact sr_eq _
      · exact SR.no (dead_halt _) _
theorem SR.lo0 {α : Type} {A : Ren → α → α → Prop} {s s' : Sem α} (h : (∀ b, R.lo b = 0) → SR P A R s s') : SR P A R s s' := fun R2 hl v w e2 hw =>
  h (fun b => by have := hw.low.1.2 b; rw [hl.2.2.2.2] at this; exact this) R2 hl v w e2 hw
theorem cellAt_more {d e n1 n2 off o : Nat} {n : Int} (h : n1 ≤ n2) (hc : cellAtBytes P d e (n1 / P.cellsOf e) off n = some o) : cellAtBytes P d e (n2 / P.cellsOf e) off n = some o := by
  unfold cellAtBytes at hc ⊢
  simp only at hc ⊢
  have hle : Int.ofNat (n1 / P.cellsOf e * P.bytesOf e) ≤ Int.ofNat (n2 / P.cellsOf e * P.bytesOf e) := Int.ofNat_le.2 (Nat.mul_le_mul_right _ (Nat.div_le_div_right h))
  split at hc
  · cases hc
  · rename_i h0
    rw [if_neg h0]
    simp only [Option.bind_eq_bind, Option.bind_eq_some_iff] at hc ⊢
    obtain ⟨x, h1, h2⟩ := hc
    refine ⟨x, h1, ?_⟩
    split at h2
    · cases h2
    · rename_i h3
      simp only [Bool.or_eq_true, decide_eq_true_eq, not_or] at h3
      rw [if_neg (by simp only [Bool.or_eq_true, decide_eq_true_eq, not_or]; exact ⟨h3.1, fun q => h3.2 (Int.le_trans hle q)⟩)]
      exact h2
theorem tame_asInt (y : Value) : Tame P (asInt y) := by
  unfold asInt asIntOf
  refine Tame.bind ?_ fun _ => tame_pure _
  split <;> first | exact tame_pure _ | exact tame_halt _
theorem dead_unsafeAdd (ts : Array TypeId) (t : TypeId) (y : Value) : Dead P (Builtin.unsafeAdd_ ts t #[.pointer none, y]) := by
  unfold Builtin.unsafeAdd_
  refine Dead.after (tame_asInt y) fun n => ?_
  by_cases h : n = 0
  · simp only [if_pos h]; exact Dead.first (dead_halt _) _
  · simp only [if_neg h]
    by_cases h2 : n < 0
    · simp only [if_pos h2]; exact Dead.first (dead_halt _) _
    · simp only [if_neg h2]; exact dead_halt _
theorem SR.imp {α : Type} {A B : Ren → α → α → Prop} {s s' : Sem α} (h : SR P A R s s') (hi : ∀ R a a', A R a a' → B R a a') : SR P B R s s' := fun R2 hl v w e2 hw => by
  obtain ⟨q, ql⟩ := h R2 hl v w e2 hw
  refine ⟨?_, ql⟩
  cases hr : s.run P v with
  | ok a v' =>
    rw [hr] at q
    obtain ⟨R', a', w', es', e, ha, hg⟩ := q
    exact ⟨R', a', w', es', e, hi _ _ _ ha, hg⟩
  | halt x v' =>
    rw [hr] at q
    exact q
/-- A place each. -/
def PA (R : Ren) (z z' : Value) : Prop := ∃ a a', z = .pointer (some a) ∧ z' = .pointer (some a') ∧ AR R a a'
theorem sr_unsafeAddP (ts : Array TypeId) (t : TypeId) {p p' y y' : Value} (hp : VR R p p') (hy : VR R y y') : SR P PA R (Builtin.unsafeAdd_ ts t #[p, y]) (Builtin.unsafeAdd_ ts t #[p', y']) := by
  have q := hp.out
  cases p with
  | pointer a =>
    cases a with
    | none => exact SR.no (dead_unsafeAdd _ _ _) _
    | some a0 =>
    obtain ⟨a', rfl, ha0⟩ := q
    have ha : OAR R (some a0) (some a') := ha0
    generalize some a0 = a at ha hp ⊢
    generalize some a' = a' at ha hp ⊢
    unfold Builtin.unsafeAdd_
    refine (sr_asInt hy).bind' fun R1 n n' hl e => ?_
    cases e
    refine SR.ite (fun _ => ?_) (fun _ => ?_)
    · cases a with
      | none => cases a' with | none => exact SR.no (dead_halt _) _ | some _ => exact ha.elim
      | some a =>
        cases a' with
        | none => exact ha.elim
        | some a' =>
          refine (sr_viewAt (hl.1 _ _ ha.1)).bind' fun R2 o o' hl2 e => ?_
          obtain ⟨rfl, rfl⟩ := e
          exact sr_pure fun _ h3 => ⟨a, a', rfl, rfl, AR.mono (hl.trans (hl2.trans h3)) ha⟩
    · refine SR.ite (fun _ => SR.no (Dead.first (dead_halt _) _) _) (fun _ => ?_)
      cases a with
      | none => cases a' with | none => exact SR.no (dead_halt _) _ | some _ => exact ha.elim
      | some a =>
        cases a' with
        | none => exact ha.elim
        | some a' =>
          refine (sr_shape (hl.1 _ _ ha.1)).bind' fun R2 s s' hl2 es => ?_
          cases s with
          | none => exact SR.no (dead_halt _) _
          | some z =>
            cases s' with
            | none => cases es.1
            | some z' =>
            obtain ⟨e, n1⟩ := z
            obtain ⟨e', n2⟩ := z'
            have es1 : e' = e := by injection es.1
            have es2 : n1 ≤ n2 := es.2 _ _ rfl rfl
            subst es1
            simp only
            refine SR.lo0 fun hlo => ?_
            refine sr_program.bind' fun R3 g g' hl3 e => ?_
            obtain ⟨p1, p2⟩ := e
            rw [p1, p2]
            have ha' := AR.mono (hl.trans (hl2.trans hl3)) ha
            rw [ha'.2.1]
            have hlo3 : ∀ b, R3.lo b = 0 := fun b => by rw [hl3.2.2.2.2]; exact hlo b
            cases hq : cellAtBytes P P.depth e' (n1 / P.cellsOf e') a.off n with
            | none => exact SR.no (dead_halt _) _
            | some off =>
              rw [cellAt_more es2 hq]
              exact sr_pure fun _ h4 => ⟨_, _, rfl, rfl, h4.1 _ _ ha'.1, rfl, ha'.2.2.1, by rw [h4.2.2.2.2, hlo3]; exact Nat.zero_le _⟩
  | _ => exact SR.no (dead_halt _) _
theorem sr_unsafeAdd (ts : Array TypeId) (t : TypeId) {p p' y y' : Value} (hp : VR R p p') (hy : VR R y y') : SR P VA R (Builtin.unsafeAdd_ ts t #[p, y]) (Builtin.unsafeAdd_ ts t #[p', y']) := (sr_unsafeAddP ts t hp hy).imp fun _ _ _ h => by
  obtain ⟨a, a', rfl, rfl, h⟩ := h
  exact VR.pointer (a := some a) (a' := some a') h
end
end Go.Proofs.YtfbdgdphpdhcpaaDoor.Sm
