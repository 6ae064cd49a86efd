/-
  Operators on two values, block for block. Conditions: the globals lie below the bound under which blocks bear the same number; where two are held against one another the type is simple.
  Operators on two values, block for block. Conditions: the globals lie below the bound under which blocks bear the same number; where two are held against one another the type is simple.
-/
import Derived.Test.YtfbdgdphpdhcpaaDoorSimM
namespace Go.Proofs.YtfbdgdphpdhcpaaDoor.Sm
open Go

section
variable {P : Program} {R : Ren}
/-- A block below the bound is the same in both. -/
theorem SR.lowsame {α : Type} {A : Ren → α → α → Prop} {b b' : Nat} {s s' : Sem α} (hb : R.rel b b') (n : Nat) (hn : n ≤ R.low) (h : decide (b' < n) = decide (b < n) → SR P A R s s') : SR P A R s s' := by
  intro R2 hl v w e2 hw
  have hl2 : R2.low = R.low := hl.2.2.1
  have hr := hl.1 _ _ hb
  have e : decide (b' < n) = decide (b < n) := by
    rw [decide_eq_decide]
    constructor
    · intro q
      have := hw.same _ _ hr (.inr (by omega)); omega
    · intro q
      have := hw.same _ _ hr (.inl (by omega)); omega
  exact h e R2 hl v w e2 hw
theorem Dead.ite {α : Type} {c : Prop} [Decidable c] {a b : Sem α} (h1 : c → Dead P a) (h2 : ¬ c → Dead P b) : Dead P (if c then a else b) := by
  by_cases h : c
  · rw [if_pos h]; exact h1 h
  · rw [if_neg h]; exact h2 h
theorem dead_movedNumber (t : TypeId) (y : Value) : Dead P (movedNumber t (.pointer none) y) := by
  unfold movedNumber
  refine Dead.after (tame_underlying t) fun d => ?_
  exact Dead.ite (fun _ => Dead.first (dead_halt _) _) (fun _ => dead_unsafeAdd _ _ _)
theorem sr_movedNumber (t : TypeId) {x x' y y' : Value} (hx : VR R x x') (hy : VR R y y') : SR P VA R (movedNumber t x y) (movedNumber t x' y') := by
  unfold movedNumber
  refine (sr_underlying t).bind' fun R1 d d' hl e => ?_
  cases e
  refine SR.ite (fun _ => SR.no (Dead.first (dead_halt _) _) _) (fun _ => ?_)
  · have q := (hx.mono hl).out
    cases x with
    | pointer a =>
      cases a with
      | none => exact SR.no (dead_unsafeAdd _ _ _) _
      | some a =>
          obtain ⟨a', rfl, ha⟩ := q
          refine (sr_behind ha).bind' fun R2 p p' hl2 hp => ?_
          obtain ⟨b, l⟩ := p
          obtain ⟨b', l'⟩ := p'
          obtain ⟨hb, rfl⟩ := hp
          refine (sr_unsafeAddP _ _ (VR.pointer (a := some b) (a' := some b') hb) (hy.mono (hl.trans hl2))).bind' fun R3 z z' hl3 hz => ?_
          obtain ⟨c, c', rfl, rfl, hc⟩ := hz
          exact sr_asNumber hc _
    | _ => exact SR.no (dead_halt _) _
theorem sr_movedPointer (t : TypeId) {a a' : Option Addr} {y y' : Value} (ha : OAR R a a') (hy : VR R y y') : SR P VA R (movedPointer t (.pointer a) y) (movedPointer t (.pointer a') y') := by
  unfold movedPointer
  cases a with
  | none => exact SR.no (dead_unsafeAdd _ _ _) _
  | some a =>
    cases a' with
    | none => exact ha.elim
    | some a' =>
      refine (sr_numberAt ha.1).bind' fun R2 n n' hl hn => ?_
      cases n with
      | none =>
        cases n' with
        | none => exact sr_unsafeAdd #[] t (VR.pointer (a := some a) (a' := some a') (AR.mono hl ha)) (hy.mono hl)
        | some _ => exact hn.elim
      | some _ =>
        cases n' with
        | none => exact hn.elim
        | some _ => exact SR.no (Dead.first (dead_halt _) _) _
theorem sr_twoPlaces (hlow : P.globals.size ≤ R.low) {a a' b b' : Addr} (ha : AR R a a') (hb : AR R b b') : SR P EqA R (Op.twoPlaces a b) (Op.twoPlaces a' b') := by
  unfold Op.twoPlaces
  refine SR.same ha hb fun _ e => ?_
  refine SR.lowsame ha.1 P.globals.size hlow fun e2 => ?_
  refine sr_program.bind' fun R1 p p' hl h => ?_
  obtain ⟨h1, h2⟩ := h
  rw [h1, h2]
  have e3 : decide (a'.block ≥ P.globals.size) = decide (a.block ≥ P.globals.size) := by
    rw [decide_eq_decide] at e2 ⊢; omega
  have e1 : (a'.block != b'.block) = (a.block != b.block) := by unfold bne; rw [e]
  rw [e1, e3]
  refine SR.ite (fun _ => SR.no (Dead.first (dead_halt _) _) _) (fun _ => ?_)
  refine (sr_byteOf (AR.mono hl ha)).bind' fun R2 x x' hl2 q => ?_
  cases q
  refine (sr_byteOf (AR.mono (hl.trans hl2) hb)).bind' fun R3 y y' hl3 q => ?_
  cases q
  exact sr_eq _
theorem sr_addrSub (hlow : P.globals.size ≤ R.low) (k : IntKind) {a a' b b' : Addr} (ha : AR R a a') (hb : AR R b b') : SR P VA R (Op.addrSub k a b) (Op.addrSub k a' b') := by
  unfold Op.addrSub
  exact (sr_twoPlaces hlow ha hb).bind' fun R1 p p' _ e => by cases e; exact sr_int _ _
theorem sr_addrCmp (hlow : P.globals.size ≤ R.low) (op : BinOp) {a a' b b' : Addr} (ha : AR R a a') (hb : AR R b b') : SR P VA R (Op.addrCmp op a b) (Op.addrCmp op a' b') := by
  unfold Op.addrCmp
  refine (sr_twoPlaces hlow ha hb).bind' fun R1 p p' _ e => ?_
  cases e
  split
  split <;> first | exact sr_bool _ | exact SR.no (dead_halt _) _
theorem sr_addrMod (k : IntKind) {a a' : Addr} (ha : AR R a a') (n : Int) : SR P VA R (Op.addrMod k a n) (Op.addrMod k a' n) := by
  unfold Op.addrMod
  refine (sr_shape ha.1).bind' fun R1 s s' hl es => ?_
  cases s with
  | none => exact SR.no (dead_halt _) _
  | some z =>
    cases s' with
    | none => cases es.1
    | some z' =>
    obtain ⟨e, n⟩ := z
    obtain ⟨e', n'⟩ := z'
    have es' : e' = e := by injection es.1
    subst es'
    refine (sr_typeInfo _).bind' fun R2 i i' hl2 e => ?_
    cases e
    refine SR.ite (fun _ => SR.no (Dead.first (dead_halt _) _) _) (fun _ => ?_)
    exact (sr_byteOf (AR.mono (hl.trans hl2) ha)).bind' fun R3 x x' _ e => by cases e; exact sr_int _ _
/-- Terms that touch no block, and yield what names none. -/
def Neut (P : Program) {α : Type} (G : α → Prop) : Sem α → Prop
  | .pure v => G v
  | .choose _ k => ∀ n, Neut P G (k n)
  | .program k => Neut P G (k P)
  | .halt x => PlainH x
  | _ => False
theorem Neut.bind {α β : Type} {G : α → Prop} {H : β → Prop} : ∀ {s : Sem α} {f : α → Sem β}, Neut P G s → (∀ a, G a → Neut P H (f a)) → Neut P H (s.bind f)
  | .pure v, _, h, hf => hf v h
  | .choose _ _, _, h, hf => fun n => Neut.bind (h n) hf
  | .program k, _, h, hf => Neut.bind (s := k P) h hf
  | .halt _, _, h, _ => h
  | .load .., _, h, _ => h.elim
  | .store .., _, h, _ => h.elim
  | .new .., _, h, _ => h.elim
  | .shape .., _, h, _ => h.elim
  | .freeze .., _, h, _ => h.elim
  | .frozen .., _, h, _ => h.elim
  | .getObj .., _, h, _ => h.elim
  | .setObj .., _, h, _ => h.elim
  | .sys .., _, h, _ => h.elim
  | .mark .., _, h, _ => h.elim
theorem Neut.bind' {α β : Type} {G : α → Prop} {H : β → Prop} {s : Sem α} {f : α → Sem β} (h : Neut P G s) (hf : ∀ a, G a → Neut P H (f a)) : Neut P H (s >>= f) := Neut.bind h hf
theorem sr_neut {α : Type} {A : Ren → α → α → Prop} {G : α → Prop} (hA : ∀ a, G a → ∀ R, A R a a) : ∀ {s : Sem α} {R : Ren}, Neut P G s → SR P A R s s
  | .pure v, _, h => SR.pure fun _ _ => hA v h _
  | .choose q _, _, h => SR.choose q fun n => sr_neut hA (h n)
  | .program _, _, h => SR.program (sr_neut hA h)
  | .halt x, _, h => SR.dead _ fun w => ⟨⟨x, w, rfl, h, Dk.refl w⟩, fun _ _ => rfl⟩
  | .load .., _, h => h.elim
  | .store .., _, h => h.elim
  | .new .., _, h => h.elim
  | .shape .., _, h => h.elim
  | .freeze .., _, h => h.elim
  | .frozen .., _, h => h.elim
  | .getObj .., _, h => h.elim
  | .setObj .., _, h => h.elim
  | .sys .., _, h => h.elim
  | .mark .., _, h => h.elim
def Tr {α : Type} : α → Prop := fun _ => True
def Fl : Value → Prop := fun v => ∃ k n, v = .float k n
theorem neut_pure {α : Type} {G : α → Prop} {a : α} (h : G a) : Neut P G (pure a) := h
theorem neut_choose (q : Question) : Neut P Tr (choose q) := fun _ => trivial
theorem neut_floatArith (op : BinOp) (k : FloatKind) (x y : Nat) : Neut P Fl (Op.floatArith op k x y) := by
  unfold Op.floatArith
  cases op <;> first
    | (refine Neut.bind' (G := Tr) (neut_pure trivial) fun r _ => ?_
       cases r with
       | some r => exact ⟨_, _, rfl⟩
       | none => exact (neut_choose _).bind' fun n _ => ⟨_, _, rfl⟩)
    | exact trivial
theorem neut_arith (op : BinOp) (k : FloatKind) (x y : Nat) : Neut P Tr (Op.Complex.arith op k x y) := by
  unfold Op.Complex.arith
  refine (neut_floatArith op k x y).bind' fun v h => ?_
  obtain ⟨_, _, rfl⟩ := h
  exact trivial
theorem neut_cmp (op : BinOp) (k : FloatKind) (x y : Nat) : Neut P Tr (Op.Complex.cmp op k x y) := by
  unfold Op.Complex.cmp Op.floatCmp
  cases op <;> exact trivial
theorem neut_floatToFloat (s : FloatKind) (b : Nat) (d : FloatKind) : Neut P Tr (Conv.floatToFloat s b d) := by
  unfold Conv.floatToFloat
  repeat' first
    | exact trivial
    | (refine Neut.bind' (neut_choose _) fun n _ => ?_)
    | (dsimp only; split)
    | split
theorem neut_conv (s : FloatKind) (b : Nat) (d : FloatKind) : Neut P Tr (Op.Complex.conv s b d) := by
  unfold Op.Complex.conv
  split
  · exact trivial
  · refine (neut_floatToFloat _ _ _).bind' fun v _ => ?_
    split <;> exact trivial
theorem neut_ite {α : Type} {G : α → Prop} {c : Prop} [Decidable c] {s t : Sem α} (h1 : Neut P G s) (h2 : Neut P G t) : Neut P G (if c then s else t) := by split <;> assumption
theorem neut_any {α β : Type} {H : β → Prop} {s : Sem α} {f : α → Sem β} (h : Neut P Tr s) (hf : ∀ a, Neut P H (f a)) : Neut P H (s >>= f) := h.bind' fun a _ => hf a
theorem neut_quotient (a b c d : Nat) : Neut P Tr (Op.Complex.quotient a b c d) := by
  unfold Op.Complex.quotient Op.Complex.corrected Op.Complex.quo Op.Complex.add Op.Complex.sub Op.Complex.mul
  repeat' first
    | exact trivial
    | exact neut_arith _ _ _ _
    | exact neut_cmp _ _ _ _
    | (refine neut_any ?_ fun _ => ?_)
    | (refine neut_ite ?_ ?_)
    | split
theorem neut_product (a b c d : Nat) : Neut P Tr (Op.Complex.product a b c d) := by
  unfold Op.Complex.product Op.Complex.add Op.Complex.sub Op.Complex.mul
  repeat' first
    | exact trivial
    | exact neut_arith _ _ _ _
    | (refine neut_any ?_ fun _ => ?_)
def Bare : Value → Prop := fun v => ∀ R, VR R v v
theorem neut_complexOp (op : BinOp) (k : FloatKind) (a b c d : Nat) : Neut P Bare (Op.complexOp op k a b c d) := by
  unfold Op.complexOp
  cases op <;> (try simp only) <;> repeat' first
    | exact trivial
    | exact neut_arith _ _ _ _
    | exact neut_cmp _ _ _ _
    | exact neut_conv _ _ _
    | exact neut_product _ _ _ _
    | exact neut_quotient _ _ _ _
    | exact neut_pure (G := Bare) (fun R => VR.in rfl)
    | (refine neut_any ?_ fun _ => ?_)
    | (refine neut_ite ?_ ?_)
    | split
theorem sr_complexOp (op : BinOp) (k : FloatKind) (a b c d : Nat) : SR P VA R (Op.complexOp op k a b c d) (Op.complexOp op k a b c d) := sr_neut (fun _ h R => h R) (neut_complexOp op k a b c d)
end
end Go.Proofs.YtfbdgdphpdhcpaaDoor.Sm
namespace Go.Proofs.YtfbdgdphpdhcpaaDoor.Sm
open Go

/-- Types at which two are held against one another without a look at what addresses share. -/
def simpleD : TypeDesc → Bool
  | .bool | .int _ | .float _ | .string | .slice _ | .func .. | .map .. => true
  | _ => false
def simpleT (P : Program) (t : TypeId) : Bool := match P.underlying t with
  | some d => simpleD d
  | none => true
section
variable {P : Program} {R : Ren}
theorem sr_under (t : TypeId) : SR P (fun _ a a' => a' = a ∧ P.underlying t = some a) R (underlying t) (underlying t) := by
  unfold underlying
  refine sr_program.bind' fun R' p p' _ e => ?_
  obtain ⟨rfl, rfl⟩ := e
  split
  · rename_i d hd; exact sr_pure fun _ _ => ⟨rfl, hd⟩
  · exact sr_stuck _ _
def BA : Ren → Bool → Bool → Prop := fun _ b b' => b' = b
theorem sr_b (b : Bool) : SR P BA R (pure b) (pure b) := sr_pure fun _ _ => rfl
theorem OAR.isNone {a a' : Option Addr} (h : OAR R a a') : a'.isNone = a.isNone := by
  cases a <;> cases a' <;> first | exact h.elim | rfl
theorem ONR.isNone {a a' : Option Nat} (h : ONR R a a') : a'.isNone = a.isNone := by
  cases a <;> cases a' <;> first | exact h.elim | rfl
theorem sr_equal (hlow : P.globals.size ≤ R.low) (t : TypeId) (ht : simpleT P t = true) {x x' y y' : Value} (hx : VR R x x') (hy : VR R y y') : SR P BA R (Op.equal t x y) (Op.equal t x' y') := by
  unfold Op.equal
  rw [show Op.maxDepth = 9999 + 1 from rfl]
  generalize 9999 = dp
  simp only [Op.equalIn]
  refine (sr_under t).bind' fun R1 d d' hl e => ?_
  obtain ⟨rfl, hd⟩ := e
  have hs : simpleD d' = true := by unfold simpleT at ht; rw [hd] at ht; exact ht
  have qx := (hx.mono hl).out
  have qy := (hy.mono hl).out
  have hlow1 : P.globals.size ≤ R1.low := by rw [hl.2.2.1]; exact hlow
  cases d' with
  | bool =>
    cases x with
    | bool a =>
      cases (show x' = _ from qx)
      cases y with
      | bool b => cases (show y' = _ from qy); exact sr_b _
      | _ => exact SR.no (dead_halt _) _
    | _ => exact SR.no (dead_halt _) _
  | int ik =>
    cases x with
    | int k a =>
      cases (show x' = _ from qx)
      cases y with
      | int k' b =>
        cases (show y' = _ from qy)
        exact SR.ite (fun _ => sr_b _) (fun _ => SR.no (dead_halt _) _)
      | pointer b =>
        cases b with
        | none => exact SR.no (dead_halt _) _
        | some b =>
            obtain ⟨b', rfl, hb⟩ := qy
            by_cases h0 : a = 0
            · subst h0; exact sr_b _
            · cases a with
              | ofNat n => cases n with | zero => exact absurd rfl h0 | succ n => exact SR.no (dead_halt _) _
              | negSucc n => exact SR.no (dead_halt _) _
      | _ => exact SR.no (dead_halt _) _
    | pointer a =>
      cases a with
      | none => cases y <;> exact SR.no (dead_halt _) _
      | some a =>
          obtain ⟨a', rfl, ha⟩ := qx
          cases y with
          | int k' b =>
            cases (show y' = _ from qy)
            by_cases h0 : b = 0
            · subst h0; exact sr_b _
            · cases b with
              | ofNat n => cases n with | zero => exact absurd rfl h0 | succ n => exact SR.no (dead_halt _) _
              | negSucc n => exact SR.no (dead_halt _) _
          | pointer b =>
            cases b with
            | none => exact SR.no (dead_halt _) _
            | some b =>
                obtain ⟨b', rfl, hb⟩ := qy
                refine (sr_behind ha).bind' fun R2 p p' hl2 hp => ?_
                obtain ⟨a, l⟩ := p
                obtain ⟨a', l'⟩ := p'
                refine (sr_behind (AR.mono hl2 hb)).bind' fun R3 p p' hl3 hp' => ?_
                obtain ⟨b, m⟩ := p
                obtain ⟨b', m'⟩ := p'
                have ha := AR.mono hl3 hp.1
                have hb := hp'.1
                simp only at ha hb ⊢
                have hlow3 : P.globals.size ≤ R3.low := by rw [hl3.2.2.1, hl2.2.2.1]; exact hlow1
                refine SR.same ha hb fun e1 e2 => ?_
                refine SR.lowsame ha.1 P.globals.size hlow3 fun e3 => ?_
                rw [e2]
                refine sr_program.bind' fun R4 g g' hl4 h => ?_
                obtain ⟨h1, h2⟩ := h
                rw [h1, h2, e3]
                refine SR.ite (fun _ => ?_) (fun _ => ?_)
                · refine (sr_byteOf (AR.mono hl4 ha)).bind' fun R5 u u' hl5 e => ?_
                  cases e
                  refine (sr_byteOf (AR.mono (hl4.trans hl5) hb)).bind' fun R6 u u' hl6 e => ?_
                  cases e
                  exact sr_b _
                · refine (sr_typeInfo t).bind' fun R5 i i' hl5 e => ?_
                  cases e
                  rw [e1]
                  split
                  · exact SR.ite (fun _ => sr_b _) (fun _ => SR.no (dead_halt _) _)
                  · exact SR.no (dead_halt _) _
          | _ => exact SR.no (dead_halt _) _
    | _ =>
      cases y with
      | pointer b => exact SR.no (dead_halt _) _
      | _ => exact SR.no (dead_halt _) _
  | float fk =>
    cases x with
    | float k a =>
      cases (show x' = _ from qx)
      cases y with
      | float k' b => cases (show y' = _ from qy); exact SR.ite (fun _ => sr_b _) (fun _ => SR.no (dead_halt _) _)
      | _ => exact SR.no (dead_halt _) _
    | _ => exact SR.no (dead_halt _) _
  | string =>
    cases x with
    | string a =>
      cases (show x' = _ from qx)
      cases y with
      | string b => cases (show y' = _ from qy); exact sr_b _
      | _ => exact SR.no (dead_halt _) _
    | _ => exact SR.no (dead_halt _) _
  | slice el =>
    cases x with
    | slice a l c =>
      obtain ⟨a', rfl, ha⟩ := qx
      cases y with
      | slice b m k =>
        obtain ⟨b', rfl, hb⟩ := qy
        cases a with
        | none =>
          cases a' with
          | some _ => exact ha.elim
          | none =>
            simp only
            rw [hb.isNone]; exact sr_b _
        | some a =>
          cases a' with
          | none => exact ha.elim
          | some a' =>
            cases b with
            | none => cases b' with | none => exact sr_b _ | some _ => exact hb.elim
            | some b => exact SR.no (dead_halt _) _
      | _ => cases a <;> exact SR.no (dead_halt _) _
    | _ => exact SR.no (dead_halt _) _
  | map kk el =>
    cases x with
    | map a =>
      obtain ⟨a', rfl, ha⟩ := qx
      cases y with
      | map b =>
        obtain ⟨b', rfl, hb⟩ := qy
        cases a with
        | none =>
          cases a' with
          | some _ => exact ha.elim
          | none =>
            simp only
            rw [hb.isNone]; exact sr_b _
        | some a =>
          cases a' with
          | none => exact ha.elim
          | some a' =>
            cases b with
            | none => cases b' with | none => exact sr_b _ | some _ => exact hb.elim
            | some b => exact SR.no (dead_halt _) _
      | _ => cases a <;> exact SR.no (dead_halt _) _
    | _ => exact SR.no (dead_halt _) _
  | func a b c =>
    cases x with
    | nilFunc =>
      cases (show x' = _ from qx)
      cases y with
      | nilFunc => cases (show y' = _ from qy); exact sr_b _
      | func f p q => obtain ⟨_, _, _, rfl, _⟩ := qy; exact sr_b _
      | _ => exact SR.no (dead_halt _) _
    | func f p q =>
      obtain ⟨_, _, _, rfl, _⟩ := qx
      cases y with
      | nilFunc => cases (show y' = _ from qy); exact sr_b _
      | _ => exact SR.no (dead_halt _) _
    | _ => exact SR.no (dead_halt _) _
  | _ => cases hs
end
end Go.Proofs.YtfbdgdphpdhcpaaDoor.Sm
