/-
  Operations, block for block: append, len, index, the one-sided operators. Condition: Zs.
-/
import Derived.Test.YtfbdgdphpdhcpaaDoorSimQ
namespace Go.Proofs.YtfbdgdphpdhcpaaDoor.Sm
open Go

section
variable {P : Program} {R : Ren}
theorem SR.ite {α : Type} {A : Ren → α → α → Prop} {c : Prop} [Decidable c] {s t s' t' : Sem α} (h1 : c → SR P A R s s') (h2 : ¬ c → SR P A R t t') : SR P A R (if c then s else t) (if c then s' else t') := by
  by_cases h : c
  · rw [if_pos h, if_pos h]; exact h1 h
  · rw [if_neg h, if_neg h]; exact h2 h
theorem sr_lenOf {v v' : Value} (h : VR R v v') : SR P EqA R (Builtin.lenOf v) (Builtin.lenOf v') := by
  have q := h.out
  cases v with
  | slice a n c => obtain ⟨a', rfl, _⟩ := q; exact sr_eq _
  | string s => cases (show v' = _ from q); exact sr_eq _
  | _ => exact SR.no (dead_halt _) _
theorem XR.refl_of {x : Array Value} (h : ∀ (i : Nat) v, x[i]? = some v → VR R v v) : XR R x x := ⟨rfl, fun i v v' a b => by rw [a] at b; cases b; exact h i v a⟩
theorem sr_firstCells (size n : Nat) {v v' : Value} (h : VR R v v') : SR P XA R (Builtin.firstCells size n v) (Builtin.firstCells size n v') := by
  have q := h.out
  cases v with
  | slice a l c =>
    obtain ⟨a', rfl, ha⟩ := q
    cases a with
    | none =>
      cases a' with
      | none => exact sr_pure fun _ _ => XR.nil
      | some a' => exact ha.elim
    | some a =>
      cases a' with
      | none => exact ha.elim
      | some a' => exact sr_loadCells ha _
  | string s =>
    cases (show v' = _ from q)
    refine sr_pure fun R' _ => XR.refl_of fun i v hv => ?_
    rw [Array.getElem?_map] at hv
    cases e : (s.extract 0 n).data[i]? with
    | none => rw [e] at hv; cases hv
    | some b => rw [e] at hv; cases hv; exact VR.int _ _ _
  | _ => exact SR.no (dead_halt _) _
theorem XR.append {x x' y y' : Array Value} (h : XR R x x') (q : XR R y y') : XR R (x ++ y) (x' ++ y') := by
  refine ⟨by simp [h.1, q.1], fun i v v' hv hv' => ?_⟩
  rw [Array.getElem?_append] at hv hv'
  rw [h.1] at hv'
  split at hv
  · rename_i hi; rw [if_pos hi] at hv'; exact h.2 _ _ _ hv hv'
  · rename_i hi; rw [if_neg hi] at hv'; exact q.2 _ _ _ hv hv'
theorem XR.zeroCells {z z' : Array Value} (h : XR R z z') (n : Nat) : XR R (Builtin.zeroCells z n) (Builtin.zeroCells z' n) := by
  unfold Builtin.zeroCells
  have e := h.range (n * z.size)
  rw [h.1]
  rw [h.1] at e
  exact e
theorem sr_getObj {r r' : Nat} (h : R.rel r r') : SR P (fun R o o' => ∃ l0, OR R l0 o o') R (getObj r) (getObj r') := SR.getObj h fun _ _ _ _ _ ho => SR.pure fun _ h2 => ⟨_, OR.mono h2 ho⟩
theorem OR.no {R : Ren} {l0 : Nat} {o o' : Obj} (h : OR R l0 o o') : (∃ c e f, o = .cells c e f) ∨ (∃ l, o = .loop l) ∨ (∃ d, o = .deferred d) ∨ ∃ a l, o = .number a l := by
  cases o <;> first | exact .inl ⟨_, _, _, rfl⟩ | exact .inr (.inl ⟨_, rfl⟩) | exact .inr (.inr (.inl ⟨_, rfl⟩)) | exact .inr (.inr (.inr ⟨_, _, rfl⟩)) | (cases o' <;> exact h.elim)
/-- No channel is asked how long it is. -/
def lenB (P : Program) (ts : Array TypeId) : Bool := match ts[0]? with
  | some t => match P.underlying t with
    | some (.chan ..) => false
    | _ => true
  | none => true
theorem sr_underP (t : TypeId) : SR P (fun _ a a' => a' = a ∧ P.underlying t = some a) R (underlying t) (underlying t) := by
  unfold underlying
  refine sr_program.bind' fun R' p p' _ e => ?_
  obtain ⟨rfl, rfl⟩ := e
  split
  · rename_i d hd; exact sr_pure fun _ _ => ⟨rfl, hd⟩
  · exact sr_stuck _ _
theorem sr_len (ts : Array TypeId) (t : TypeId) (hts : lenB P ts = true) {x x' : Array Value} (h : XR R x x') : SR P VA R (Builtin.len_ ts t x) (Builtin.len_ ts t x') := by
  unfold Builtin.len_
  cases e0 : ts[0]? with
  | none => exact SR.no (dead_halt _) _
  | some t0 =>
    cases e1 : x[0]? with
    | none => exact SR.no (dead_halt _) _
    | some v =>
      obtain ⟨v', e2, hv⟩ := h.at e1
      rw [e2]
      simp only
      refine (sr_underP t0).bind' fun R1 d d' hl e => ?_
      obtain ⟨rfl, hd⟩ := e
      unfold lenB at hts
      rw [e0] at hts
      simp only [hd] at hts
      have q := (hv.mono hl).out
      cases d' with
      | array n elem => exact sr_int _ _
      | pointer arr =>
        refine (sr_underlying arr).bind' fun R2 d d' hl e => ?_
        cases e
        cases d with
        | array n elem => exact sr_int _ _
        | _ => exact SR.no (dead_halt _) _
      | string =>
        cases v with
        | string s => cases (show v' = _ from q); exact sr_int _ _
        | _ => exact SR.no (dead_halt _) _
      | slice elem =>
        cases v with
        | slice a n c => obtain ⟨a', rfl, _⟩ := q; exact sr_int _ _
        | _ => exact SR.no (dead_halt _) _
      | map k elem =>
        cases v with
        | map r =>
          obtain ⟨r', rfl, hr⟩ := q
          cases r with
          | none =>
            cases r' with
            | none => exact sr_int _ _
            | some _ => exact hr.elim
          | some r =>
            cases r' with
            | none => exact hr.elim
            | some r' =>
              refine (sr_getObj hr).bind' fun R2 o o' _ ho => ?_
              obtain ⟨_, ho⟩ := ho
              rcases ho.no with ⟨_, _, _, rfl⟩ | ⟨_, rfl⟩ | ⟨_, rfl⟩ | ⟨_, _, rfl⟩ <;> exact SR.no (dead_halt _) _
        | _ => exact SR.no (dead_halt _) _
      | chan k elem => cases hts
      | _ => exact SR.no (dead_halt _) _
theorem sr_index (t : TypeId) {x x' i i' : Value} (h : VR R x x') (hi : VR R i i') : SR P VA R (Instr.index t x i) (Instr.index t x' i') := by
  unfold Instr.index
  refine (sr_asIntOf hi).bind' fun R1 ki ki' hl1 e => ?_
  obtain ⟨rfl, _, _⟩ := e
  obtain ⟨k, n⟩ := ki'
  simp only
  refine (sr_underlying t).bind' fun R2 d d' hl2 e => ?_
  cases e
  have hx := h.mono (hl1.trans hl2)
  have q := hx.out
  cases d with
  | array len elem =>
    cases x with
    | agg c =>
      obtain ⟨c', rfl, hc⟩ := q
      simp only
      split
      · refine (sr_sizeOf elem).bind' fun R5 z z' hl5 e => ?_
        cases e
        exact sr_part _ (XR.mono hl5 hc) _
      · exact sr_bounds _ _ _ _ _
    | _ => exact SR.no (dead_halt _) _
  | string =>
    cases x with
    | string s =>
      cases (show x' = _ from q)
      simp only
      split
      · exact sr_int _ _
      · exact sr_bounds _ _ _ _ _
    | _ => exact SR.no (dead_halt _) _
  | _ => exact SR.no (dead_halt _) _
theorem sr_unary (op : UnOp) {x x' : Value} (h : VR R x x') : SR P VA R (Op.unary op x) (Op.unary op x') := by
  have q := h.out
  cases x with
  | int k n =>
    cases (show x' = _ from q)
    cases op with
    | neg => show SR P VA R (Op.intArith .sub k 0 n) (Op.intArith .sub k 0 n); exact sr_intArith _ _ _ _
    | xor => show SR P VA R (Op.intBits .xor k (if k.signed then -1 else k.max) n) (Op.intBits .xor k (if k.signed then -1 else k.max) n); exact sr_intBits _ _ _ _
    | _ => exact SR.no (dead_halt _) _
  | bool b =>
    cases (show x' = _ from q)
    cases op <;> first | exact sr_bool _ | exact SR.no (dead_halt _) _
  | float k b =>
    cases (show x' = _ from q)
    cases op <;> first | exact sr_pure fun _ _ => VR.in rfl | exact SR.no (dead_halt _) _
  | complex k a b =>
    cases (show x' = _ from q)
    cases op <;> first | exact sr_pure fun _ _ => VR.in rfl | exact SR.no (dead_halt _) _
  | pointer a => cases op <;> cases a <;> exact SR.no (dead_halt _) _
  | _ => cases op <;> exact SR.no (dead_halt _) _
theorem tame_mark (m : Mark) : Tame P (mark m) := fun w => ⟨Dk.refl w, fun _ _ => rfl⟩
theorem tame_shape (r : Nat) : Tame P (shape r) := fun w => ⟨Dk.refl w, fun _ _ => rfl⟩
theorem tame_frozen (a : Addr) : Tame P (frozen a) := fun w => ⟨Dk.refl w, fun _ _ => rfl⟩
theorem tame_holdsCells (a : Addr) (n : Nat) : Tame P (Builtin.holdsCells a n) := by
  unfold Builtin.holdsCells
  refine Tame.bind (tame_shape _) fun s => ?_
  split <;> exact tame_pure _
theorem tame_mayShare (size sLen n : Nat) (base : Option Addr) (x : Value) : Tame P (Builtin.mayShare size sLen n base x) := by
  unfold Builtin.mayShare
  have k : ∀ there : Bool, Tame P (if (!there) = true then pure true else match x with
      | .slice (some b) _ _ => do pure (!(← Builtin.holdsCells b (n * size)) || base.any (·.block == b.block))
      | _ => pure false : Sem Bool) := fun there => by
    split
    · exact tame_pure _
    · split
      · exact Tame.bind (tame_holdsCells _ _) fun _ => tame_pure _
      · exact tame_pure _
  cases base with
  | none => exact Tame.bind (tame_pure true) fun b => k b
  | some a => exact Tame.bind (tame_holdsCells _ _) fun _ => Tame.bind (tame_frozen _) fun _ => Tame.bind (tame_pure _) fun b => k b
theorem sr_append (hz : Zs P) (ts : Array TypeId) (t : TypeId) {x x' : Array Value} (h : XR R x x') : SR P VA R (Builtin.append_ ts t x) (Builtin.append_ ts t x') := by
  unfold Builtin.append_
  cases e0 : ts[0]? with
  | none => exact SR.no (dead_halt _) _
  | some t0 =>
    cases e1 : x[0]? with
    | none => exact SR.no (dead_halt _) _
    | some v =>
      obtain ⟨v', e2, hv⟩ := h.at e1
      cases e3 : x[1]? with
      | none => exact SR.no (dead_halt _) _
      | some y =>
        obtain ⟨y', e4, hy⟩ := h.at e3
        rw [e2, e4]
        simp only
        refine (sr_underlying t0).bind' fun R1 d d' q1 e => ?_
        cases e
        cases d with
        | slice elem =>
          have q := (hv.mono q1).out
          cases v with
          | slice base sl sc =>
            obtain ⟨base', rfl, hb⟩ := q
            simp only
            refine (sr_sizeOf elem).bind' fun R2 size size' q2 e => ?_
            cases e
            have hy2 := hy.mono (q1.trans q2)
            have hb2 := OAR.mono q2 hb
            have hN : ∀ {R3 : Ren} {f f' : Nat → Sem Value} (_ : Le R2 R3), (∀ (R4 : Ren) (n : Nat), Le R3 R4 → SR P VA R4 (f n) (f' n)) → SR P VA R3 (Builtin.lenOf y >>= f) (Builtin.lenOf y' >>= f') := fun hl hf =>
              (sr_lenOf (hy2.mono hl)).bind' fun R4 n n' h4 e => by cases e; exact hf R4 _ h4
            have hZ : ∀ {R3 : Ren} {f f' : Bool → Sem Value} (b : Bool), (∀ R4 : Ren, Le R3 R4 → SR P VA R4 (f b) (f' b)) → SR P VA R3 (pure b >>= f) (pure b >>= f') := fun b hf =>
              SR.bind' (sr_pure (A := fun _ a a' => a = b ∧ a' = b) fun _ _ => ⟨rfl, rfl⟩) fun R4 a a' h4 e => by obtain ⟨rfl, rfl⟩ := e; exact hf R4 h4
            have hI : ∀ {R3 : Ren} {f f' : Int → Sem Value} (_ : Le R2 R3), (∀ (R4 : Ren) (n : Int), Le R3 R4 → SR P VA R4 (f n) (f' n)) → SR P VA R3 (asInt y >>= f) (asInt y' >>= f') := fun hl hf =>
              (sr_asInt (hy2.mono hl)).bind' fun R4 n n' h4 e => by cases e; exact hf R4 _ h4
            cases e5 : ts[1]? with
            | none =>
              refine hZ false fun R3 q3 => ?_
              simp only [Bool.false_eq_true, if_false, Bool.not_false, if_true]
              refine hN q3 fun R4 n q4 => ?_
              have q := q3.trans q4
              clear hZ hI hN
              split
              · refine (sr_firstCells size n (hy2.mono q)).bind' fun R5 c c' q5 hc => ?_
                cases base with
                | none =>
                  cases base' with
                  | none => exact sr_pure fun _ _ => VR.slice (a := none) (a' := none) trivial _ _
                  | some _ => exact hb.elim
                | some a =>
                  cases base' with
                  | none => exact hb.elim
                  | some a' =>
                    refine (sr_storeCells 0 ((AR.mono (q.trans q5) hb2).add _) hc.list).bind' fun R6 u u' q6 _ => ?_
                    exact sr_pure fun R7 q7 => VR.slice (a := some a) (a' := some a') (AR.mono (((q.trans q5).trans q6).trans q7) hb2) _ _
              · refine (sr_info elem).bind' fun R5 i i' q5 e => ?_
                obtain ⟨rfl, _⟩ := e
                split
                · exact SR.no (Dead.first (dead_rt _) _) _
                · refine (sr_info elem).bind' fun R6 i i' q6 e => ?_
                  obtain ⟨rfl, _⟩ := e
                  split
                  · refine SR.no (Dead.first (Dead.after (tame_mayShare _ _ _ _ _) fun b => ?_) _) _
                    split
                    · exact Dead.after (tame_mark _) fun _ => dead_halt _
                    · exact dead_halt _
                  · refine (sr_choose _).bind' fun R7 nc nc' q7 e => ?_
                    cases e
                    refine (sr_info elem).bind' fun R8 i i' q8 e => ?_
                    obtain ⟨rfl, _⟩ := e
                    refine (sr_askRoom _).bind' fun R9 u u' q9 e => ?_
                    replace q := ((((q.trans q5).trans q6).trans q7).trans q8).trans q9
                    refine (sr_firstCells size sl (VR.slice (OAR.mono q hb2) sl sc)).bind' fun R10 old old' q10 hold => ?_
                    replace q := q.trans q10
                    clear q5
                    refine (sr_firstCells size n (hy2.mono q)).bind' fun R5 c c' q5 hc => ?_
                    refine (sr_zero hz elem).bind' fun R10 z z' h10 hzz => ?_
                    refine (sr_newRow elem (XR.append (XR.append (XR.mono (q5.trans h10) hold) (XR.mono h10 hc)) (hzz.cells.zeroCells _))).bind' fun R11 a a' h11 ha => ?_
                    exact sr_pure fun R12 h12 => VR.slice (a := some a) (a' := some a') (AR.mono h12 ha) _ _
            | some t1 =>
              refine (sr_underlying t1).bind' fun R3 d d' q3 e => ?_
              cases e
              refine SR.bind' (sr_eq _) fun R4 zb zb' q4 e => ?_
              cases e
              cases zb with
              | false =>
                simp only [Bool.false_eq_true, if_false, Bool.not_false, if_true]
                refine hN (q3.trans q4) fun R4 n q5 => ?_
                have q := (q3.trans q4).trans q5
                clear hZ hI hN q5
                split
                · refine (sr_firstCells size n (hy2.mono q)).bind' fun R5 c c' q5 hc => ?_
                  cases base with
                  | none =>
                    cases base' with
                    | none => exact sr_pure fun _ _ => VR.slice (a := none) (a' := none) trivial _ _
                    | some _ => exact hb.elim
                  | some a =>
                    cases base' with
                    | none => exact hb.elim
                    | some a' =>
                      refine (sr_storeCells 0 ((AR.mono (q.trans q5) hb2).add _) hc.list).bind' fun R6 u u' q6 _ => ?_
                      exact sr_pure fun R7 q7 => VR.slice (a := some a) (a' := some a') (AR.mono (((q.trans q5).trans q6).trans q7) hb2) _ _
                · refine (sr_info elem).bind' fun R5 i i' q5 e => ?_
                  obtain ⟨rfl, _⟩ := e
                  split
                  · exact SR.no (Dead.first (dead_rt _) _) _
                  · refine (sr_info elem).bind' fun R6 i i' q6 e => ?_
                    obtain ⟨rfl, _⟩ := e
                    split
                    · refine SR.no (Dead.first (Dead.after (tame_mayShare _ _ _ _ _) fun b => ?_) _) _
                      split
                      · exact Dead.after (tame_mark _) fun _ => dead_halt _
                      · exact dead_halt _
                    · refine (sr_choose _).bind' fun R7 nc nc' q7 e => ?_
                      cases e
                      refine (sr_info elem).bind' fun R8 i i' q8 e => ?_
                      obtain ⟨rfl, _⟩ := e
                      refine (sr_askRoom _).bind' fun R9 u u' q9 e => ?_
                      replace q := ((((q.trans q5).trans q6).trans q7).trans q8).trans q9
                      refine (sr_firstCells size sl (VR.slice (OAR.mono q hb2) sl sc)).bind' fun R10 old old' q10 hold => ?_
                      replace q := q.trans q10
                      clear q5
                      refine (sr_firstCells size n (hy2.mono q)).bind' fun R5 c c' q5 hc => ?_
                      refine (sr_zero hz elem).bind' fun R10 z z' h10 hzz => ?_
                      refine (sr_newRow elem (XR.append (XR.append (XR.mono (q5.trans h10) hold) (XR.mono h10 hc)) (hzz.cells.zeroCells _))).bind' fun R11 a a' h11 ha => ?_
                      exact sr_pure fun R12 h12 => VR.slice (a := some a) (a' := some a') (AR.mono h12 ha) _ _
              | true =>
                refine hI (q3.trans q4) fun R4 l q5 => ?_
                refine SR.ite (fun _ => ?_) (fun _ => ?_)
                · exact SR.no (Dead.first (dead_rt _) _) _
                · refine (sr_info elem).bind' fun R5 i i' q6 e => ?_
                  obtain ⟨rfl, _⟩ := e
                  refine SR.ite (fun _ => ?_) (fun _ => ?_)
                  · first | exact SR.no (Dead.after (tame_choose _) fun _ => Dead.first (dead_rt _) _) _ | exact SR.no (Dead.after (tame_pure _) fun _ => Dead.first (dead_rt _) _) _ | exact SR.no (Dead.after (tame_typeInfo _) fun _ => Dead.first (dead_rt _) _) _
                  · refine SR.bind' (sr_eq _) fun R6 n n' q7 e => ?_
                    cases e
                    have q := (((q3.trans q4).trans q5).trans q6).trans q7
                    clear hZ hI hN q5 q6 q7
                    refine SR.ite (fun _ => ?_) (fun _ => ?_)
                    · simp only [Bool.not_true, Bool.false_eq_true, if_false]
                      split
                      · refine SR.bind' (sr_pure (A := XA) fun _ _ => XR.nil) fun R5 c c' q5 hc => ?_
                        cases base with
                        | none =>
                          cases base' with
                          | none => exact sr_pure fun _ _ => VR.slice (a := none) (a' := none) trivial _ _
                          | some _ => exact hb.elim
                        | some a =>
                          cases base' with
                          | none => exact hb.elim
                          | some a' =>
                            refine (sr_storeCells 0 ((AR.mono (q.trans q5) hb2).add _) hc.list).bind' fun R6 u u' q6 _ => ?_
                            exact sr_pure fun R7 q7 => VR.slice (a := some a) (a' := some a') (AR.mono (((q.trans q5).trans q6).trans q7) hb2) _ _
                      · refine SR.bind' (A := XA) ((sr_zero hz elem).bind' fun R50 z z' q50 hzz => sr_pure fun R9 h9 => XR.mono h9 (hzz.cells.zeroCells n)) fun R5 c c' q5 hc => ?_
                        cases base with
                        | none =>
                          cases base' with
                          | none => exact sr_pure fun _ _ => VR.slice (a := none) (a' := none) trivial _ _
                          | some _ => exact hb.elim
                        | some a =>
                          cases base' with
                          | none => exact hb.elim
                          | some a' =>
                            refine (sr_storeCells 0 ((AR.mono (q.trans q5) hb2).add _) hc.list).bind' fun R6 u u' q6 _ => ?_
                            exact sr_pure fun R7 q7 => VR.slice (a := some a) (a' := some a') (AR.mono (((q.trans q5).trans q6).trans q7) hb2) _ _
                    · refine (sr_info elem).bind' fun R5 i i' q5 e => ?_
                      obtain ⟨rfl, _⟩ := e
                      split
                      · exact SR.no (Dead.first (dead_rt _) _) _
                      · refine (sr_info elem).bind' fun R6 i i' q6 e => ?_
                        obtain ⟨rfl, _⟩ := e
                        split
                        · exact SR.no (Dead.first (by rw [if_pos rfl]; exact dead_rt _) _) _
                        · refine (sr_choose _).bind' fun R7 nc nc' q7 e => ?_
                          cases e
                          refine (sr_info elem).bind' fun R8 i i' q8 e => ?_
                          obtain ⟨rfl, _⟩ := e
                          refine (sr_askRoom _).bind' fun R9 u u' q9 e => ?_
                          replace q := ((((q.trans q5).trans q6).trans q7).trans q8).trans q9
                          refine (sr_firstCells size sl (VR.slice (OAR.mono q hb2) sl sc)).bind' fun R10 old old' q10 hold => ?_
                          replace q := q.trans q10
                          clear q5
                          simp only [Bool.not_true, Bool.false_eq_true, if_false]
                          split
                          · refine SR.bind' (sr_pure (A := XA) fun _ _ => XR.nil) fun R5 c c' q5 hc => ?_
                            refine (sr_zero hz elem).bind' fun R10 z z' h10 hzz => ?_
                            refine (sr_newRow elem (XR.append (XR.append (XR.mono (q5.trans h10) hold) (XR.mono h10 hc)) (hzz.cells.zeroCells _))).bind' fun R11 a a' h11 ha => ?_
                            exact sr_pure fun R12 h12 => VR.slice (a := some a) (a' := some a') (AR.mono h12 ha) _ _
                          · refine SR.bind' (A := XA) ((sr_zero hz elem).bind' fun R50 z z' q50 hzz => sr_pure fun R9 h9 => XR.mono h9 (hzz.cells.zeroCells n)) fun R5 c c' q5 hc => ?_
                            refine (sr_zero hz elem).bind' fun R10 z z' h10 hzz => ?_
                            refine (sr_newRow elem (XR.append (XR.append (XR.mono (q5.trans h10) hold) (XR.mono h10 hc)) (hzz.cells.zeroCells _))).bind' fun R11 a a' h11 ha => ?_
                            exact sr_pure fun R12 h12 => VR.slice (a := some a) (a' := some a') (AR.mono h12 ha) _ _
          | _ => exact SR.no (dead_halt _) _
        | _ => exact SR.no (dead_halt _) _
end
end Go.Proofs.YtfbdgdphpdhcpaaDoor.Sm
