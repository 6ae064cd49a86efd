/-
  Operators, conversions between ints, closures, parts put together, block for block. Conditions: as in SimF; Zs.
-/
import Derived.Test.YtfbdgdphpdhcpaaDoorSimF
namespace Go.Proofs.YtfbdgdphpdhcpaaDoor.Sm
open Go

section
variable {P : Program} {R : Ren}
theorem Dead.under {α : Type} {t : TypeId} {f : TypeDesc → Sem α} (h : ∀ d, P.underlying t = some d → Dead P (f d)) : Dead P (underlying t >>= f) := by
  cases hd : P.underlying t with
  | none =>
    have e : ∀ w, (underlying t).run P w = .halt (.stuck "no such type") w := fun w => by
      show (match P.underlying t with | some d => (pure d : Sem TypeDesc) | none => stuck "no such type").run P w = _
      rw [hd]; rfl
    exact Dead.first (fun w => ⟨⟨_, w, e w, trivial, Dk.refl w⟩, Lc.halt fun τ => e _⟩) f
  | some d =>
    have e : ∀ w, (underlying t).run P w = .ok d w := fun w => by
      show (match P.underlying t with | some d => (pure d : Sem TypeDesc) | none => stuck "no such type").run P w = _
      rw [hd]; rfl
    intro w
    obtain ⟨⟨x, w', e', hx⟩, hl⟩ := h d hd w
    refine ⟨⟨x, w', (Sem.run_bind' P _ f w).trans (by rw [e]; exact e'), hx⟩, Lc.bind (fun τ _ => by rw [e, e]; rfl) fun a v1 q => ?_⟩
    rw [e] at q
    cases q
    exact hl
theorem dead_equalL (t : TypeId) (ht : simpleT P t = true) (y : Value) : Dead P (Op.equal t (.pointer none) y) := by
  unfold Op.equal
  rw [show Op.maxDepth = 9999 + 1 from rfl]
  generalize 9999 = dp
  simp only [Op.equalIn]
  refine Dead.under fun d hd => ?_
  have hs : simpleD d = true := by unfold simpleT at ht; rw [hd] at ht; exact ht
  cases d <;> first | (cases y <;> exact dead_halt _) | exact absurd hs (by simp [simpleD])
theorem dead_equalR (t : TypeId) (ht : simpleT P t = true) (x : Value) : Dead P (Op.equal t x (.pointer none)) := by
  unfold Op.equal
  rw [show Op.maxDepth = 9999 + 1 from rfl]
  generalize 9999 = dp
  simp only [Op.equalIn]
  refine Dead.under fun d hd => ?_
  have hs : simpleD d = true := by unfold simpleT at ht; rw [hd] at ht; exact ht
  cases d <;> first | (cases x <;> first | exact dead_halt _ | (rename_i a; cases a <;> exact dead_halt _) | (rename_i a _ _; cases a <;> exact dead_halt _)) | exact absurd hs (by simp [simpleD])
theorem dead_addPI (t : TypeId) (k : IntKind) (n : Int) : Dead P (binOp .add t (.pointer none) (.int k n)) := by
  have h1 : Dead P (movedPointer t (.pointer none) (.int k n)) := by
    unfold movedPointer
    exact dead_unsafeAdd _ _ _
  exact Dead.after (tame_underlying _) fun d => Dead.ite (fun _ => h1) (fun _ => dead_movedNumber _ _)
theorem dead_binL (op : BinOp) (t : TypeId) (hs : op = .eql ∨ op = .neq → simpleT P t = true) (y : Value) : Dead P (binOp op t (.pointer none) y) := by
  by_cases he : op = .eql
  · subst he; exact Dead.first (dead_equalL t (hs (.inl rfl)) y) _
  by_cases hn : op = .neq
  · subst hn; exact Dead.first (dead_equalL t (hs (.inr rfl)) y) _
  cases op <;> first | exact absurd rfl he | exact absurd rfl hn | (cases y <;> first | exact dead_addPI _ _ _ | exact dead_movedNumber _ _ | exact dead_halt (.unsupported .addressObserved) | exact dead_halt (.stuck _) | (rename_i a; cases a <;> exact dead_halt (.unsupported .addressObserved)))
theorem dead_binR (op : BinOp) (t : TypeId) (hs : op = .eql ∨ op = .neq → simpleT P t = true) (x : Value) : Dead P (binOp op t x (.pointer none)) := by
  by_cases he : op = .eql
  · subst he; cases x <;> exact Dead.first (dead_equalR t (hs (.inl rfl)) _) _
  by_cases hn : op = .neq
  · subst hn; cases x <;> exact Dead.first (dead_equalR t (hs (.inr rfl)) _) _
  cases op <;> first | exact absurd rfl he | exact absurd rfl hn | (cases x <;> first | exact dead_movedNumber _ _ | exact dead_halt (.unsupported .addressObserved) | exact dead_halt (.stuck _) | (rename_i a; cases a <;> exact dead_halt (.unsupported .addressObserved)))
theorem sr_ptrs (hlow : P.globals.size ≤ R.low) (op : BinOp) (t : TypeId) (hs : op = .eql ∨ op = .neq → simpleT P t = true) {a a' b b' : Option Addr} (ha : OAR R a a') (hb : OAR R b b') :
    SR P VA R (binOp op t (.pointer a) (.pointer b)) (binOp op t (.pointer a') (.pointer b')) := by
  have hx : VR R (.pointer a) (.pointer a') := VR.pointer ha
  have hy : VR R (.pointer b) (.pointer b') := VR.pointer hb
  by_cases he : op = .eql
  · subst he
    exact (sr_equal hlow t (hs (.inl rfl)) hx hy).bind' fun R1 u u' _ e => by cases e; exact sr_bool _
  by_cases hn : op = .neq
  · subst hn
    exact (sr_equal hlow t (hs (.inr rfl)) hx hy).bind' fun R1 u u' _ e => by cases e; exact sr_bool _
  have hlow' : ∀ {R1 : Ren}, Le R R1 → P.globals.size ≤ R1.low := fun hl => by rw [hl.2.2.1]; exact hlow
  cases a with
  | none =>
    cases a' with
    | some _ => exact ha.elim
    | none => cases op <;> first | exact absurd rfl he | exact absurd rfl hn | exact SR.no (dead_halt _) _ | (cases b <;> cases b' <;> first | exact hb.elim | exact SR.no (dead_halt _) _)
  | some a =>
    cases a' with
    | none => exact ha.elim
    | some a' =>
      cases b with
      | none =>
        cases b' with
        | some _ => exact hb.elim
        | none => cases op <;> first | exact absurd rfl he | exact absurd rfl hn | exact SR.no (dead_halt _) _
      | some b =>
        cases b' with
        | none => exact hb.elim
        | some b' =>
          have hcmp : ∀ o : BinOp, SR P VA R (do Op.addrCmp o (← behindNumber a).1 (← behindNumber b).1) (do Op.addrCmp o (← behindNumber a').1 (← behindNumber b').1) := fun o => by
            refine (sr_behind ha).bind' fun R1 p p' h1 hp => ?_
            refine (sr_behind (AR.mono h1 hb)).bind' fun R2 q q' h2 hq => ?_
            exact sr_addrCmp (hlow' (h1.trans h2)) o (AR.mono h2 hp.1) hq.1
          cases op <;> first
            | exact absurd rfl he
            | exact absurd rfl hn
            | exact hcmp _
            | (refine (sr_behind ha).bind' fun R1 p p' h1 hp => ?_
               refine (sr_behind (AR.mono h1 hb)).bind' fun R2 q q' h2 hq => ?_
               exact sr_addrSub (hlow' (h1.trans h2)) _ (AR.mono h2 hp.1) hq.1)
            | exact SR.no (dead_halt _) _
theorem sr_ptrInt (hlow : P.globals.size ≤ R.low) (op : BinOp) (t : TypeId) (hs : op = .eql ∨ op = .neq → simpleT P t = true) {a a' : Option Addr} (ha : OAR R a a') (k : IntKind) (n : Int) :
    SR P VA R (binOp op t (.pointer a) (.int k n)) (binOp op t (.pointer a') (.int k n)) := by
  have hx : VR R (.pointer a) (.pointer a') := VR.pointer ha
  by_cases he : op = .eql
  · subst he
    exact (sr_equal hlow t (hs (.inl rfl)) hx (VR.int R k n)).bind' fun R1 u u' _ e => by cases e; exact sr_bool _
  by_cases hn : op = .neq
  · subst hn
    exact (sr_equal hlow t (hs (.inr rfl)) hx (VR.int R k n)).bind' fun R1 u u' _ e => by cases e; exact sr_bool _
  by_cases hadd : op = .add
  · subst hadd
    refine SR.bind' (A := EqA) (sr_underlying t) fun R1 d d' hl e => ?_
    cases e
    refine SR.ite (fun _ => ?_) (fun _ => ?_)
    · exact sr_movedPointer t (OAR.mono hl ha) (VR.int _ _ _)
    · exact sr_movedNumber t (hx.mono hl) (VR.int _ _ _)
  by_cases hsub : op = .sub
  · subst hsub
    exact sr_movedNumber t hx (VR.int _ _ _)
  cases a with
  | none =>
    cases a' with
    | some _ => exact ha.elim
    | none => cases op <;> first | exact absurd rfl he | exact absurd rfl hn | exact absurd rfl hadd | exact absurd rfl hsub | exact SR.no (dead_halt _) _
  | some a =>
    cases a' with
    | none => exact ha.elim
    | some a' =>
      cases op <;> first
        | exact absurd rfl he
        | exact absurd rfl hn
        | exact absurd rfl hadd
        | exact absurd rfl hsub
        | exact (sr_behind ha).bind' fun R1 p p' h1 hp => sr_addrMod _ hp.1 _
        | exact SR.no (dead_halt _) _
theorem sr_intPtr (hlow : P.globals.size ≤ R.low) (op : BinOp) (t : TypeId) (hs : op = .eql ∨ op = .neq → simpleT P t = true) {a a' : Option Addr} (ha : OAR R a a') (k : IntKind) (n : Int) :
    SR P VA R (binOp op t (.int k n) (.pointer a)) (binOp op t (.int k n) (.pointer a')) := by
  have hx : VR R (.pointer a) (.pointer a') := VR.pointer ha
  by_cases he : op = .eql
  · subst he
    exact (sr_equal hlow t (hs (.inl rfl)) (VR.int R k n) hx).bind' fun R1 u u' _ e => by cases e; exact sr_bool _
  by_cases hn : op = .neq
  · subst hn
    exact (sr_equal hlow t (hs (.inr rfl)) (VR.int R k n) hx).bind' fun R1 u u' _ e => by cases e; exact sr_bool _
  by_cases hadd : op = .add
  · subst hadd
    exact sr_movedNumber t hx (VR.int _ _ _)
  cases a with
  | none =>
    cases a' with
    | some _ => exact ha.elim
    | none => cases op <;> first | exact absurd rfl he | exact absurd rfl hn | exact absurd rfl hadd | exact SR.no (dead_halt _) _
  | some a =>
    cases a' with
    | none => exact ha.elim
    | some a' =>
      cases op <;> first
        | exact absurd rfl he
        | exact absurd rfl hn
        | exact absurd rfl hadd
        | exact (sr_behind ha).bind' fun R1 p p' h1 hp => sr_addrMod _ hp.1 _
        | exact SR.no (dead_halt _) _
theorem bin_strings (op : BinOp) (t : TypeId) (a b : ByteArray) : binOp op t (.string a) (.string b) = Op.stringOp op a b := by cases op <;> rfl
theorem op_ways (op : BinOp) : op = .eql ∨ op = .neq ∨ (op ≠ .eql ∧ op ≠ .neq) := by
  by_cases h : op = .eql
  · exact .inl h
  · by_cases h' : op = .neq
    · exact .inr (.inl h')
    · exact .inr (.inr ⟨h, h'⟩)
theorem sr_bin_bool (hlow : P.globals.size ≤ R.low) (op : BinOp) (t : TypeId) (hs : op = .eql ∨ op = .neq → simpleT P t = true) (b : Bool) {x' y y' : Value} (hx : VR R (.bool b) x') (hy : VR R y y') : SR P VA R (binOp op t (.bool b) y) (binOp op t x' y') := by
  have qx := hx.out
  have qy := hy.out
  have hE : (∀ {z z' u u' : Value}, VR R z z' → VR R u u' → op = .eql → SR P VA R (do pure (.bool (← Op.equal t z u))) (do pure (.bool (← Op.equal t z' u')))) := fun h1 h2 h => (sr_equal hlow t (hs (.inl h)) h1 h2).bind' fun R1 u u' _ e => by cases e; exact sr_bool _
  have hN : (∀ {z z' u u' : Value}, VR R z z' → VR R u u' → op = .neq → SR P VA R (do pure (.bool (!(← Op.equal t z u)))) (do pure (.bool (!(← Op.equal t z' u'))))) := fun h1 h2 h => (sr_equal hlow t (hs (.inr h)) h1 h2).bind' fun R1 u u' _ e => by cases e; exact sr_bool _
  cases (show x' = _ from qx)
  cases y with
  | bool b2 =>
    cases (show y' = _ from qy)
    rcases op_ways op with rfl | rfl | ⟨he, hn⟩
    · exact hE hx hy rfl
    · exact hN hx hy rfl
    · cases op <;> first | exact absurd rfl he | exact absurd rfl hn | exact SR.no (dead_halt _) _
  | int k2 n2 =>
    cases (show y' = _ from qy)
    rcases op_ways op with rfl | rfl | ⟨he, hn⟩
    · exact hE hx hy rfl
    · exact hN hx hy rfl
    · cases op <;> first | exact absurd rfl he | exact absurd rfl hn | exact SR.no (dead_halt _) _
  | float k2 n2 =>
    cases (show y' = _ from qy)
    rcases op_ways op with rfl | rfl | ⟨he, hn⟩
    · exact hE hx hy rfl
    · exact hN hx hy rfl
    · cases op <;> first | exact absurd rfl he | exact absurd rfl hn | exact SR.no (dead_halt _) _
  | complex k2 m2 n2 =>
    cases (show y' = _ from qy)
    rcases op_ways op with rfl | rfl | ⟨he, hn⟩
    · exact hE hx hy rfl
    · exact hN hx hy rfl
    · cases op <;> first | exact absurd rfl he | exact absurd rfl hn | exact SR.no (dead_halt _) _
  | string s2 =>
    cases (show y' = _ from qy)
    rcases op_ways op with rfl | rfl | ⟨he, hn⟩
    · exact hE hx hy rfl
    · exact hN hx hy rfl
    · cases op <;> first | exact absurd rfl he | exact absurd rfl hn | exact SR.no (dead_halt _) _
  | pointer a2 =>
    rcases a2 with _ | a2
    · exact SR.no (dead_binR op t hs _) _
    obtain ⟨b', rfl, hb⟩ := qy
    rcases op_ways op with rfl | rfl | ⟨he, hn⟩
    · exact hE hx hy rfl
    · exact hN hx hy rfl
    · cases op <;> first | exact absurd rfl he | exact absurd rfl hn | exact SR.no (dead_halt _) _
  | slice a2 l2 c2 =>
    obtain ⟨_, rfl, _⟩ := qy
    rcases op_ways op with rfl | rfl | ⟨he, hn⟩
    · exact hE hx hy rfl
    · exact hN hx hy rfl
    · cases op <;> first | exact absurd rfl he | exact absurd rfl hn | exact SR.no (dead_halt _) _
  | map a2 =>
    obtain ⟨_, rfl, _⟩ := qy
    rcases op_ways op with rfl | rfl | ⟨he, hn⟩
    · exact hE hx hy rfl
    · exact hN hx hy rfl
    · cases op <;> first | exact absurd rfl he | exact absurd rfl hn | exact SR.no (dead_halt _) _
  | chan a2 =>
    obtain ⟨_, rfl, _⟩ := qy
    rcases op_ways op with rfl | rfl | ⟨he, hn⟩
    · exact hE hx hy rfl
    · exact hN hx hy rfl
    · cases op <;> first | exact absurd rfl he | exact absurd rfl hn | exact SR.no (dead_halt _) _
  | func f2 p2 q2 =>
    obtain ⟨_, _, _, rfl, _⟩ := qy
    rcases op_ways op with rfl | rfl | ⟨he, hn⟩
    · exact hE hx hy rfl
    · exact hN hx hy rfl
    · cases op <;> first | exact absurd rfl he | exact absurd rfl hn | exact SR.no (dead_halt _) _
  | nilFunc =>
    cases (show y' = _ from qy)
    rcases op_ways op with rfl | rfl | ⟨he, hn⟩
    · exact hE hx hy rfl
    · exact hN hx hy rfl
    · cases op <;> first | exact absurd rfl he | exact absurd rfl hn | exact SR.no (dead_halt _) _
  | iface t12 v2 =>
    obtain ⟨_, rfl, _⟩ := qy
    rcases op_ways op with rfl | rfl | ⟨he, hn⟩
    · exact hE hx hy rfl
    · exact hN hx hy rfl
    · cases op <;> first | exact absurd rfl he | exact absurd rfl hn | exact SR.no (dead_halt _) _
  | nilIface =>
    cases (show y' = _ from qy)
    rcases op_ways op with rfl | rfl | ⟨he, hn⟩
    · exact hE hx hy rfl
    · exact hN hx hy rfl
    · cases op <;> first | exact absurd rfl he | exact absurd rfl hn | exact SR.no (dead_halt _) _
  | agg c2 =>
    obtain ⟨_, rfl, _⟩ := qy
    rcases op_ways op with rfl | rfl | ⟨he, hn⟩
    · exact hE hx hy rfl
    · exact hN hx hy rfl
    · cases op <;> first | exact absurd rfl he | exact absurd rfl hn | exact SR.no (dead_halt _) _
  | tuple c2 =>
    obtain ⟨_, rfl, _⟩ := qy
    rcases op_ways op with rfl | rfl | ⟨he, hn⟩
    · exact hE hx hy rfl
    · exact hN hx hy rfl
    · cases op <;> first | exact absurd rfl he | exact absurd rfl hn | exact SR.no (dead_halt _) _
theorem sr_bin_int (hlow : P.globals.size ≤ R.low) (op : BinOp) (t : TypeId) (hs : op = .eql ∨ op = .neq → simpleT P t = true) (k : IntKind) (n : Int) {x' y y' : Value} (hx : VR R (.int k n) x') (hy : VR R y y') : SR P VA R (binOp op t (.int k n) y) (binOp op t x' y') := by
  have qx := hx.out
  have qy := hy.out
  have hE : (∀ {z z' u u' : Value}, VR R z z' → VR R u u' → op = .eql → SR P VA R (do pure (.bool (← Op.equal t z u))) (do pure (.bool (← Op.equal t z' u')))) := fun h1 h2 h => (sr_equal hlow t (hs (.inl h)) h1 h2).bind' fun R1 u u' _ e => by cases e; exact sr_bool _
  have hN : (∀ {z z' u u' : Value}, VR R z z' → VR R u u' → op = .neq → SR P VA R (do pure (.bool (!(← Op.equal t z u)))) (do pure (.bool (!(← Op.equal t z' u'))))) := fun h1 h2 h => (sr_equal hlow t (hs (.inr h)) h1 h2).bind' fun R1 u u' _ e => by cases e; exact sr_bool _
  cases (show x' = _ from qx)
  cases y with
  | bool b2 =>
    cases (show y' = _ from qy)
    rcases op_ways op with rfl | rfl | ⟨he, hn⟩
    · exact hE hx hy rfl
    · exact hN hx hy rfl
    · cases op <;> first | exact absurd rfl he | exact absurd rfl hn | exact SR.no (dead_halt _) _
  | int k2 n2 => cases (show y' = _ from qy); exact sr_ints _ _ _ _ _ _
  | float k2 n2 =>
    cases (show y' = _ from qy)
    rcases op_ways op with rfl | rfl | ⟨he, hn⟩
    · exact hE hx hy rfl
    · exact hN hx hy rfl
    · cases op <;> first | exact absurd rfl he | exact absurd rfl hn | exact SR.no (dead_halt _) _
  | complex k2 m2 n2 =>
    cases (show y' = _ from qy)
    rcases op_ways op with rfl | rfl | ⟨he, hn⟩
    · exact hE hx hy rfl
    · exact hN hx hy rfl
    · cases op <;> first | exact absurd rfl he | exact absurd rfl hn | exact SR.no (dead_halt _) _
  | string s2 =>
    cases (show y' = _ from qy)
    rcases op_ways op with rfl | rfl | ⟨he, hn⟩
    · exact hE hx hy rfl
    · exact hN hx hy rfl
    · cases op <;> first | exact absurd rfl he | exact absurd rfl hn | exact SR.no (dead_halt _) _
  | pointer a2 =>
    rcases a2 with _ | a2
    · exact SR.no (dead_binR op t hs _) _
    obtain ⟨b', rfl, hb⟩ := qy; exact sr_intPtr hlow op t hs (a := some _) (a' := some _) hb k n
  | slice a2 l2 c2 =>
    obtain ⟨_, rfl, _⟩ := qy
    rcases op_ways op with rfl | rfl | ⟨he, hn⟩
    · exact hE hx hy rfl
    · exact hN hx hy rfl
    · cases op <;> first | exact absurd rfl he | exact absurd rfl hn | exact SR.no (dead_halt _) _
  | map a2 =>
    obtain ⟨_, rfl, _⟩ := qy
    rcases op_ways op with rfl | rfl | ⟨he, hn⟩
    · exact hE hx hy rfl
    · exact hN hx hy rfl
    · cases op <;> first | exact absurd rfl he | exact absurd rfl hn | exact SR.no (dead_halt _) _
  | chan a2 =>
    obtain ⟨_, rfl, _⟩ := qy
    rcases op_ways op with rfl | rfl | ⟨he, hn⟩
    · exact hE hx hy rfl
    · exact hN hx hy rfl
    · cases op <;> first | exact absurd rfl he | exact absurd rfl hn | exact SR.no (dead_halt _) _
  | func f2 p2 q2 =>
    obtain ⟨_, _, _, rfl, _⟩ := qy
    rcases op_ways op with rfl | rfl | ⟨he, hn⟩
    · exact hE hx hy rfl
    · exact hN hx hy rfl
    · cases op <;> first | exact absurd rfl he | exact absurd rfl hn | exact SR.no (dead_halt _) _
  | nilFunc =>
    cases (show y' = _ from qy)
    rcases op_ways op with rfl | rfl | ⟨he, hn⟩
    · exact hE hx hy rfl
    · exact hN hx hy rfl
    · cases op <;> first | exact absurd rfl he | exact absurd rfl hn | exact SR.no (dead_halt _) _
  | iface t12 v2 =>
    obtain ⟨_, rfl, _⟩ := qy
    rcases op_ways op with rfl | rfl | ⟨he, hn⟩
    · exact hE hx hy rfl
    · exact hN hx hy rfl
    · cases op <;> first | exact absurd rfl he | exact absurd rfl hn | exact SR.no (dead_halt _) _
  | nilIface =>
    cases (show y' = _ from qy)
    rcases op_ways op with rfl | rfl | ⟨he, hn⟩
    · exact hE hx hy rfl
    · exact hN hx hy rfl
    · cases op <;> first | exact absurd rfl he | exact absurd rfl hn | exact SR.no (dead_halt _) _
  | agg c2 =>
    obtain ⟨_, rfl, _⟩ := qy
    rcases op_ways op with rfl | rfl | ⟨he, hn⟩
    · exact hE hx hy rfl
    · exact hN hx hy rfl
    · cases op <;> first | exact absurd rfl he | exact absurd rfl hn | exact SR.no (dead_halt _) _
  | tuple c2 =>
    obtain ⟨_, rfl, _⟩ := qy
    rcases op_ways op with rfl | rfl | ⟨he, hn⟩
    · exact hE hx hy rfl
    · exact hN hx hy rfl
    · cases op <;> first | exact absurd rfl he | exact absurd rfl hn | exact SR.no (dead_halt _) _
theorem sr_bin_float (hlow : P.globals.size ≤ R.low) (op : BinOp) (t : TypeId) (hs : op = .eql ∨ op = .neq → simpleT P t = true) (k : FloatKind) (n : Nat) {x' y y' : Value} (hx : VR R (.float k n) x') (hy : VR R y y') : SR P VA R (binOp op t (.float k n) y) (binOp op t x' y') := by
  have qx := hx.out
  have qy := hy.out
  have hE : (∀ {z z' u u' : Value}, VR R z z' → VR R u u' → op = .eql → SR P VA R (do pure (.bool (← Op.equal t z u))) (do pure (.bool (← Op.equal t z' u')))) := fun h1 h2 h => (sr_equal hlow t (hs (.inl h)) h1 h2).bind' fun R1 u u' _ e => by cases e; exact sr_bool _
  have hN : (∀ {z z' u u' : Value}, VR R z z' → VR R u u' → op = .neq → SR P VA R (do pure (.bool (!(← Op.equal t z u)))) (do pure (.bool (!(← Op.equal t z' u'))))) := fun h1 h2 h => (sr_equal hlow t (hs (.inr h)) h1 h2).bind' fun R1 u u' _ e => by cases e; exact sr_bool _
  cases (show x' = _ from qx)
  cases y with
  | bool b2 =>
    cases (show y' = _ from qy)
    rcases op_ways op with rfl | rfl | ⟨he, hn⟩
    · exact hE hx hy rfl
    · exact hN hx hy rfl
    · cases op <;> first | exact absurd rfl he | exact absurd rfl hn | exact SR.no (dead_halt _) _
  | int k2 n2 =>
    cases (show y' = _ from qy)
    rcases op_ways op with rfl | rfl | ⟨he, hn⟩
    · exact hE hx hy rfl
    · exact hN hx hy rfl
    · cases op <;> first | exact absurd rfl he | exact absurd rfl hn | exact SR.no (dead_halt _) _
  | float k2 n2 => cases (show y' = _ from qy); cases op <;> first | exact SR.ite (fun _ => sr_stuck _ _) (fun _ => sr_floatArith _ _ _ _) | exact SR.ite (fun _ => sr_stuck _ _) (fun _ => sr_floatCmp _ _ _ _)
  | complex k2 m2 n2 =>
    cases (show y' = _ from qy)
    rcases op_ways op with rfl | rfl | ⟨he, hn⟩
    · exact hE hx hy rfl
    · exact hN hx hy rfl
    · cases op <;> first | exact absurd rfl he | exact absurd rfl hn | exact SR.no (dead_halt _) _
  | string s2 =>
    cases (show y' = _ from qy)
    rcases op_ways op with rfl | rfl | ⟨he, hn⟩
    · exact hE hx hy rfl
    · exact hN hx hy rfl
    · cases op <;> first | exact absurd rfl he | exact absurd rfl hn | exact SR.no (dead_halt _) _
  | pointer a2 =>
    rcases a2 with _ | a2
    · exact SR.no (dead_binR op t hs _) _
    obtain ⟨b', rfl, hb⟩ := qy
    rcases op_ways op with rfl | rfl | ⟨he, hn⟩
    · exact hE hx hy rfl
    · exact hN hx hy rfl
    · cases op <;> first | exact absurd rfl he | exact absurd rfl hn | exact SR.no (dead_halt _) _
  | slice a2 l2 c2 =>
    obtain ⟨_, rfl, _⟩ := qy
    rcases op_ways op with rfl | rfl | ⟨he, hn⟩
    · exact hE hx hy rfl
    · exact hN hx hy rfl
    · cases op <;> first | exact absurd rfl he | exact absurd rfl hn | exact SR.no (dead_halt _) _
  | map a2 =>
    obtain ⟨_, rfl, _⟩ := qy
    rcases op_ways op with rfl | rfl | ⟨he, hn⟩
    · exact hE hx hy rfl
    · exact hN hx hy rfl
    · cases op <;> first | exact absurd rfl he | exact absurd rfl hn | exact SR.no (dead_halt _) _
  | chan a2 =>
    obtain ⟨_, rfl, _⟩ := qy
    rcases op_ways op with rfl | rfl | ⟨he, hn⟩
    · exact hE hx hy rfl
    · exact hN hx hy rfl
    · cases op <;> first | exact absurd rfl he | exact absurd rfl hn | exact SR.no (dead_halt _) _
  | func f2 p2 q2 =>
    obtain ⟨_, _, _, rfl, _⟩ := qy
    rcases op_ways op with rfl | rfl | ⟨he, hn⟩
    · exact hE hx hy rfl
    · exact hN hx hy rfl
    · cases op <;> first | exact absurd rfl he | exact absurd rfl hn | exact SR.no (dead_halt _) _
  | nilFunc =>
    cases (show y' = _ from qy)
    rcases op_ways op with rfl | rfl | ⟨he, hn⟩
    · exact hE hx hy rfl
    · exact hN hx hy rfl
    · cases op <;> first | exact absurd rfl he | exact absurd rfl hn | exact SR.no (dead_halt _) _
  | iface t12 v2 =>
    obtain ⟨_, rfl, _⟩ := qy
    rcases op_ways op with rfl | rfl | ⟨he, hn⟩
    · exact hE hx hy rfl
    · exact hN hx hy rfl
    · cases op <;> first | exact absurd rfl he | exact absurd rfl hn | exact SR.no (dead_halt _) _
  | nilIface =>
    cases (show y' = _ from qy)
    rcases op_ways op with rfl | rfl | ⟨he, hn⟩
    · exact hE hx hy rfl
    · exact hN hx hy rfl
    · cases op <;> first | exact absurd rfl he | exact absurd rfl hn | exact SR.no (dead_halt _) _
  | agg c2 =>
    obtain ⟨_, rfl, _⟩ := qy
    rcases op_ways op with rfl | rfl | ⟨he, hn⟩
    · exact hE hx hy rfl
    · exact hN hx hy rfl
    · cases op <;> first | exact absurd rfl he | exact absurd rfl hn | exact SR.no (dead_halt _) _
  | tuple c2 =>
    obtain ⟨_, rfl, _⟩ := qy
    rcases op_ways op with rfl | rfl | ⟨he, hn⟩
    · exact hE hx hy rfl
    · exact hN hx hy rfl
    · cases op <;> first | exact absurd rfl he | exact absurd rfl hn | exact SR.no (dead_halt _) _
theorem sr_bin_complex (hlow : P.globals.size ≤ R.low) (op : BinOp) (t : TypeId) (hs : op = .eql ∨ op = .neq → simpleT P t = true) (k : FloatKind) (m n : Nat) {x' y y' : Value} (hx : VR R (.complex k m n) x') (hy : VR R y y') : SR P VA R (binOp op t (.complex k m n) y) (binOp op t x' y') := by
  have qx := hx.out
  have qy := hy.out
  have hE : (∀ {z z' u u' : Value}, VR R z z' → VR R u u' → op = .eql → SR P VA R (do pure (.bool (← Op.equal t z u))) (do pure (.bool (← Op.equal t z' u')))) := fun h1 h2 h => (sr_equal hlow t (hs (.inl h)) h1 h2).bind' fun R1 u u' _ e => by cases e; exact sr_bool _
  have hN : (∀ {z z' u u' : Value}, VR R z z' → VR R u u' → op = .neq → SR P VA R (do pure (.bool (!(← Op.equal t z u)))) (do pure (.bool (!(← Op.equal t z' u'))))) := fun h1 h2 h => (sr_equal hlow t (hs (.inr h)) h1 h2).bind' fun R1 u u' _ e => by cases e; exact sr_bool _
  cases (show x' = _ from qx)
  cases y with
  | bool b2 =>
    cases (show y' = _ from qy)
    rcases op_ways op with rfl | rfl | ⟨he, hn⟩
    · exact hE hx hy rfl
    · exact hN hx hy rfl
    · cases op <;> first | exact absurd rfl he | exact absurd rfl hn | exact SR.no (dead_halt _) _
  | int k2 n2 =>
    cases (show y' = _ from qy)
    rcases op_ways op with rfl | rfl | ⟨he, hn⟩
    · exact hE hx hy rfl
    · exact hN hx hy rfl
    · cases op <;> first | exact absurd rfl he | exact absurd rfl hn | exact SR.no (dead_halt _) _
  | float k2 n2 =>
    cases (show y' = _ from qy)
    rcases op_ways op with rfl | rfl | ⟨he, hn⟩
    · exact hE hx hy rfl
    · exact hN hx hy rfl
    · cases op <;> first | exact absurd rfl he | exact absurd rfl hn | exact SR.no (dead_halt _) _
  | complex k2 m2 n2 => cases (show y' = _ from qy); cases op <;> exact SR.ite (fun _ => sr_stuck _ _) (fun _ => sr_complexOp _ _ _ _ _ _)
  | string s2 =>
    cases (show y' = _ from qy)
    rcases op_ways op with rfl | rfl | ⟨he, hn⟩
    · exact hE hx hy rfl
    · exact hN hx hy rfl
    · cases op <;> first | exact absurd rfl he | exact absurd rfl hn | exact SR.no (dead_halt _) _
  | pointer a2 =>
    rcases a2 with _ | a2
    · exact SR.no (dead_binR op t hs _) _
    obtain ⟨b', rfl, hb⟩ := qy
    rcases op_ways op with rfl | rfl | ⟨he, hn⟩
    · exact hE hx hy rfl
    · exact hN hx hy rfl
    · cases op <;> first | exact absurd rfl he | exact absurd rfl hn | exact SR.no (dead_halt _) _
  | slice a2 l2 c2 =>
    obtain ⟨_, rfl, _⟩ := qy
    rcases op_ways op with rfl | rfl | ⟨he, hn⟩
    · exact hE hx hy rfl
    · exact hN hx hy rfl
    · cases op <;> first | exact absurd rfl he | exact absurd rfl hn | exact SR.no (dead_halt _) _
  | map a2 =>
    obtain ⟨_, rfl, _⟩ := qy
    rcases op_ways op with rfl | rfl | ⟨he, hn⟩
    · exact hE hx hy rfl
    · exact hN hx hy rfl
    · cases op <;> first | exact absurd rfl he | exact absurd rfl hn | exact SR.no (dead_halt _) _
  | chan a2 =>
    obtain ⟨_, rfl, _⟩ := qy
    rcases op_ways op with rfl | rfl | ⟨he, hn⟩
    · exact hE hx hy rfl
    · exact hN hx hy rfl
    · cases op <;> first | exact absurd rfl he | exact absurd rfl hn | exact SR.no (dead_halt _) _
  | func f2 p2 q2 =>
    obtain ⟨_, _, _, rfl, _⟩ := qy
    rcases op_ways op with rfl | rfl | ⟨he, hn⟩
    · exact hE hx hy rfl
    · exact hN hx hy rfl
    · cases op <;> first | exact absurd rfl he | exact absurd rfl hn | exact SR.no (dead_halt _) _
  | nilFunc =>
    cases (show y' = _ from qy)
    rcases op_ways op with rfl | rfl | ⟨he, hn⟩
    · exact hE hx hy rfl
    · exact hN hx hy rfl
    · cases op <;> first | exact absurd rfl he | exact absurd rfl hn | exact SR.no (dead_halt _) _
  | iface t12 v2 =>
    obtain ⟨_, rfl, _⟩ := qy
    rcases op_ways op with rfl | rfl | ⟨he, hn⟩
    · exact hE hx hy rfl
    · exact hN hx hy rfl
    · cases op <;> first | exact absurd rfl he | exact absurd rfl hn | exact SR.no (dead_halt _) _
  | nilIface =>
    cases (show y' = _ from qy)
    rcases op_ways op with rfl | rfl | ⟨he, hn⟩
    · exact hE hx hy rfl
    · exact hN hx hy rfl
    · cases op <;> first | exact absurd rfl he | exact absurd rfl hn | exact SR.no (dead_halt _) _
  | agg c2 =>
    obtain ⟨_, rfl, _⟩ := qy
    rcases op_ways op with rfl | rfl | ⟨he, hn⟩
    · exact hE hx hy rfl
    · exact hN hx hy rfl
    · cases op <;> first | exact absurd rfl he | exact absurd rfl hn | exact SR.no (dead_halt _) _
  | tuple c2 =>
    obtain ⟨_, rfl, _⟩ := qy
    rcases op_ways op with rfl | rfl | ⟨he, hn⟩
    · exact hE hx hy rfl
    · exact hN hx hy rfl
    · cases op <;> first | exact absurd rfl he | exact absurd rfl hn | exact SR.no (dead_halt _) _
theorem sr_bin_string (hlow : P.globals.size ≤ R.low) (op : BinOp) (t : TypeId) (hs : op = .eql ∨ op = .neq → simpleT P t = true) (s : ByteArray) {x' y y' : Value} (hx : VR R (.string s) x') (hy : VR R y y') : SR P VA R (binOp op t (.string s) y) (binOp op t x' y') := by
  have qx := hx.out
  have qy := hy.out
  have hE : (∀ {z z' u u' : Value}, VR R z z' → VR R u u' → op = .eql → SR P VA R (do pure (.bool (← Op.equal t z u))) (do pure (.bool (← Op.equal t z' u')))) := fun h1 h2 h => (sr_equal hlow t (hs (.inl h)) h1 h2).bind' fun R1 u u' _ e => by cases e; exact sr_bool _
  have hN : (∀ {z z' u u' : Value}, VR R z z' → VR R u u' → op = .neq → SR P VA R (do pure (.bool (!(← Op.equal t z u)))) (do pure (.bool (!(← Op.equal t z' u'))))) := fun h1 h2 h => (sr_equal hlow t (hs (.inr h)) h1 h2).bind' fun R1 u u' _ e => by cases e; exact sr_bool _
  cases (show x' = _ from qx)
  cases y with
  | bool b2 =>
    cases (show y' = _ from qy)
    rcases op_ways op with rfl | rfl | ⟨he, hn⟩
    · exact hE hx hy rfl
    · exact hN hx hy rfl
    · cases op <;> first | exact absurd rfl he | exact absurd rfl hn | exact SR.no (dead_halt _) _
  | int k2 n2 =>
    cases (show y' = _ from qy)
    rcases op_ways op with rfl | rfl | ⟨he, hn⟩
    · exact hE hx hy rfl
    · exact hN hx hy rfl
    · cases op <;> first | exact absurd rfl he | exact absurd rfl hn | exact SR.no (dead_halt _) _
  | float k2 n2 =>
    cases (show y' = _ from qy)
    rcases op_ways op with rfl | rfl | ⟨he, hn⟩
    · exact hE hx hy rfl
    · exact hN hx hy rfl
    · cases op <;> first | exact absurd rfl he | exact absurd rfl hn | exact SR.no (dead_halt _) _
  | complex k2 m2 n2 =>
    cases (show y' = _ from qy)
    rcases op_ways op with rfl | rfl | ⟨he, hn⟩
    · exact hE hx hy rfl
    · exact hN hx hy rfl
    · cases op <;> first | exact absurd rfl he | exact absurd rfl hn | exact SR.no (dead_halt _) _
  | string s2 => cases (show y' = _ from qy); rw [bin_strings op t s s2]; exact sr_stringOp _ _ _
  | pointer a2 =>
    rcases a2 with _ | a2
    · exact SR.no (dead_binR op t hs _) _
    obtain ⟨b', rfl, hb⟩ := qy
    rcases op_ways op with rfl | rfl | ⟨he, hn⟩
    · exact hE hx hy rfl
    · exact hN hx hy rfl
    · cases op <;> first | exact absurd rfl he | exact absurd rfl hn | exact SR.no (dead_halt _) _
  | slice a2 l2 c2 =>
    obtain ⟨_, rfl, _⟩ := qy
    rcases op_ways op with rfl | rfl | ⟨he, hn⟩
    · exact hE hx hy rfl
    · exact hN hx hy rfl
    · cases op <;> first | exact absurd rfl he | exact absurd rfl hn | exact SR.no (dead_halt _) _
  | map a2 =>
    obtain ⟨_, rfl, _⟩ := qy
    rcases op_ways op with rfl | rfl | ⟨he, hn⟩
    · exact hE hx hy rfl
    · exact hN hx hy rfl
    · cases op <;> first | exact absurd rfl he | exact absurd rfl hn | exact SR.no (dead_halt _) _
  | chan a2 =>
    obtain ⟨_, rfl, _⟩ := qy
    rcases op_ways op with rfl | rfl | ⟨he, hn⟩
    · exact hE hx hy rfl
    · exact hN hx hy rfl
    · cases op <;> first | exact absurd rfl he | exact absurd rfl hn | exact SR.no (dead_halt _) _
  | func f2 p2 q2 =>
    obtain ⟨_, _, _, rfl, _⟩ := qy
    rcases op_ways op with rfl | rfl | ⟨he, hn⟩
    · exact hE hx hy rfl
    · exact hN hx hy rfl
    · cases op <;> first | exact absurd rfl he | exact absurd rfl hn | exact SR.no (dead_halt _) _
  | nilFunc =>
    cases (show y' = _ from qy)
    rcases op_ways op with rfl | rfl | ⟨he, hn⟩
    · exact hE hx hy rfl
    · exact hN hx hy rfl
    · cases op <;> first | exact absurd rfl he | exact absurd rfl hn | exact SR.no (dead_halt _) _
  | iface t12 v2 =>
    obtain ⟨_, rfl, _⟩ := qy
    rcases op_ways op with rfl | rfl | ⟨he, hn⟩
    · exact hE hx hy rfl
    · exact hN hx hy rfl
    · cases op <;> first | exact absurd rfl he | exact absurd rfl hn | exact SR.no (dead_halt _) _
  | nilIface =>
    cases (show y' = _ from qy)
    rcases op_ways op with rfl | rfl | ⟨he, hn⟩
    · exact hE hx hy rfl
    · exact hN hx hy rfl
    · cases op <;> first | exact absurd rfl he | exact absurd rfl hn | exact SR.no (dead_halt _) _
  | agg c2 =>
    obtain ⟨_, rfl, _⟩ := qy
    rcases op_ways op with rfl | rfl | ⟨he, hn⟩
    · exact hE hx hy rfl
    · exact hN hx hy rfl
    · cases op <;> first | exact absurd rfl he | exact absurd rfl hn | exact SR.no (dead_halt _) _
  | tuple c2 =>
    obtain ⟨_, rfl, _⟩ := qy
    rcases op_ways op with rfl | rfl | ⟨he, hn⟩
    · exact hE hx hy rfl
    · exact hN hx hy rfl
    · cases op <;> first | exact absurd rfl he | exact absurd rfl hn | exact SR.no (dead_halt _) _
theorem sr_bin_pointer (hlow : P.globals.size ≤ R.low) (op : BinOp) (t : TypeId) (hs : op = .eql ∨ op = .neq → simpleT P t = true) (a : Option Addr) {x' y y' : Value} (hx : VR R (.pointer a) x') (hy : VR R y y') : SR P VA R (binOp op t (.pointer a) y) (binOp op t x' y') := by
  have qx := hx.out
  have qy := hy.out
  have hE : (∀ {z z' u u' : Value}, VR R z z' → VR R u u' → op = .eql → SR P VA R (do pure (.bool (← Op.equal t z u))) (do pure (.bool (← Op.equal t z' u')))) := fun h1 h2 h => (sr_equal hlow t (hs (.inl h)) h1 h2).bind' fun R1 u u' _ e => by cases e; exact sr_bool _
  have hN : (∀ {z z' u u' : Value}, VR R z z' → VR R u u' → op = .neq → SR P VA R (do pure (.bool (!(← Op.equal t z u)))) (do pure (.bool (!(← Op.equal t z' u'))))) := fun h1 h2 h => (sr_equal hlow t (hs (.inr h)) h1 h2).bind' fun R1 u u' _ e => by cases e; exact sr_bool _
  rcases a with _ | a0
  · exact SR.no (dead_binL op t hs _) _
  obtain ⟨a0', rfl, ha0⟩ := qx
  have ha : OAR R (some a0) (some a0') := ha0
  generalize some a0 = a at ha hx hE hN ⊢
  generalize some a0' = a' at ha hx hE hN ⊢
  cases y with
  | bool b2 =>
    cases (show y' = _ from qy)
    rcases op_ways op with rfl | rfl | ⟨he, hn⟩
    · exact hE hx hy rfl
    · exact hN hx hy rfl
    · cases op <;> first | exact absurd rfl he | exact absurd rfl hn | exact SR.no (dead_halt _) _ | (cases a <;> cases a' <;> first | exact ha.elim | exact SR.no (dead_halt _) _)
  | int k2 n2 => cases (show y' = _ from qy); exact sr_ptrInt hlow op t hs ha k2 n2
  | float k2 n2 =>
    cases (show y' = _ from qy)
    rcases op_ways op with rfl | rfl | ⟨he, hn⟩
    · exact hE hx hy rfl
    · exact hN hx hy rfl
    · cases op <;> first | exact absurd rfl he | exact absurd rfl hn | exact SR.no (dead_halt _) _ | (cases a <;> cases a' <;> first | exact ha.elim | exact SR.no (dead_halt _) _)
  | complex k2 m2 n2 =>
    cases (show y' = _ from qy)
    rcases op_ways op with rfl | rfl | ⟨he, hn⟩
    · exact hE hx hy rfl
    · exact hN hx hy rfl
    · cases op <;> first | exact absurd rfl he | exact absurd rfl hn | exact SR.no (dead_halt _) _ | (cases a <;> cases a' <;> first | exact ha.elim | exact SR.no (dead_halt _) _)
  | string s2 =>
    cases (show y' = _ from qy)
    rcases op_ways op with rfl | rfl | ⟨he, hn⟩
    · exact hE hx hy rfl
    · exact hN hx hy rfl
    · cases op <;> first | exact absurd rfl he | exact absurd rfl hn | exact SR.no (dead_halt _) _ | (cases a <;> cases a' <;> first | exact ha.elim | exact SR.no (dead_halt _) _)
  | pointer a2 =>
    rcases a2 with _ | a2
    · exact SR.no (dead_binR op t hs _) _
    obtain ⟨b', rfl, hb⟩ := qy; exact sr_ptrs hlow op t hs ha (b := some _) (b' := some _) hb
  | slice a2 l2 c2 =>
    obtain ⟨_, rfl, _⟩ := qy
    rcases op_ways op with rfl | rfl | ⟨he, hn⟩
    · exact hE hx hy rfl
    · exact hN hx hy rfl
    · cases op <;> first | exact absurd rfl he | exact absurd rfl hn | exact SR.no (dead_halt _) _ | (cases a <;> cases a' <;> first | exact ha.elim | exact SR.no (dead_halt _) _)
  | map a2 =>
    obtain ⟨_, rfl, _⟩ := qy
    rcases op_ways op with rfl | rfl | ⟨he, hn⟩
    · exact hE hx hy rfl
    · exact hN hx hy rfl
    · cases op <;> first | exact absurd rfl he | exact absurd rfl hn | exact SR.no (dead_halt _) _ | (cases a <;> cases a' <;> first | exact ha.elim | exact SR.no (dead_halt _) _)
  | chan a2 =>
    obtain ⟨_, rfl, _⟩ := qy
    rcases op_ways op with rfl | rfl | ⟨he, hn⟩
    · exact hE hx hy rfl
    · exact hN hx hy rfl
    · cases op <;> first | exact absurd rfl he | exact absurd rfl hn | exact SR.no (dead_halt _) _ | (cases a <;> cases a' <;> first | exact ha.elim | exact SR.no (dead_halt _) _)
  | func f2 p2 q2 =>
    obtain ⟨_, _, _, rfl, _⟩ := qy
    rcases op_ways op with rfl | rfl | ⟨he, hn⟩
    · exact hE hx hy rfl
    · exact hN hx hy rfl
    · cases op <;> first | exact absurd rfl he | exact absurd rfl hn | exact SR.no (dead_halt _) _ | (cases a <;> cases a' <;> first | exact ha.elim | exact SR.no (dead_halt _) _)
  | nilFunc =>
    cases (show y' = _ from qy)
    rcases op_ways op with rfl | rfl | ⟨he, hn⟩
    · exact hE hx hy rfl
    · exact hN hx hy rfl
    · cases op <;> first | exact absurd rfl he | exact absurd rfl hn | exact SR.no (dead_halt _) _ | (cases a <;> cases a' <;> first | exact ha.elim | exact SR.no (dead_halt _) _)
  | iface t12 v2 =>
    obtain ⟨_, rfl, _⟩ := qy
    rcases op_ways op with rfl | rfl | ⟨he, hn⟩
    · exact hE hx hy rfl
    · exact hN hx hy rfl
    · cases op <;> first | exact absurd rfl he | exact absurd rfl hn | exact SR.no (dead_halt _) _ | (cases a <;> cases a' <;> first | exact ha.elim | exact SR.no (dead_halt _) _)
  | nilIface =>
    cases (show y' = _ from qy)
    rcases op_ways op with rfl | rfl | ⟨he, hn⟩
    · exact hE hx hy rfl
    · exact hN hx hy rfl
    · cases op <;> first | exact absurd rfl he | exact absurd rfl hn | exact SR.no (dead_halt _) _ | (cases a <;> cases a' <;> first | exact ha.elim | exact SR.no (dead_halt _) _)
  | agg c2 =>
    obtain ⟨_, rfl, _⟩ := qy
    rcases op_ways op with rfl | rfl | ⟨he, hn⟩
    · exact hE hx hy rfl
    · exact hN hx hy rfl
    · cases op <;> first | exact absurd rfl he | exact absurd rfl hn | exact SR.no (dead_halt _) _ | (cases a <;> cases a' <;> first | exact ha.elim | exact SR.no (dead_halt _) _)
  | tuple c2 =>
    obtain ⟨_, rfl, _⟩ := qy
    rcases op_ways op with rfl | rfl | ⟨he, hn⟩
    · exact hE hx hy rfl
    · exact hN hx hy rfl
    · cases op <;> first | exact absurd rfl he | exact absurd rfl hn | exact SR.no (dead_halt _) _ | (cases a <;> cases a' <;> first | exact ha.elim | exact SR.no (dead_halt _) _)
theorem sr_bin_slice (hlow : P.globals.size ≤ R.low) (op : BinOp) (t : TypeId) (hs : op = .eql ∨ op = .neq → simpleT P t = true) (a : Option Addr) (l c : Nat) {x' y y' : Value} (hx : VR R (.slice a l c) x') (hy : VR R y y') : SR P VA R (binOp op t (.slice a l c) y) (binOp op t x' y') := by
  have qx := hx.out
  have qy := hy.out
  have hE : (∀ {z z' u u' : Value}, VR R z z' → VR R u u' → op = .eql → SR P VA R (do pure (.bool (← Op.equal t z u))) (do pure (.bool (← Op.equal t z' u')))) := fun h1 h2 h => (sr_equal hlow t (hs (.inl h)) h1 h2).bind' fun R1 u u' _ e => by cases e; exact sr_bool _
  have hN : (∀ {z z' u u' : Value}, VR R z z' → VR R u u' → op = .neq → SR P VA R (do pure (.bool (!(← Op.equal t z u)))) (do pure (.bool (!(← Op.equal t z' u'))))) := fun h1 h2 h => (sr_equal hlow t (hs (.inr h)) h1 h2).bind' fun R1 u u' _ e => by cases e; exact sr_bool _
  obtain ⟨_, rfl, _⟩ := qx
  cases y with
  | bool b2 =>
    cases (show y' = _ from qy)
    rcases op_ways op with rfl | rfl | ⟨he, hn⟩
    · exact hE hx hy rfl
    · exact hN hx hy rfl
    · cases op <;> first | exact absurd rfl he | exact absurd rfl hn | exact SR.no (dead_halt _) _
  | int k2 n2 =>
    cases (show y' = _ from qy)
    rcases op_ways op with rfl | rfl | ⟨he, hn⟩
    · exact hE hx hy rfl
    · exact hN hx hy rfl
    · cases op <;> first | exact absurd rfl he | exact absurd rfl hn | exact SR.no (dead_halt _) _
  | float k2 n2 =>
    cases (show y' = _ from qy)
    rcases op_ways op with rfl | rfl | ⟨he, hn⟩
    · exact hE hx hy rfl
    · exact hN hx hy rfl
    · cases op <;> first | exact absurd rfl he | exact absurd rfl hn | exact SR.no (dead_halt _) _
  | complex k2 m2 n2 =>
    cases (show y' = _ from qy)
    rcases op_ways op with rfl | rfl | ⟨he, hn⟩
    · exact hE hx hy rfl
    · exact hN hx hy rfl
    · cases op <;> first | exact absurd rfl he | exact absurd rfl hn | exact SR.no (dead_halt _) _
  | string s2 =>
    cases (show y' = _ from qy)
    rcases op_ways op with rfl | rfl | ⟨he, hn⟩
    · exact hE hx hy rfl
    · exact hN hx hy rfl
    · cases op <;> first | exact absurd rfl he | exact absurd rfl hn | exact SR.no (dead_halt _) _
  | pointer a2 =>
    rcases a2 with _ | a2
    · exact SR.no (dead_binR op t hs _) _
    obtain ⟨b', rfl, hb⟩ := qy
    rcases op_ways op with rfl | rfl | ⟨he, hn⟩
    · exact hE hx hy rfl
    · exact hN hx hy rfl
    · cases op <;> first | exact absurd rfl he | exact absurd rfl hn | exact SR.no (dead_halt _) _
  | slice a2 l2 c2 =>
    obtain ⟨_, rfl, _⟩ := qy
    rcases op_ways op with rfl | rfl | ⟨he, hn⟩
    · exact hE hx hy rfl
    · exact hN hx hy rfl
    · cases op <;> first | exact absurd rfl he | exact absurd rfl hn | exact SR.no (dead_halt _) _
  | map a2 =>
    obtain ⟨_, rfl, _⟩ := qy
    rcases op_ways op with rfl | rfl | ⟨he, hn⟩
    · exact hE hx hy rfl
    · exact hN hx hy rfl
    · cases op <;> first | exact absurd rfl he | exact absurd rfl hn | exact SR.no (dead_halt _) _
  | chan a2 =>
    obtain ⟨_, rfl, _⟩ := qy
    rcases op_ways op with rfl | rfl | ⟨he, hn⟩
    · exact hE hx hy rfl
    · exact hN hx hy rfl
    · cases op <;> first | exact absurd rfl he | exact absurd rfl hn | exact SR.no (dead_halt _) _
  | func f2 p2 q2 =>
    obtain ⟨_, _, _, rfl, _⟩ := qy
    rcases op_ways op with rfl | rfl | ⟨he, hn⟩
    · exact hE hx hy rfl
    · exact hN hx hy rfl
    · cases op <;> first | exact absurd rfl he | exact absurd rfl hn | exact SR.no (dead_halt _) _
  | nilFunc =>
    cases (show y' = _ from qy)
    rcases op_ways op with rfl | rfl | ⟨he, hn⟩
    · exact hE hx hy rfl
    · exact hN hx hy rfl
    · cases op <;> first | exact absurd rfl he | exact absurd rfl hn | exact SR.no (dead_halt _) _
  | iface t12 v2 =>
    obtain ⟨_, rfl, _⟩ := qy
    rcases op_ways op with rfl | rfl | ⟨he, hn⟩
    · exact hE hx hy rfl
    · exact hN hx hy rfl
    · cases op <;> first | exact absurd rfl he | exact absurd rfl hn | exact SR.no (dead_halt _) _
  | nilIface =>
    cases (show y' = _ from qy)
    rcases op_ways op with rfl | rfl | ⟨he, hn⟩
    · exact hE hx hy rfl
    · exact hN hx hy rfl
    · cases op <;> first | exact absurd rfl he | exact absurd rfl hn | exact SR.no (dead_halt _) _
  | agg c2 =>
    obtain ⟨_, rfl, _⟩ := qy
    rcases op_ways op with rfl | rfl | ⟨he, hn⟩
    · exact hE hx hy rfl
    · exact hN hx hy rfl
    · cases op <;> first | exact absurd rfl he | exact absurd rfl hn | exact SR.no (dead_halt _) _
  | tuple c2 =>
    obtain ⟨_, rfl, _⟩ := qy
    rcases op_ways op with rfl | rfl | ⟨he, hn⟩
    · exact hE hx hy rfl
    · exact hN hx hy rfl
    · cases op <;> first | exact absurd rfl he | exact absurd rfl hn | exact SR.no (dead_halt _) _
theorem sr_bin_map (hlow : P.globals.size ≤ R.low) (op : BinOp) (t : TypeId) (hs : op = .eql ∨ op = .neq → simpleT P t = true) (a : Option Nat) {x' y y' : Value} (hx : VR R (.map a) x') (hy : VR R y y') : SR P VA R (binOp op t (.map a) y) (binOp op t x' y') := by
  have qx := hx.out
  have qy := hy.out
  have hE : (∀ {z z' u u' : Value}, VR R z z' → VR R u u' → op = .eql → SR P VA R (do pure (.bool (← Op.equal t z u))) (do pure (.bool (← Op.equal t z' u')))) := fun h1 h2 h => (sr_equal hlow t (hs (.inl h)) h1 h2).bind' fun R1 u u' _ e => by cases e; exact sr_bool _
  have hN : (∀ {z z' u u' : Value}, VR R z z' → VR R u u' → op = .neq → SR P VA R (do pure (.bool (!(← Op.equal t z u)))) (do pure (.bool (!(← Op.equal t z' u'))))) := fun h1 h2 h => (sr_equal hlow t (hs (.inr h)) h1 h2).bind' fun R1 u u' _ e => by cases e; exact sr_bool _
  obtain ⟨_, rfl, _⟩ := qx
  cases y with
  | bool b2 =>
    cases (show y' = _ from qy)
    rcases op_ways op with rfl | rfl | ⟨he, hn⟩
    · exact hE hx hy rfl
    · exact hN hx hy rfl
    · cases op <;> first | exact absurd rfl he | exact absurd rfl hn | exact SR.no (dead_halt _) _
  | int k2 n2 =>
    cases (show y' = _ from qy)
    rcases op_ways op with rfl | rfl | ⟨he, hn⟩
    · exact hE hx hy rfl
    · exact hN hx hy rfl
    · cases op <;> first | exact absurd rfl he | exact absurd rfl hn | exact SR.no (dead_halt _) _
  | float k2 n2 =>
    cases (show y' = _ from qy)
    rcases op_ways op with rfl | rfl | ⟨he, hn⟩
    · exact hE hx hy rfl
    · exact hN hx hy rfl
    · cases op <;> first | exact absurd rfl he | exact absurd rfl hn | exact SR.no (dead_halt _) _
  | complex k2 m2 n2 =>
    cases (show y' = _ from qy)
    rcases op_ways op with rfl | rfl | ⟨he, hn⟩
    · exact hE hx hy rfl
    · exact hN hx hy rfl
    · cases op <;> first | exact absurd rfl he | exact absurd rfl hn | exact SR.no (dead_halt _) _
  | string s2 =>
    cases (show y' = _ from qy)
    rcases op_ways op with rfl | rfl | ⟨he, hn⟩
    · exact hE hx hy rfl
    · exact hN hx hy rfl
    · cases op <;> first | exact absurd rfl he | exact absurd rfl hn | exact SR.no (dead_halt _) _
  | pointer a2 =>
    rcases a2 with _ | a2
    · exact SR.no (dead_binR op t hs _) _
    obtain ⟨b', rfl, hb⟩ := qy
    rcases op_ways op with rfl | rfl | ⟨he, hn⟩
    · exact hE hx hy rfl
    · exact hN hx hy rfl
    · cases op <;> first | exact absurd rfl he | exact absurd rfl hn | exact SR.no (dead_halt _) _
  | slice a2 l2 c2 =>
    obtain ⟨_, rfl, _⟩ := qy
    rcases op_ways op with rfl | rfl | ⟨he, hn⟩
    · exact hE hx hy rfl
    · exact hN hx hy rfl
    · cases op <;> first | exact absurd rfl he | exact absurd rfl hn | exact SR.no (dead_halt _) _
  | map a2 =>
    obtain ⟨_, rfl, _⟩ := qy
    rcases op_ways op with rfl | rfl | ⟨he, hn⟩
    · exact hE hx hy rfl
    · exact hN hx hy rfl
    · cases op <;> first | exact absurd rfl he | exact absurd rfl hn | exact SR.no (dead_halt _) _
  | chan a2 =>
    obtain ⟨_, rfl, _⟩ := qy
    rcases op_ways op with rfl | rfl | ⟨he, hn⟩
    · exact hE hx hy rfl
    · exact hN hx hy rfl
    · cases op <;> first | exact absurd rfl he | exact absurd rfl hn | exact SR.no (dead_halt _) _
  | func f2 p2 q2 =>
    obtain ⟨_, _, _, rfl, _⟩ := qy
    rcases op_ways op with rfl | rfl | ⟨he, hn⟩
    · exact hE hx hy rfl
    · exact hN hx hy rfl
    · cases op <;> first | exact absurd rfl he | exact absurd rfl hn | exact SR.no (dead_halt _) _
  | nilFunc =>
    cases (show y' = _ from qy)
    rcases op_ways op with rfl | rfl | ⟨he, hn⟩
    · exact hE hx hy rfl
    · exact hN hx hy rfl
    · cases op <;> first | exact absurd rfl he | exact absurd rfl hn | exact SR.no (dead_halt _) _
  | iface t12 v2 =>
    obtain ⟨_, rfl, _⟩ := qy
    rcases op_ways op with rfl | rfl | ⟨he, hn⟩
    · exact hE hx hy rfl
    · exact hN hx hy rfl
    · cases op <;> first | exact absurd rfl he | exact absurd rfl hn | exact SR.no (dead_halt _) _
  | nilIface =>
    cases (show y' = _ from qy)
    rcases op_ways op with rfl | rfl | ⟨he, hn⟩
    · exact hE hx hy rfl
    · exact hN hx hy rfl
    · cases op <;> first | exact absurd rfl he | exact absurd rfl hn | exact SR.no (dead_halt _) _
  | agg c2 =>
    obtain ⟨_, rfl, _⟩ := qy
    rcases op_ways op with rfl | rfl | ⟨he, hn⟩
    · exact hE hx hy rfl
    · exact hN hx hy rfl
    · cases op <;> first | exact absurd rfl he | exact absurd rfl hn | exact SR.no (dead_halt _) _
  | tuple c2 =>
    obtain ⟨_, rfl, _⟩ := qy
    rcases op_ways op with rfl | rfl | ⟨he, hn⟩
    · exact hE hx hy rfl
    · exact hN hx hy rfl
    · cases op <;> first | exact absurd rfl he | exact absurd rfl hn | exact SR.no (dead_halt _) _
theorem sr_bin_chan (hlow : P.globals.size ≤ R.low) (op : BinOp) (t : TypeId) (hs : op = .eql ∨ op = .neq → simpleT P t = true) (a : Option Nat) {x' y y' : Value} (hx : VR R (.chan a) x') (hy : VR R y y') : SR P VA R (binOp op t (.chan a) y) (binOp op t x' y') := by
  have qx := hx.out
  have qy := hy.out
  have hE : (∀ {z z' u u' : Value}, VR R z z' → VR R u u' → op = .eql → SR P VA R (do pure (.bool (← Op.equal t z u))) (do pure (.bool (← Op.equal t z' u')))) := fun h1 h2 h => (sr_equal hlow t (hs (.inl h)) h1 h2).bind' fun R1 u u' _ e => by cases e; exact sr_bool _
  have hN : (∀ {z z' u u' : Value}, VR R z z' → VR R u u' → op = .neq → SR P VA R (do pure (.bool (!(← Op.equal t z u)))) (do pure (.bool (!(← Op.equal t z' u'))))) := fun h1 h2 h => (sr_equal hlow t (hs (.inr h)) h1 h2).bind' fun R1 u u' _ e => by cases e; exact sr_bool _
  obtain ⟨_, rfl, _⟩ := qx
  cases y with
  | bool b2 =>
    cases (show y' = _ from qy)
    rcases op_ways op with rfl | rfl | ⟨he, hn⟩
    · exact hE hx hy rfl
    · exact hN hx hy rfl
    · cases op <;> first | exact absurd rfl he | exact absurd rfl hn | exact SR.no (dead_halt _) _
  | int k2 n2 =>
    cases (show y' = _ from qy)
    rcases op_ways op with rfl | rfl | ⟨he, hn⟩
    · exact hE hx hy rfl
    · exact hN hx hy rfl
    · cases op <;> first | exact absurd rfl he | exact absurd rfl hn | exact SR.no (dead_halt _) _
  | float k2 n2 =>
    cases (show y' = _ from qy)
    rcases op_ways op with rfl | rfl | ⟨he, hn⟩
    · exact hE hx hy rfl
    · exact hN hx hy rfl
    · cases op <;> first | exact absurd rfl he | exact absurd rfl hn | exact SR.no (dead_halt _) _
  | complex k2 m2 n2 =>
    cases (show y' = _ from qy)
    rcases op_ways op with rfl | rfl | ⟨he, hn⟩
    · exact hE hx hy rfl
    · exact hN hx hy rfl
    · cases op <;> first | exact absurd rfl he | exact absurd rfl hn | exact SR.no (dead_halt _) _
  | string s2 =>
    cases (show y' = _ from qy)
    rcases op_ways op with rfl | rfl | ⟨he, hn⟩
    · exact hE hx hy rfl
    · exact hN hx hy rfl
    · cases op <;> first | exact absurd rfl he | exact absurd rfl hn | exact SR.no (dead_halt _) _
  | pointer a2 =>
    rcases a2 with _ | a2
    · exact SR.no (dead_binR op t hs _) _
    obtain ⟨b', rfl, hb⟩ := qy
    rcases op_ways op with rfl | rfl | ⟨he, hn⟩
    · exact hE hx hy rfl
    · exact hN hx hy rfl
    · cases op <;> first | exact absurd rfl he | exact absurd rfl hn | exact SR.no (dead_halt _) _
  | slice a2 l2 c2 =>
    obtain ⟨_, rfl, _⟩ := qy
    rcases op_ways op with rfl | rfl | ⟨he, hn⟩
    · exact hE hx hy rfl
    · exact hN hx hy rfl
    · cases op <;> first | exact absurd rfl he | exact absurd rfl hn | exact SR.no (dead_halt _) _
  | map a2 =>
    obtain ⟨_, rfl, _⟩ := qy
    rcases op_ways op with rfl | rfl | ⟨he, hn⟩
    · exact hE hx hy rfl
    · exact hN hx hy rfl
    · cases op <;> first | exact absurd rfl he | exact absurd rfl hn | exact SR.no (dead_halt _) _
  | chan a2 =>
    obtain ⟨_, rfl, _⟩ := qy
    rcases op_ways op with rfl | rfl | ⟨he, hn⟩
    · exact hE hx hy rfl
    · exact hN hx hy rfl
    · cases op <;> first | exact absurd rfl he | exact absurd rfl hn | exact SR.no (dead_halt _) _
  | func f2 p2 q2 =>
    obtain ⟨_, _, _, rfl, _⟩ := qy
    rcases op_ways op with rfl | rfl | ⟨he, hn⟩
    · exact hE hx hy rfl
    · exact hN hx hy rfl
    · cases op <;> first | exact absurd rfl he | exact absurd rfl hn | exact SR.no (dead_halt _) _
  | nilFunc =>
    cases (show y' = _ from qy)
    rcases op_ways op with rfl | rfl | ⟨he, hn⟩
    · exact hE hx hy rfl
    · exact hN hx hy rfl
    · cases op <;> first | exact absurd rfl he | exact absurd rfl hn | exact SR.no (dead_halt _) _
  | iface t12 v2 =>
    obtain ⟨_, rfl, _⟩ := qy
    rcases op_ways op with rfl | rfl | ⟨he, hn⟩
    · exact hE hx hy rfl
    · exact hN hx hy rfl
    · cases op <;> first | exact absurd rfl he | exact absurd rfl hn | exact SR.no (dead_halt _) _
  | nilIface =>
    cases (show y' = _ from qy)
    rcases op_ways op with rfl | rfl | ⟨he, hn⟩
    · exact hE hx hy rfl
    · exact hN hx hy rfl
    · cases op <;> first | exact absurd rfl he | exact absurd rfl hn | exact SR.no (dead_halt _) _
  | agg c2 =>
    obtain ⟨_, rfl, _⟩ := qy
    rcases op_ways op with rfl | rfl | ⟨he, hn⟩
    · exact hE hx hy rfl
    · exact hN hx hy rfl
    · cases op <;> first | exact absurd rfl he | exact absurd rfl hn | exact SR.no (dead_halt _) _
  | tuple c2 =>
    obtain ⟨_, rfl, _⟩ := qy
    rcases op_ways op with rfl | rfl | ⟨he, hn⟩
    · exact hE hx hy rfl
    · exact hN hx hy rfl
    · cases op <;> first | exact absurd rfl he | exact absurd rfl hn | exact SR.no (dead_halt _) _
theorem sr_bin_func (hlow : P.globals.size ≤ R.low) (op : BinOp) (t : TypeId) (hs : op = .eql ∨ op = .neq → simpleT P t = true) (f : Fn) (p q : Array Value) {x' y y' : Value} (hx : VR R (.func f p q) x') (hy : VR R y y') : SR P VA R (binOp op t (.func f p q) y) (binOp op t x' y') := by
  have qx := hx.out
  have qy := hy.out
  have hE : (∀ {z z' u u' : Value}, VR R z z' → VR R u u' → op = .eql → SR P VA R (do pure (.bool (← Op.equal t z u))) (do pure (.bool (← Op.equal t z' u')))) := fun h1 h2 h => (sr_equal hlow t (hs (.inl h)) h1 h2).bind' fun R1 u u' _ e => by cases e; exact sr_bool _
  have hN : (∀ {z z' u u' : Value}, VR R z z' → VR R u u' → op = .neq → SR P VA R (do pure (.bool (!(← Op.equal t z u)))) (do pure (.bool (!(← Op.equal t z' u'))))) := fun h1 h2 h => (sr_equal hlow t (hs (.inr h)) h1 h2).bind' fun R1 u u' _ e => by cases e; exact sr_bool _
  obtain ⟨_, _, _, rfl, _⟩ := qx
  cases y with
  | bool b2 =>
    cases (show y' = _ from qy)
    rcases op_ways op with rfl | rfl | ⟨he, hn⟩
    · exact hE hx hy rfl
    · exact hN hx hy rfl
    · cases op <;> first | exact absurd rfl he | exact absurd rfl hn | exact SR.no (dead_halt _) _
  | int k2 n2 =>
    cases (show y' = _ from qy)
    rcases op_ways op with rfl | rfl | ⟨he, hn⟩
    · exact hE hx hy rfl
    · exact hN hx hy rfl
    · cases op <;> first | exact absurd rfl he | exact absurd rfl hn | exact SR.no (dead_halt _) _
  | float k2 n2 =>
    cases (show y' = _ from qy)
    rcases op_ways op with rfl | rfl | ⟨he, hn⟩
    · exact hE hx hy rfl
    · exact hN hx hy rfl
    · cases op <;> first | exact absurd rfl he | exact absurd rfl hn | exact SR.no (dead_halt _) _
  | complex k2 m2 n2 =>
    cases (show y' = _ from qy)
    rcases op_ways op with rfl | rfl | ⟨he, hn⟩
    · exact hE hx hy rfl
    · exact hN hx hy rfl
    · cases op <;> first | exact absurd rfl he | exact absurd rfl hn | exact SR.no (dead_halt _) _
  | string s2 =>
    cases (show y' = _ from qy)
    rcases op_ways op with rfl | rfl | ⟨he, hn⟩
    · exact hE hx hy rfl
    · exact hN hx hy rfl
    · cases op <;> first | exact absurd rfl he | exact absurd rfl hn | exact SR.no (dead_halt _) _
  | pointer a2 =>
    rcases a2 with _ | a2
    · exact SR.no (dead_binR op t hs _) _
    obtain ⟨b', rfl, hb⟩ := qy
    rcases op_ways op with rfl | rfl | ⟨he, hn⟩
    · exact hE hx hy rfl
    · exact hN hx hy rfl
    · cases op <;> first | exact absurd rfl he | exact absurd rfl hn | exact SR.no (dead_halt _) _
  | slice a2 l2 c2 =>
    obtain ⟨_, rfl, _⟩ := qy
    rcases op_ways op with rfl | rfl | ⟨he, hn⟩
    · exact hE hx hy rfl
    · exact hN hx hy rfl
    · cases op <;> first | exact absurd rfl he | exact absurd rfl hn | exact SR.no (dead_halt _) _
  | map a2 =>
    obtain ⟨_, rfl, _⟩ := qy
    rcases op_ways op with rfl | rfl | ⟨he, hn⟩
    · exact hE hx hy rfl
    · exact hN hx hy rfl
    · cases op <;> first | exact absurd rfl he | exact absurd rfl hn | exact SR.no (dead_halt _) _
  | chan a2 =>
    obtain ⟨_, rfl, _⟩ := qy
    rcases op_ways op with rfl | rfl | ⟨he, hn⟩
    · exact hE hx hy rfl
    · exact hN hx hy rfl
    · cases op <;> first | exact absurd rfl he | exact absurd rfl hn | exact SR.no (dead_halt _) _
  | func f2 p2 q2 =>
    obtain ⟨_, _, _, rfl, _⟩ := qy
    rcases op_ways op with rfl | rfl | ⟨he, hn⟩
    · exact hE hx hy rfl
    · exact hN hx hy rfl
    · cases op <;> first | exact absurd rfl he | exact absurd rfl hn | exact SR.no (dead_halt _) _
  | nilFunc =>
    cases (show y' = _ from qy)
    rcases op_ways op with rfl | rfl | ⟨he, hn⟩
    · exact hE hx hy rfl
    · exact hN hx hy rfl
    · cases op <;> first | exact absurd rfl he | exact absurd rfl hn | exact SR.no (dead_halt _) _
  | iface t12 v2 =>
    obtain ⟨_, rfl, _⟩ := qy
    rcases op_ways op with rfl | rfl | ⟨he, hn⟩
    · exact hE hx hy rfl
    · exact hN hx hy rfl
    · cases op <;> first | exact absurd rfl he | exact absurd rfl hn | exact SR.no (dead_halt _) _
  | nilIface =>
    cases (show y' = _ from qy)
    rcases op_ways op with rfl | rfl | ⟨he, hn⟩
    · exact hE hx hy rfl
    · exact hN hx hy rfl
    · cases op <;> first | exact absurd rfl he | exact absurd rfl hn | exact SR.no (dead_halt _) _
  | agg c2 =>
    obtain ⟨_, rfl, _⟩ := qy
    rcases op_ways op with rfl | rfl | ⟨he, hn⟩
    · exact hE hx hy rfl
    · exact hN hx hy rfl
    · cases op <;> first | exact absurd rfl he | exact absurd rfl hn | exact SR.no (dead_halt _) _
  | tuple c2 =>
    obtain ⟨_, rfl, _⟩ := qy
    rcases op_ways op with rfl | rfl | ⟨he, hn⟩
    · exact hE hx hy rfl
    · exact hN hx hy rfl
    · cases op <;> first | exact absurd rfl he | exact absurd rfl hn | exact SR.no (dead_halt _) _
theorem sr_bin_nilFunc (hlow : P.globals.size ≤ R.low) (op : BinOp) (t : TypeId) (hs : op = .eql ∨ op = .neq → simpleT P t = true)  {x' y y' : Value} (hx : VR R .nilFunc x') (hy : VR R y y') : SR P VA R (binOp op t .nilFunc y) (binOp op t x' y') := by
  have qx := hx.out
  have qy := hy.out
  have hE : (∀ {z z' u u' : Value}, VR R z z' → VR R u u' → op = .eql → SR P VA R (do pure (.bool (← Op.equal t z u))) (do pure (.bool (← Op.equal t z' u')))) := fun h1 h2 h => (sr_equal hlow t (hs (.inl h)) h1 h2).bind' fun R1 u u' _ e => by cases e; exact sr_bool _
  have hN : (∀ {z z' u u' : Value}, VR R z z' → VR R u u' → op = .neq → SR P VA R (do pure (.bool (!(← Op.equal t z u)))) (do pure (.bool (!(← Op.equal t z' u'))))) := fun h1 h2 h => (sr_equal hlow t (hs (.inr h)) h1 h2).bind' fun R1 u u' _ e => by cases e; exact sr_bool _
  cases (show x' = _ from qx)
  cases y with
  | bool b2 =>
    cases (show y' = _ from qy)
    rcases op_ways op with rfl | rfl | ⟨he, hn⟩
    · exact hE hx hy rfl
    · exact hN hx hy rfl
    · cases op <;> first | exact absurd rfl he | exact absurd rfl hn | exact SR.no (dead_halt _) _
  | int k2 n2 =>
    cases (show y' = _ from qy)
    rcases op_ways op with rfl | rfl | ⟨he, hn⟩
    · exact hE hx hy rfl
    · exact hN hx hy rfl
    · cases op <;> first | exact absurd rfl he | exact absurd rfl hn | exact SR.no (dead_halt _) _
  | float k2 n2 =>
    cases (show y' = _ from qy)
    rcases op_ways op with rfl | rfl | ⟨he, hn⟩
    · exact hE hx hy rfl
    · exact hN hx hy rfl
    · cases op <;> first | exact absurd rfl he | exact absurd rfl hn | exact SR.no (dead_halt _) _
  | complex k2 m2 n2 =>
    cases (show y' = _ from qy)
    rcases op_ways op with rfl | rfl | ⟨he, hn⟩
    · exact hE hx hy rfl
    · exact hN hx hy rfl
    · cases op <;> first | exact absurd rfl he | exact absurd rfl hn | exact SR.no (dead_halt _) _
  | string s2 =>
    cases (show y' = _ from qy)
    rcases op_ways op with rfl | rfl | ⟨he, hn⟩
    · exact hE hx hy rfl
    · exact hN hx hy rfl
    · cases op <;> first | exact absurd rfl he | exact absurd rfl hn | exact SR.no (dead_halt _) _
  | pointer a2 =>
    rcases a2 with _ | a2
    · exact SR.no (dead_binR op t hs _) _
    obtain ⟨b', rfl, hb⟩ := qy
    rcases op_ways op with rfl | rfl | ⟨he, hn⟩
    · exact hE hx hy rfl
    · exact hN hx hy rfl
    · cases op <;> first | exact absurd rfl he | exact absurd rfl hn | exact SR.no (dead_halt _) _
  | slice a2 l2 c2 =>
    obtain ⟨_, rfl, _⟩ := qy
    rcases op_ways op with rfl | rfl | ⟨he, hn⟩
    · exact hE hx hy rfl
    · exact hN hx hy rfl
    · cases op <;> first | exact absurd rfl he | exact absurd rfl hn | exact SR.no (dead_halt _) _
  | map a2 =>
    obtain ⟨_, rfl, _⟩ := qy
    rcases op_ways op with rfl | rfl | ⟨he, hn⟩
    · exact hE hx hy rfl
    · exact hN hx hy rfl
    · cases op <;> first | exact absurd rfl he | exact absurd rfl hn | exact SR.no (dead_halt _) _
  | chan a2 =>
    obtain ⟨_, rfl, _⟩ := qy
    rcases op_ways op with rfl | rfl | ⟨he, hn⟩
    · exact hE hx hy rfl
    · exact hN hx hy rfl
    · cases op <;> first | exact absurd rfl he | exact absurd rfl hn | exact SR.no (dead_halt _) _
  | func f2 p2 q2 =>
    obtain ⟨_, _, _, rfl, _⟩ := qy
    rcases op_ways op with rfl | rfl | ⟨he, hn⟩
    · exact hE hx hy rfl
    · exact hN hx hy rfl
    · cases op <;> first | exact absurd rfl he | exact absurd rfl hn | exact SR.no (dead_halt _) _
  | nilFunc =>
    cases (show y' = _ from qy)
    rcases op_ways op with rfl | rfl | ⟨he, hn⟩
    · exact hE hx hy rfl
    · exact hN hx hy rfl
    · cases op <;> first | exact absurd rfl he | exact absurd rfl hn | exact SR.no (dead_halt _) _
  | iface t12 v2 =>
    obtain ⟨_, rfl, _⟩ := qy
    rcases op_ways op with rfl | rfl | ⟨he, hn⟩
    · exact hE hx hy rfl
    · exact hN hx hy rfl
    · cases op <;> first | exact absurd rfl he | exact absurd rfl hn | exact SR.no (dead_halt _) _
  | nilIface =>
    cases (show y' = _ from qy)
    rcases op_ways op with rfl | rfl | ⟨he, hn⟩
    · exact hE hx hy rfl
    · exact hN hx hy rfl
    · cases op <;> first | exact absurd rfl he | exact absurd rfl hn | exact SR.no (dead_halt _) _
  | agg c2 =>
    obtain ⟨_, rfl, _⟩ := qy
    rcases op_ways op with rfl | rfl | ⟨he, hn⟩
    · exact hE hx hy rfl
    · exact hN hx hy rfl
    · cases op <;> first | exact absurd rfl he | exact absurd rfl hn | exact SR.no (dead_halt _) _
  | tuple c2 =>
    obtain ⟨_, rfl, _⟩ := qy
    rcases op_ways op with rfl | rfl | ⟨he, hn⟩
    · exact hE hx hy rfl
    · exact hN hx hy rfl
    · cases op <;> first | exact absurd rfl he | exact absurd rfl hn | exact SR.no (dead_halt _) _
theorem sr_bin_iface (hlow : P.globals.size ≤ R.low) (op : BinOp) (t : TypeId) (hs : op = .eql ∨ op = .neq → simpleT P t = true) (t1 : TypeId) (v : Value) {x' y y' : Value} (hx : VR R (.iface t1 v) x') (hy : VR R y y') : SR P VA R (binOp op t (.iface t1 v) y) (binOp op t x' y') := by
  have qx := hx.out
  have qy := hy.out
  have hE : (∀ {z z' u u' : Value}, VR R z z' → VR R u u' → op = .eql → SR P VA R (do pure (.bool (← Op.equal t z u))) (do pure (.bool (← Op.equal t z' u')))) := fun h1 h2 h => (sr_equal hlow t (hs (.inl h)) h1 h2).bind' fun R1 u u' _ e => by cases e; exact sr_bool _
  have hN : (∀ {z z' u u' : Value}, VR R z z' → VR R u u' → op = .neq → SR P VA R (do pure (.bool (!(← Op.equal t z u)))) (do pure (.bool (!(← Op.equal t z' u'))))) := fun h1 h2 h => (sr_equal hlow t (hs (.inr h)) h1 h2).bind' fun R1 u u' _ e => by cases e; exact sr_bool _
  obtain ⟨_, rfl, _⟩ := qx
  cases y with
  | bool b2 =>
    cases (show y' = _ from qy)
    rcases op_ways op with rfl | rfl | ⟨he, hn⟩
    · exact hE hx hy rfl
    · exact hN hx hy rfl
    · cases op <;> first | exact absurd rfl he | exact absurd rfl hn | exact SR.no (dead_halt _) _
  | int k2 n2 =>
    cases (show y' = _ from qy)
    rcases op_ways op with rfl | rfl | ⟨he, hn⟩
    · exact hE hx hy rfl
    · exact hN hx hy rfl
    · cases op <;> first | exact absurd rfl he | exact absurd rfl hn | exact SR.no (dead_halt _) _
  | float k2 n2 =>
    cases (show y' = _ from qy)
    rcases op_ways op with rfl | rfl | ⟨he, hn⟩
    · exact hE hx hy rfl
    · exact hN hx hy rfl
    · cases op <;> first | exact absurd rfl he | exact absurd rfl hn | exact SR.no (dead_halt _) _
  | complex k2 m2 n2 =>
    cases (show y' = _ from qy)
    rcases op_ways op with rfl | rfl | ⟨he, hn⟩
    · exact hE hx hy rfl
    · exact hN hx hy rfl
    · cases op <;> first | exact absurd rfl he | exact absurd rfl hn | exact SR.no (dead_halt _) _
  | string s2 =>
    cases (show y' = _ from qy)
    rcases op_ways op with rfl | rfl | ⟨he, hn⟩
    · exact hE hx hy rfl
    · exact hN hx hy rfl
    · cases op <;> first | exact absurd rfl he | exact absurd rfl hn | exact SR.no (dead_halt _) _
  | pointer a2 =>
    rcases a2 with _ | a2
    · exact SR.no (dead_binR op t hs _) _
    obtain ⟨b', rfl, hb⟩ := qy
    rcases op_ways op with rfl | rfl | ⟨he, hn⟩
    · exact hE hx hy rfl
    · exact hN hx hy rfl
    · cases op <;> first | exact absurd rfl he | exact absurd rfl hn | exact SR.no (dead_halt _) _
  | slice a2 l2 c2 =>
    obtain ⟨_, rfl, _⟩ := qy
    rcases op_ways op with rfl | rfl | ⟨he, hn⟩
    · exact hE hx hy rfl
    · exact hN hx hy rfl
    · cases op <;> first | exact absurd rfl he | exact absurd rfl hn | exact SR.no (dead_halt _) _
  | map a2 =>
    obtain ⟨_, rfl, _⟩ := qy
    rcases op_ways op with rfl | rfl | ⟨he, hn⟩
    · exact hE hx hy rfl
    · exact hN hx hy rfl
    · cases op <;> first | exact absurd rfl he | exact absurd rfl hn | exact SR.no (dead_halt _) _
  | chan a2 =>
    obtain ⟨_, rfl, _⟩ := qy
    rcases op_ways op with rfl | rfl | ⟨he, hn⟩
    · exact hE hx hy rfl
    · exact hN hx hy rfl
    · cases op <;> first | exact absurd rfl he | exact absurd rfl hn | exact SR.no (dead_halt _) _
  | func f2 p2 q2 =>
    obtain ⟨_, _, _, rfl, _⟩ := qy
    rcases op_ways op with rfl | rfl | ⟨he, hn⟩
    · exact hE hx hy rfl
    · exact hN hx hy rfl
    · cases op <;> first | exact absurd rfl he | exact absurd rfl hn | exact SR.no (dead_halt _) _
  | nilFunc =>
    cases (show y' = _ from qy)
    rcases op_ways op with rfl | rfl | ⟨he, hn⟩
    · exact hE hx hy rfl
    · exact hN hx hy rfl
    · cases op <;> first | exact absurd rfl he | exact absurd rfl hn | exact SR.no (dead_halt _) _
  | iface t12 v2 =>
    obtain ⟨_, rfl, _⟩ := qy
    rcases op_ways op with rfl | rfl | ⟨he, hn⟩
    · exact hE hx hy rfl
    · exact hN hx hy rfl
    · cases op <;> first | exact absurd rfl he | exact absurd rfl hn | exact SR.no (dead_halt _) _
  | nilIface =>
    cases (show y' = _ from qy)
    rcases op_ways op with rfl | rfl | ⟨he, hn⟩
    · exact hE hx hy rfl
    · exact hN hx hy rfl
    · cases op <;> first | exact absurd rfl he | exact absurd rfl hn | exact SR.no (dead_halt _) _
  | agg c2 =>
    obtain ⟨_, rfl, _⟩ := qy
    rcases op_ways op with rfl | rfl | ⟨he, hn⟩
    · exact hE hx hy rfl
    · exact hN hx hy rfl
    · cases op <;> first | exact absurd rfl he | exact absurd rfl hn | exact SR.no (dead_halt _) _
  | tuple c2 =>
    obtain ⟨_, rfl, _⟩ := qy
    rcases op_ways op with rfl | rfl | ⟨he, hn⟩
    · exact hE hx hy rfl
    · exact hN hx hy rfl
    · cases op <;> first | exact absurd rfl he | exact absurd rfl hn | exact SR.no (dead_halt _) _
theorem sr_bin_nilIface (hlow : P.globals.size ≤ R.low) (op : BinOp) (t : TypeId) (hs : op = .eql ∨ op = .neq → simpleT P t = true)  {x' y y' : Value} (hx : VR R .nilIface x') (hy : VR R y y') : SR P VA R (binOp op t .nilIface y) (binOp op t x' y') := by
  have qx := hx.out
  have qy := hy.out
  have hE : (∀ {z z' u u' : Value}, VR R z z' → VR R u u' → op = .eql → SR P VA R (do pure (.bool (← Op.equal t z u))) (do pure (.bool (← Op.equal t z' u')))) := fun h1 h2 h => (sr_equal hlow t (hs (.inl h)) h1 h2).bind' fun R1 u u' _ e => by cases e; exact sr_bool _
  have hN : (∀ {z z' u u' : Value}, VR R z z' → VR R u u' → op = .neq → SR P VA R (do pure (.bool (!(← Op.equal t z u)))) (do pure (.bool (!(← Op.equal t z' u'))))) := fun h1 h2 h => (sr_equal hlow t (hs (.inr h)) h1 h2).bind' fun R1 u u' _ e => by cases e; exact sr_bool _
  cases (show x' = _ from qx)
  cases y with
  | bool b2 =>
    cases (show y' = _ from qy)
    rcases op_ways op with rfl | rfl | ⟨he, hn⟩
    · exact hE hx hy rfl
    · exact hN hx hy rfl
    · cases op <;> first | exact absurd rfl he | exact absurd rfl hn | exact SR.no (dead_halt _) _
  | int k2 n2 =>
    cases (show y' = _ from qy)
    rcases op_ways op with rfl | rfl | ⟨he, hn⟩
    · exact hE hx hy rfl
    · exact hN hx hy rfl
    · cases op <;> first | exact absurd rfl he | exact absurd rfl hn | exact SR.no (dead_halt _) _
  | float k2 n2 =>
    cases (show y' = _ from qy)
    rcases op_ways op with rfl | rfl | ⟨he, hn⟩
    · exact hE hx hy rfl
    · exact hN hx hy rfl
    · cases op <;> first | exact absurd rfl he | exact absurd rfl hn | exact SR.no (dead_halt _) _
  | complex k2 m2 n2 =>
    cases (show y' = _ from qy)
    rcases op_ways op with rfl | rfl | ⟨he, hn⟩
    · exact hE hx hy rfl
    · exact hN hx hy rfl
    · cases op <;> first | exact absurd rfl he | exact absurd rfl hn | exact SR.no (dead_halt _) _
  | string s2 =>
    cases (show y' = _ from qy)
    rcases op_ways op with rfl | rfl | ⟨he, hn⟩
    · exact hE hx hy rfl
    · exact hN hx hy rfl
    · cases op <;> first | exact absurd rfl he | exact absurd rfl hn | exact SR.no (dead_halt _) _
  | pointer a2 =>
    rcases a2 with _ | a2
    · exact SR.no (dead_binR op t hs _) _
    obtain ⟨b', rfl, hb⟩ := qy
    rcases op_ways op with rfl | rfl | ⟨he, hn⟩
    · exact hE hx hy rfl
    · exact hN hx hy rfl
    · cases op <;> first | exact absurd rfl he | exact absurd rfl hn | exact SR.no (dead_halt _) _
  | slice a2 l2 c2 =>
    obtain ⟨_, rfl, _⟩ := qy
    rcases op_ways op with rfl | rfl | ⟨he, hn⟩
    · exact hE hx hy rfl
    · exact hN hx hy rfl
    · cases op <;> first | exact absurd rfl he | exact absurd rfl hn | exact SR.no (dead_halt _) _
  | map a2 =>
    obtain ⟨_, rfl, _⟩ := qy
    rcases op_ways op with rfl | rfl | ⟨he, hn⟩
    · exact hE hx hy rfl
    · exact hN hx hy rfl
    · cases op <;> first | exact absurd rfl he | exact absurd rfl hn | exact SR.no (dead_halt _) _
  | chan a2 =>
    obtain ⟨_, rfl, _⟩ := qy
    rcases op_ways op with rfl | rfl | ⟨he, hn⟩
    · exact hE hx hy rfl
    · exact hN hx hy rfl
    · cases op <;> first | exact absurd rfl he | exact absurd rfl hn | exact SR.no (dead_halt _) _
  | func f2 p2 q2 =>
    obtain ⟨_, _, _, rfl, _⟩ := qy
    rcases op_ways op with rfl | rfl | ⟨he, hn⟩
    · exact hE hx hy rfl
    · exact hN hx hy rfl
    · cases op <;> first | exact absurd rfl he | exact absurd rfl hn | exact SR.no (dead_halt _) _
  | nilFunc =>
    cases (show y' = _ from qy)
    rcases op_ways op with rfl | rfl | ⟨he, hn⟩
    · exact hE hx hy rfl
    · exact hN hx hy rfl
    · cases op <;> first | exact absurd rfl he | exact absurd rfl hn | exact SR.no (dead_halt _) _
  | iface t12 v2 =>
    obtain ⟨_, rfl, _⟩ := qy
    rcases op_ways op with rfl | rfl | ⟨he, hn⟩
    · exact hE hx hy rfl
    · exact hN hx hy rfl
    · cases op <;> first | exact absurd rfl he | exact absurd rfl hn | exact SR.no (dead_halt _) _
  | nilIface =>
    cases (show y' = _ from qy)
    rcases op_ways op with rfl | rfl | ⟨he, hn⟩
    · exact hE hx hy rfl
    · exact hN hx hy rfl
    · cases op <;> first | exact absurd rfl he | exact absurd rfl hn | exact SR.no (dead_halt _) _
  | agg c2 =>
    obtain ⟨_, rfl, _⟩ := qy
    rcases op_ways op with rfl | rfl | ⟨he, hn⟩
    · exact hE hx hy rfl
    · exact hN hx hy rfl
    · cases op <;> first | exact absurd rfl he | exact absurd rfl hn | exact SR.no (dead_halt _) _
  | tuple c2 =>
    obtain ⟨_, rfl, _⟩ := qy
    rcases op_ways op with rfl | rfl | ⟨he, hn⟩
    · exact hE hx hy rfl
    · exact hN hx hy rfl
    · cases op <;> first | exact absurd rfl he | exact absurd rfl hn | exact SR.no (dead_halt _) _
theorem sr_bin_agg (hlow : P.globals.size ≤ R.low) (op : BinOp) (t : TypeId) (hs : op = .eql ∨ op = .neq → simpleT P t = true) (c : Array Value) {x' y y' : Value} (hx : VR R (.agg c) x') (hy : VR R y y') : SR P VA R (binOp op t (.agg c) y) (binOp op t x' y') := by
  have qx := hx.out
  have qy := hy.out
  have hE : (∀ {z z' u u' : Value}, VR R z z' → VR R u u' → op = .eql → SR P VA R (do pure (.bool (← Op.equal t z u))) (do pure (.bool (← Op.equal t z' u')))) := fun h1 h2 h => (sr_equal hlow t (hs (.inl h)) h1 h2).bind' fun R1 u u' _ e => by cases e; exact sr_bool _
  have hN : (∀ {z z' u u' : Value}, VR R z z' → VR R u u' → op = .neq → SR P VA R (do pure (.bool (!(← Op.equal t z u)))) (do pure (.bool (!(← Op.equal t z' u'))))) := fun h1 h2 h => (sr_equal hlow t (hs (.inr h)) h1 h2).bind' fun R1 u u' _ e => by cases e; exact sr_bool _
  obtain ⟨_, rfl, _⟩ := qx
  cases y with
  | bool b2 =>
    cases (show y' = _ from qy)
    rcases op_ways op with rfl | rfl | ⟨he, hn⟩
    · exact hE hx hy rfl
    · exact hN hx hy rfl
    · cases op <;> first | exact absurd rfl he | exact absurd rfl hn | exact SR.no (dead_halt _) _
  | int k2 n2 =>
    cases (show y' = _ from qy)
    rcases op_ways op with rfl | rfl | ⟨he, hn⟩
    · exact hE hx hy rfl
    · exact hN hx hy rfl
    · cases op <;> first | exact absurd rfl he | exact absurd rfl hn | exact SR.no (dead_halt _) _
  | float k2 n2 =>
    cases (show y' = _ from qy)
    rcases op_ways op with rfl | rfl | ⟨he, hn⟩
    · exact hE hx hy rfl
    · exact hN hx hy rfl
    · cases op <;> first | exact absurd rfl he | exact absurd rfl hn | exact SR.no (dead_halt _) _
  | complex k2 m2 n2 =>
    cases (show y' = _ from qy)
    rcases op_ways op with rfl | rfl | ⟨he, hn⟩
    · exact hE hx hy rfl
    · exact hN hx hy rfl
    · cases op <;> first | exact absurd rfl he | exact absurd rfl hn | exact SR.no (dead_halt _) _
  | string s2 =>
    cases (show y' = _ from qy)
    rcases op_ways op with rfl | rfl | ⟨he, hn⟩
    · exact hE hx hy rfl
    · exact hN hx hy rfl
    · cases op <;> first | exact absurd rfl he | exact absurd rfl hn | exact SR.no (dead_halt _) _
  | pointer a2 =>
    rcases a2 with _ | a2
    · exact SR.no (dead_binR op t hs _) _
    obtain ⟨b', rfl, hb⟩ := qy
    rcases op_ways op with rfl | rfl | ⟨he, hn⟩
    · exact hE hx hy rfl
    · exact hN hx hy rfl
    · cases op <;> first | exact absurd rfl he | exact absurd rfl hn | exact SR.no (dead_halt _) _
  | slice a2 l2 c2 =>
    obtain ⟨_, rfl, _⟩ := qy
    rcases op_ways op with rfl | rfl | ⟨he, hn⟩
    · exact hE hx hy rfl
    · exact hN hx hy rfl
    · cases op <;> first | exact absurd rfl he | exact absurd rfl hn | exact SR.no (dead_halt _) _
  | map a2 =>
    obtain ⟨_, rfl, _⟩ := qy
    rcases op_ways op with rfl | rfl | ⟨he, hn⟩
    · exact hE hx hy rfl
    · exact hN hx hy rfl
    · cases op <;> first | exact absurd rfl he | exact absurd rfl hn | exact SR.no (dead_halt _) _
  | chan a2 =>
    obtain ⟨_, rfl, _⟩ := qy
    rcases op_ways op with rfl | rfl | ⟨he, hn⟩
    · exact hE hx hy rfl
    · exact hN hx hy rfl
    · cases op <;> first | exact absurd rfl he | exact absurd rfl hn | exact SR.no (dead_halt _) _
  | func f2 p2 q2 =>
    obtain ⟨_, _, _, rfl, _⟩ := qy
    rcases op_ways op with rfl | rfl | ⟨he, hn⟩
    · exact hE hx hy rfl
    · exact hN hx hy rfl
    · cases op <;> first | exact absurd rfl he | exact absurd rfl hn | exact SR.no (dead_halt _) _
  | nilFunc =>
    cases (show y' = _ from qy)
    rcases op_ways op with rfl | rfl | ⟨he, hn⟩
    · exact hE hx hy rfl
    · exact hN hx hy rfl
    · cases op <;> first | exact absurd rfl he | exact absurd rfl hn | exact SR.no (dead_halt _) _
  | iface t12 v2 =>
    obtain ⟨_, rfl, _⟩ := qy
    rcases op_ways op with rfl | rfl | ⟨he, hn⟩
    · exact hE hx hy rfl
    · exact hN hx hy rfl
    · cases op <;> first | exact absurd rfl he | exact absurd rfl hn | exact SR.no (dead_halt _) _
  | nilIface =>
    cases (show y' = _ from qy)
    rcases op_ways op with rfl | rfl | ⟨he, hn⟩
    · exact hE hx hy rfl
    · exact hN hx hy rfl
    · cases op <;> first | exact absurd rfl he | exact absurd rfl hn | exact SR.no (dead_halt _) _
  | agg c2 =>
    obtain ⟨_, rfl, _⟩ := qy
    rcases op_ways op with rfl | rfl | ⟨he, hn⟩
    · exact hE hx hy rfl
    · exact hN hx hy rfl
    · cases op <;> first | exact absurd rfl he | exact absurd rfl hn | exact SR.no (dead_halt _) _
  | tuple c2 =>
    obtain ⟨_, rfl, _⟩ := qy
    rcases op_ways op with rfl | rfl | ⟨he, hn⟩
    · exact hE hx hy rfl
    · exact hN hx hy rfl
    · cases op <;> first | exact absurd rfl he | exact absurd rfl hn | exact SR.no (dead_halt _) _
theorem sr_bin_tuple (hlow : P.globals.size ≤ R.low) (op : BinOp) (t : TypeId) (hs : op = .eql ∨ op = .neq → simpleT P t = true) (c : Array Value) {x' y y' : Value} (hx : VR R (.tuple c) x') (hy : VR R y y') : SR P VA R (binOp op t (.tuple c) y) (binOp op t x' y') := by
  have qx := hx.out
  have qy := hy.out
  have hE : (∀ {z z' u u' : Value}, VR R z z' → VR R u u' → op = .eql → SR P VA R (do pure (.bool (← Op.equal t z u))) (do pure (.bool (← Op.equal t z' u')))) := fun h1 h2 h => (sr_equal hlow t (hs (.inl h)) h1 h2).bind' fun R1 u u' _ e => by cases e; exact sr_bool _
  have hN : (∀ {z z' u u' : Value}, VR R z z' → VR R u u' → op = .neq → SR P VA R (do pure (.bool (!(← Op.equal t z u)))) (do pure (.bool (!(← Op.equal t z' u'))))) := fun h1 h2 h => (sr_equal hlow t (hs (.inr h)) h1 h2).bind' fun R1 u u' _ e => by cases e; exact sr_bool _
  obtain ⟨_, rfl, _⟩ := qx
  cases y with
  | bool b2 =>
    cases (show y' = _ from qy)
    rcases op_ways op with rfl | rfl | ⟨he, hn⟩
    · exact hE hx hy rfl
    · exact hN hx hy rfl
    · cases op <;> first | exact absurd rfl he | exact absurd rfl hn | exact SR.no (dead_halt _) _
  | int k2 n2 =>
    cases (show y' = _ from qy)
    rcases op_ways op with rfl | rfl | ⟨he, hn⟩
    · exact hE hx hy rfl
    · exact hN hx hy rfl
    · cases op <;> first | exact absurd rfl he | exact absurd rfl hn | exact SR.no (dead_halt _) _
  | float k2 n2 =>
    cases (show y' = _ from qy)
    rcases op_ways op with rfl | rfl | ⟨he, hn⟩
    · exact hE hx hy rfl
    · exact hN hx hy rfl
    · cases op <;> first | exact absurd rfl he | exact absurd rfl hn | exact SR.no (dead_halt _) _
  | complex k2 m2 n2 =>
    cases (show y' = _ from qy)
    rcases op_ways op with rfl | rfl | ⟨he, hn⟩
    · exact hE hx hy rfl
    · exact hN hx hy rfl
    · cases op <;> first | exact absurd rfl he | exact absurd rfl hn | exact SR.no (dead_halt _) _
  | string s2 =>
    cases (show y' = _ from qy)
    rcases op_ways op with rfl | rfl | ⟨he, hn⟩
    · exact hE hx hy rfl
    · exact hN hx hy rfl
    · cases op <;> first | exact absurd rfl he | exact absurd rfl hn | exact SR.no (dead_halt _) _
  | pointer a2 =>
    rcases a2 with _ | a2
    · exact SR.no (dead_binR op t hs _) _
    obtain ⟨b', rfl, hb⟩ := qy
    rcases op_ways op with rfl | rfl | ⟨he, hn⟩
    · exact hE hx hy rfl
    · exact hN hx hy rfl
    · cases op <;> first | exact absurd rfl he | exact absurd rfl hn | exact SR.no (dead_halt _) _
  | slice a2 l2 c2 =>
    obtain ⟨_, rfl, _⟩ := qy
    rcases op_ways op with rfl | rfl | ⟨he, hn⟩
    · exact hE hx hy rfl
    · exact hN hx hy rfl
    · cases op <;> first | exact absurd rfl he | exact absurd rfl hn | exact SR.no (dead_halt _) _
  | map a2 =>
    obtain ⟨_, rfl, _⟩ := qy
    rcases op_ways op with rfl | rfl | ⟨he, hn⟩
    · exact hE hx hy rfl
    · exact hN hx hy rfl
    · cases op <;> first | exact absurd rfl he | exact absurd rfl hn | exact SR.no (dead_halt _) _
  | chan a2 =>
    obtain ⟨_, rfl, _⟩ := qy
    rcases op_ways op with rfl | rfl | ⟨he, hn⟩
    · exact hE hx hy rfl
    · exact hN hx hy rfl
    · cases op <;> first | exact absurd rfl he | exact absurd rfl hn | exact SR.no (dead_halt _) _
  | func f2 p2 q2 =>
    obtain ⟨_, _, _, rfl, _⟩ := qy
    rcases op_ways op with rfl | rfl | ⟨he, hn⟩
    · exact hE hx hy rfl
    · exact hN hx hy rfl
    · cases op <;> first | exact absurd rfl he | exact absurd rfl hn | exact SR.no (dead_halt _) _
  | nilFunc =>
    cases (show y' = _ from qy)
    rcases op_ways op with rfl | rfl | ⟨he, hn⟩
    · exact hE hx hy rfl
    · exact hN hx hy rfl
    · cases op <;> first | exact absurd rfl he | exact absurd rfl hn | exact SR.no (dead_halt _) _
  | iface t12 v2 =>
    obtain ⟨_, rfl, _⟩ := qy
    rcases op_ways op with rfl | rfl | ⟨he, hn⟩
    · exact hE hx hy rfl
    · exact hN hx hy rfl
    · cases op <;> first | exact absurd rfl he | exact absurd rfl hn | exact SR.no (dead_halt _) _
  | nilIface =>
    cases (show y' = _ from qy)
    rcases op_ways op with rfl | rfl | ⟨he, hn⟩
    · exact hE hx hy rfl
    · exact hN hx hy rfl
    · cases op <;> first | exact absurd rfl he | exact absurd rfl hn | exact SR.no (dead_halt _) _
  | agg c2 =>
    obtain ⟨_, rfl, _⟩ := qy
    rcases op_ways op with rfl | rfl | ⟨he, hn⟩
    · exact hE hx hy rfl
    · exact hN hx hy rfl
    · cases op <;> first | exact absurd rfl he | exact absurd rfl hn | exact SR.no (dead_halt _) _
  | tuple c2 =>
    obtain ⟨_, rfl, _⟩ := qy
    rcases op_ways op with rfl | rfl | ⟨he, hn⟩
    · exact hE hx hy rfl
    · exact hN hx hy rfl
    · cases op <;> first | exact absurd rfl he | exact absurd rfl hn | exact SR.no (dead_halt _) _
theorem sr_binOp (hlow : P.globals.size ≤ R.low) (op : BinOp) (t : TypeId) (hs : op = .eql ∨ op = .neq → simpleT P t = true) {x x' y y' : Value} (hx : VR R x x') (hy : VR R y y') : SR P VA R (binOp op t x y) (binOp op t x' y') := by
  cases x with
  | bool b => exact sr_bin_bool hlow op t hs b hx hy
  | int k n => exact sr_bin_int hlow op t hs k n hx hy
  | float k n => exact sr_bin_float hlow op t hs k n hx hy
  | complex k m n => exact sr_bin_complex hlow op t hs k m n hx hy
  | string s => exact sr_bin_string hlow op t hs s hx hy
  | pointer a => exact sr_bin_pointer hlow op t hs a hx hy
  | slice a l c => exact sr_bin_slice hlow op t hs a l c hx hy
  | map a => exact sr_bin_map hlow op t hs a hx hy
  | chan a => exact sr_bin_chan hlow op t hs a hx hy
  | func f p q => exact sr_bin_func hlow op t hs f p q hx hy
  | nilFunc => exact sr_bin_nilFunc hlow op t hs  hx hy
  | iface t1 v => exact sr_bin_iface hlow op t hs t1 v hx hy
  | nilIface => exact sr_bin_nilIface hlow op t hs  hx hy
  | agg c => exact sr_bin_agg hlow op t hs c hx hy
  | tuple c => exact sr_bin_tuple hlow op t hs c hx hy
end
end Go.Proofs.YtfbdgdphpdhcpaaDoor.Sm
