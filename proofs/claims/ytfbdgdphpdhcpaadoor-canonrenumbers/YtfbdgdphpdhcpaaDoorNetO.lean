/-
  The machine: scripts of workers and of goroutine 0 run to the end, whoever is picked. No condition.
  A contract carried into company: what is to be shown of the code, of the world and of what is handed in. Condition: Zs.
  A contract carried into company: what is shared lies frozen in the lone world. Condition: Zs.
  A stretch of own steps within a script. No condition.
-/
import Derived.Test.YtfbdgdphpdhcpaaDoorNetM
import Derived.Test.YtfbdgdphpdhcpaaDoorNetT
namespace Go.Proofs.YtfbdgdphpdhcpaaDoor.Sm
open Go Go.Conc

section
variable {μ : Type} {P : Program} {Msg : World → (Nat → Prop) → Value → μ → Prop} {Fin : Value → World → Prop} {s : MP μ} {n : Nat} {wp : Nat → WP μ}
theorem MS.running (h : MS P Msg Fin (fun _ => False) s) : s.g.status = .running := by
  rcases Lfp.out MSF.mono h with q | q
  · exact (q s.w (Ry.refl _ _)).elim
  · exact q.1
theorem SA.step {g0 : Goroutine} (h : SA s g0) (w : World) : stepG P true g0 w = stepG P true s.g w := stepG_same h.1 h.2.1 h.2.2.1 w
theorem someone {gs : Array Goroutine} {g0 : Goroutine} (hG : GS g0 n wp gs) (hok : ∀ i, i < n → WOk (wp i)) (h0 : awake g0) : ∀ g ∈ gs, awake g := by
  intro g hg
  obtain ⟨i, hi, rfl⟩ := Array.mem_iff_getElem.1 hg
  rcases hG.cases (Array.getElem?_eq_getElem hi) with ⟨_, e⟩ | ⟨k, hk, _, e⟩
  · rw [e]; exact h0
  · rw [e]; exact (hok k hk).awake
/-- The run ends well. -/
theorem net (h : MS P Msg Fin (fun _ => False) s) : CW P Msg Fin s := by
  refine Lfp.ind MSF.mono (C := CW P Msg Fin) (fun s hnode => ?_) h
  have hrun0 : s.g.status = .running := by
    rcases hnode with q | q
    · exact (q s.w (Ry.refl _ _)).elim
    · exact q.1
  intro n wp hwp
  refine fam WSF.mono (C := fun wp => ∀ gs w sl t, NIa s n wp gs w t ∨ NIb P s n wp gs w t → Win P Fin (crowd gs w sl) t) n (fun wp hT hF => ?_) wp hwp
  have hok : ∀ j, j < n → WOk (wp j) := fun j hj => WS.ok (hT j hj)
  have hBB : ∀ gs w sl t, NIb P s n wp gs w t → Win P Fin (crowd gs w sl) t := by
    rintro gs w sl t ⟨Act, k, z, hN, hG, hk, hka, hkm, hst⟩
    have hkr : (wp k).g.status = .running := by
      rcases hok k hk with q | q | q
      · exact q.2
      · omega
      · omega
    obtain ⟨i, g, d, sl', hi, hr, hs⟩ := crowd_pick (P := P) (w := w) (sl := sl) (someone hG hok (by intro z'; simp [parked])) ⟨k + 1, _, hG.rest k hk, by rw [wrec_run (by omega)]; exact hkr⟩
    rcases hG.cases hi with ⟨_, rfl⟩ | ⟨j, hj, rfl, _⟩
    · exact absurd hr (by simp [parked])
    · obtain ⟨m', ops, h1, h2⟩ := worker_goes hnode hT (fun j hj => hF j hj) (hN.at d) hG (.inr ⟨k, z, rfl, hk, hka, hkm, hst⟩) hj hi hr (sl := sl')
      exact Win.next (hs.trans h1) h2
  intro gs w sl t hI
  rcases hI with ⟨Act, g0, hN, hG, hA⟩ | hI
  · obtain ⟨i, g, d, sl', hi, hr, hs⟩ := crowd_pick (P := P) (w := w) (sl := sl) (someone hG hok (awake_of (.inl hA.2.2.2))) ⟨0, g0, hG.zero, hA.2.2.2⟩
    rcases hG.cases hi with ⟨rfl, rfl⟩ | ⟨j, hj, rfl, _⟩
    · have hN := hN.at d
      rcases hnode with hno | ⟨_, hno⟩
      · exact (hno s.w (Ry.refl _ _)).elim
      have hry := hN.ry0
      rcases hno with hno | hno | ⟨c, out, z, hch, hcm, hnx, hlast⟩ | ⟨hnone, hno⟩
      · -- a step of its own
        obtain ⟨g2, w2, es, O2, W2, hst, hgd, hMS, hC⟩ := hno _ hry
        have hrT := runT_crowd_go (P := P) (sl := sl') (i := 0) hi (show stepG P (0 == 0) g _ = _ from (hA.step _).trans hst)
        refine Win.next (hs.trans hrT) ?_
        have hN2 := hN.own0 (g2 := g2) hgd g.frame.fn g.frame.place
        exact hC n wp hT _ _ _ _ (.inl ⟨Act, _, hN2, hG.go_0 (fun j hj => wake_w hN2 hj (hok j hj)) g2, rfl, rfl, rfl, MS.running hMS⟩)
      · -- a go statement
        obtain ⟨g2, child, c, out, Oc, Wc, hst, h1, h2, h3, h4, h5, h6, hW, hMS, hC⟩ := hno _ hry
        have hrT := runT_crowd_spawn (P := P) (sl := sl') (i := 0) hi (show stepG P (0 == 0) g _ = _ from (hA.step _).trans hst)
        refine Win.next (hs.trans hrT) ?_
        rw [ofE_none, hG.size]
        have hN2 := hN.spawn (g2 := g2) (child := child) (out := out) h1 h2 h3 h4 h5 h6 undef undef g.frame.fn child.frame.fn g.frame.place g.frame.place
        refine hC (n + 1) _ (fun j hj => ?_) _ _ _ _ (.inl ⟨_, g2, hN2, (hG.set_0 g2).push _ (wrec_run (p := ⟨child, w.at d, Oc, Wc, c, out, 0, undef, undef⟩) (by show (0 : Nat) ≠ 1; decide)).symm, rfl, rfl, rfl, MS.running hMS⟩)
        by_cases e : j = n
        · subst e; rw [updw_same]; exact hW
        · rw [updw_ne _ _ e]; exact hT j (by omega)
      · -- a receive
        obtain ⟨k, hk, hka, rfl⟩ := hN.ch2 c out hch
        obtain ⟨hchk, hclt, sn, hcell⟩ := hN.ch1 k hk hka
        have hst : stepG P (0 == 0) g (w.at d) = .comm (Go.Conc.core s.g) #[rcase (wp k).c z] true (.recv true) (w.at d) #[] := (hA.step _).trans (hcm _ hry)
        have eo : out = (wp k).out := Option.some.inj (hch.symm.trans hchk)
        have hsend : ∀ j, j < n → j ≠ k → offersAt (wrec (wp j)) (wp k).c true = [] := fun j hj hjk => (hok j hj).noSend fun hm1 e => by
          have haj : Act j := Classical.byContradiction fun q => by have := hN.act j hj q; omega
          exact hjk (hN.chd j k hj hk haj hka e)
        rcases hok k hk with ⟨hm, hkr⟩ | hm | ⟨hm, _⟩
        · -- nobody is there yet: it waits
          have hp : partners (gs.setIfInBounds 0 ph) (wp k).c true = [] := partners_nil fun j y hj => by
            rcases getElem?_stand gs 0 j y hj with ⟨_, rfl⟩ | ⟨hj0, hj⟩
            · rfl
            · rcases hG.cases hj with ⟨e, _⟩ | ⟨l, hl, _, rfl⟩
              · exact absurd e hj0
              · by_cases e : l = k
                · subst e; exact (hok l hl).noSend fun q => by omega
                · exact hsend l hl e
          rw [hm] at hcell
          have hrT := crowd_waits (P := P) (sl := sl') hi hst (fun cc hcc => by
            have : cc = rcase (wp k).c z := by simpa using hcc
            subst this
            exact ways_recv_none hcell hp)
          rw [ofE_none] at hrT
          refine Win.next (hs.trans hrT) (hBB _ _ _ _ ⟨Act, k, z, ?_, hG.set_0 _, hk, hka, hm, hcm⟩)
          rw [Array.append_empty]; exact hN
        · -- the worker waits there
          have hgk := hG.rest k hk
          rw [wrec_parked hm] at hgk
          have hp : partners (gs.setIfInBounds 0 ph) (wp k).c true = [(k + 1, 0)] := by
            rw [partners_one (j := k + 1) (g := parked (wp k).g #[scase (wp k).c (wp k).x (wp k).z] .send) (stand_get (by omega) hgk) fun j y hj hy => ?_]
            · rw [offersAt_parked_send, if_pos rfl]; rfl
            · rcases getElem?_stand gs 0 j y hy with ⟨_, rfl⟩ | ⟨hj0, hy⟩
              · rfl
              · rcases hG.cases hy with ⟨e, _⟩ | ⟨l, hl, rfl, rfl⟩
                · exact absurd e hj0
                · exact hsend l hl fun e => hj (by rw [e])
          rw [hm] at hcell
          have hrT := crowd_recv_meets (P := P) (sl := sl') hi hst hcell (by omega) hgk hp
          rw [finishComm_send, finishComm_recv, ofE_none, Array.empty_append] at hrT
          obtain ⟨r0, _⟩ | ⟨r0, o, rest, Tr, r1, r2, r3⟩ | ⟨r0, _⟩ := Lfp.out WSF.mono (hT k hk)
          · omega
          · have hry2 := (hN.rychan hk hka (cap := 0) (buf := #[]) (cl := false) (a := sn + 1) (b := sn + 1) (tm := false))
            obtain ⟨hmsg, hWS⟩ := r3 ((w.at d).setChan (wp k).c 0 #[] false (sn + 1) (sn + 1) false) (hry2.2 k hk)
            have hN2 := hN.meet hk hka (by omega) r1 r2 (Go.Conc.served (Go.Conc.core s.g) (recvd true (wp k).x true)) (Go.Conc.served (wp k).g undef) (wp k).x (wp k).z sn 0 (wp k).g.frame.fn (Go.Conc.core s.g).frame.fn (wp k).g.frame.place (Go.Conc.core s.g).frame.place
            have hX0 := hnx o rest (eo.trans r1) _ (wp k).x Tr hry2.1 hmsg (fun b hb => ⟨hN.d1 k hk b (r2 b hb), by rw [setChan_sz]; exact hN.limw k hk b (hN.subw k hk b (r2 b hb))⟩)
            refine Win.next (hs.trans hrT) (hX0.2 n _ (fun j hj => ?_) _ _ _ _ (.inl ⟨Act, _, hN2, ?_, rfl, rfl, rfl, rfl⟩))
            · by_cases e' : j = k
              · subst e'; rw [updw_same]; exact hWS
              · rw [updw_ne _ _ e']; exact hT j hj
            · exact (hG.set_w hk rfl).set_0 _
          · omega
        · -- the channel is closed
          have hp : partners (gs.setIfInBounds 0 ph) (wp k).c true = [] := partners_nil fun j y hj => by
            rcases getElem?_stand gs 0 j y hj with ⟨_, rfl⟩ | ⟨hj0, hj⟩
            · rfl
            · rcases hG.cases hj with ⟨e, _⟩ | ⟨l, hl, _, rfl⟩
              · exact absurd e hj0
              · by_cases e : l = k
                · subst e; exact (hok l hl).noSend fun q => by omega
                · exact hsend l hl e
          rw [hm] at hcell
          have hrT := crowd_recv_closed (P := P) (sl := sl') hi hst hcell hp
          rw [finishComm_recv, ofE_none, Array.empty_append] at hrT
          have hN2 := hN.noticed hk hka hm (Go.Conc.served (Go.Conc.core s.g) (recvd true z false)) (Go.Conc.core s.g).frame.fn (Go.Conc.core s.g).frame.place
          have hX0 := hlast (eo.trans (hN.cl k hk hka hm).1) _ hry
          exact Win.next (hs.trans hrT) (hX0.2 n _ hT _ _ _ _ (.inl ⟨_, _, hN2, hG.set_0 _, rfl, rfl, rfl, rfl⟩))
      · -- the return
        obtain ⟨v, es, hst, hes, hfin⟩ := hno _ hry
        have hrT := runT_many_ended (P := P) (sl := sl') (i := 0) hi (show stepG P (0 == 0) g _ = _ from (hA.step _).trans hst)
        have hm2 : ∀ j, j < n → ¬ Act j := fun j hj ha => by
          have := (hN.ch1 j hj ha).1
          rw [hnone] at this; cases this
        have hN2 := hN.own0 (g2 := s.g) (w2 := w.at d) (es := es) (O2 := s.O) (W2 := s.W) ⟨Nat.le_refl _, fun _ _ _ => rfl, ⟨rfl, rfl, rfl⟩, fun _ q => .inl q, fun _ q => .inl q, hN.sub0, hes⟩ g.frame.fn g.frame.place
        have hq : ∀ j, j < n → ∃ k, QuitsIn P k (wp j).g := fun j hj => WS.quits (hT j hj) (hN.act j hj (hm2 j hj))
        have hwr : ∀ j, j < n → wrec (wp j) = (wp j).g := fun j hj => wrec_run (by have := hN.act j hj (hm2 j hj); omega)
        refine Win.last (hs.trans hrT) ⟨v, rfl, hfin, hN2.ti.clean, hN2.ti.over (fun i ⟨k, hk, _, ha⟩ => hm2 k hk ha), ⟨fun x hx => ?_, rfl⟩, fun j x hj hj0 => ?_⟩
        · obtain ⟨j, hj⟩ := List.mem_iff_getElem?.1 hx
          rw [List.getElem?_drop] at hj
          have hj' : gs[1 + j]? = some x := by simpa [crowd] using hj
          rcases hG.cases hj' with ⟨e, _⟩ | ⟨l, hl, _, rfl⟩
          · omega
          · rw [hwr l hl]
            obtain ⟨k, hk⟩ := hq l hl
            exact ⟨k, hk.leaves⟩
        · rcases hG.cases hj with ⟨e, _⟩ | ⟨l, hl, _, rfl⟩
          · exact absurd e hj0
          · rw [hwr l hl]
            obtain ⟨k, hk⟩ := hq l hl
            refine ⟨k, ?_⟩
            rw [hN2.ti.words.deaf]
            exact hk.hears _ 0
    · obtain ⟨m', ops, h1, h2⟩ := worker_goes hnode hT (fun j hj => hF j hj) (hN.at d) hG (.inl hA) hj hi hr (sl := sl')
      exact Win.next (hs.trans h1) h2
  · exact hBB gs w sl t hI
end
end Go.Proofs.YtfbdgdphpdhcpaaDoor.Sm
namespace Go.Proofs.YtfbdgdphpdhcpaaDoor.Sm
open Go Go.Conc

/-- A value that names no block and no function. -/
def pureV : Nat → Value → Bool
  | _, .bool _ | _, .int .. | _, .float .. | _, .complex .. | _, .string _ | _, .nilFunc | _, .nilIface | _, .pointer none | _, .slice none _ _ | _, .map none | _, .chan none => true
  | n + 1, .iface _ v => pureV n v
  | n + 1, .agg c | n + 1, .tuple c => c.all (pureV n)
  | _, _ => false
theorem vr_pure : ∀ (n : Nat) (v : Value), pureV n v = true → ∀ R : Ren, VR R v v := by
  intro n
  induction n with
  | zero =>
    intro v h R
    cases v with
    | bool | int | float | complex | string => exact .in rfl
    | nilFunc | nilIface => exact .in rfl
    | pointer a => cases a with
      | none => exact VR.pointer (a := none) (a' := none) trivial
      | some a => cases h
    | slice a l c => cases a with
      | none => exact VR.slice (a := none) (a' := none) trivial l c
      | some a => cases h
    | map a => cases a with
      | none => exact VR.map (a := none) (a' := none) trivial
      | some a => cases h
    | chan a => exact VR.chan R a
    | _ => cases h
  | succ n ih =>
    intro v h R
    have hall : ∀ c : Array Value, c.all (pureV n) = true → XR R c c := fun c hc => ⟨rfl, fun i v v' h1 h2 => by
      rw [h1] at h2
      cases h2
      exact ih v (by
        obtain ⟨hi, rfl⟩ := Array.getElem?_eq_some_iff.1 h1
        exact Array.all_eq_true.1 hc i hi) R⟩
    cases v with
    | bool | int | float | complex | string => exact .in rfl
    | nilFunc | nilIface => exact .in rfl
    | pointer a => cases a with
      | none => exact VR.pointer (a := none) (a' := none) trivial
      | some a => cases h
    | slice a l c => cases a with
      | none => exact VR.slice (a := none) (a' := none) trivial l c
      | some a => cases h
    | map a => cases a with
      | none => exact VR.map (a := none) (a' := none) trivial
      | some a => cases h
    | chan a => exact VR.chan R a
    | iface t v => exact VR.iface t (ih v h R)
    | agg c => exact VR.agg (hall c h)
    | tuple c => exact VR.tuple (hall c h)
    | func => cases h
section
variable (P : Program) (fs gs : List Nat)
def xB : Operand → Bool
  | .tmp _ => true
  | .const v => pureV 6 v
  | .global g => gs.contains g
  | .func f => fs.contains f
def xoB : Option Operand → Bool
  | none => true
  | some x => xB fs gs x
def isInt (t : TypeId) : Bool := match P.underlying t with
  | some (.int _) => true
  | _ => false
def calleeB (ts : Array TypeId) : Callee → Bool
  | .value f => xB fs gs f
  | .builtin .append => true
  | .builtin .len => lenB P ts
  | .builtin .clear => true
  | _ => false
def fieldB (s : TypeId) (f : Nat) : Bool := match P.underlying s with
  | some (.struct l) => match l[f]? with
    | some fd => match P.info? fd.type with
      | some i => i.size != 0
      | none => true
    | none => true
  | _ => true
def eqB : BinOp → Bool
  | .eql => true
  | .neq => true
  | _ => false
def opB : Op → Bool
  | .move x | .assign x | .nilCheck x | .box _ x | .load _ x | .unOp _ _ x | .field _ x _ | .extract x _ => xB fs gs x
  | .pick a b c => xB fs gs a && xB fs gs b && xB fs gs c
  | .alloc _ => true
  | .build _ parts | .buildSlice _ _ parts => parts.all fun p => xB fs gs p.2
  | .store _ a x | .makeSlice _ a x | .indexAddr _ a x | .index _ a x => xB fs gs a && xB fs gs x
  | .binOp op t x y _ => xB fs gs x && xB fs gs y && (!eqB op || simpleT P t)
  | .convert s d x => xB fs gs x && isInt P s && isInt P d
  | .makeFunc (.func f) a b => fs.contains f && a.all (xB fs gs) && b.all (xB fs gs)
  | .slice _ x lo hi mx => xB fs gs x && xoB fs gs lo && xoB fs gs hi && xoB fs gs mx
  | .fieldAddr s x f => xB fs gs x && fieldB P s f
  | .call c => c.args.all (xB fs gs) && calleeB P fs gs c.argTypes c.callee
  | _ => false
def codeB : Code → Bool
  | .skip | .label _ | .ret | .exit _ => true
  | .seq a b => codeB a && codeB b
  | .cond x a b => xB fs gs x && codeB a && codeB b
  | .block _ c | .loop c | .scope c => codeB c
  | .region _ ops _ => ops.all fun o => opB P fs gs o.op
  | .rangeFunc f _ a b => xB fs gs f && codeB a && codeB b
  | _ => false
def funcB (f : Nat) : Bool := match P.funcs[f]? with
  | some fn => match fn.body with
    | some b => codeB P fs gs b && !(fn.name == "runtime.NumGoroutine")
    | none => false
  | none => false
/-- What S names, by its own name. -/
def R0 (S : Nat → Prop) : Ren := ⟨fun b b' => b' = b ∧ S b, fun f => f ∈ fs, P.globals.size, fun c => codeB P fs gs c = true, fun f => ∃ fn, P.funcs[f]? = some fn, fun _ => 0⟩
end
section
variable {P : Program} {fs gs : List Nat} {S : Nat → Prop}
theorem okx_of (hg : ∀ g ∈ gs, S g) {x : Operand} (h : xB fs gs x = true) : OkX (R0 P fs gs S) x := by
  cases x with
  | tmp t => trivial
  | const v => exact vr_pure 6 v h
  | global g => exact ⟨⟨rfl, hg g (by simpa [xB] using h)⟩, rfl⟩
  | func f => exact (by simpa [xB] using h : f ∈ fs)
theorem oko_of (hg : ∀ g ∈ gs, S g) {x : Option Operand} (h : xoB fs gs x = true) : OkO (R0 P fs gs S) x := by
  cases x with
  | none => trivial
  | some x => exact okx_of hg h
theorem okxs_of (hg : ∀ g ∈ gs, S g) {xs : Array Operand} (h : xs.all (xB fs gs) = true) : OkXs (R0 P fs gs S) xs := fun x hx => okx_of hg (by
  obtain ⟨i, hi, rfl⟩ := Array.mem_iff_getElem.1 hx
  exact Array.all_eq_true.1 h i hi)
theorem okps_of (hg : ∀ g ∈ gs, S g) {xs : Array (Nat × Operand)} (h : xs.all (fun p => xB fs gs p.2) = true) : ∀ p ∈ xs, OkX (R0 P fs gs S) p.2 := fun x hx => okx_of hg (by
  obtain ⟨i, hi, rfl⟩ := Array.mem_iff_getElem.1 hx
  exact Array.all_eq_true.1 h i hi)
theorem isInt_of {t : TypeId} (h : isInt P t = true) : ∃ k, P.underlying t = some (.int k) := by
  unfold isInt at h
  split at h
  · rename_i k hk; exact ⟨k, hk⟩
  · cases h
theorem okop_of (hg : ∀ g ∈ gs, S g) {o : Op} (h : opB P fs gs o = true) : OkOp P (R0 P fs gs S) o := by
  cases o with
  | move x => exact okx_of hg h
  | assign x => exact okx_of hg h
  | nilCheck x => exact okx_of hg h
  | box t x => exact okx_of hg h
  | load t x => exact okx_of hg h
  | unOp a b x => exact okx_of hg h
  | field a x b => exact okx_of hg h
  | extract x i => exact okx_of hg h
  | pick a b c =>
    simp only [opB, Bool.and_eq_true] at h
    exact ⟨okx_of hg h.1.1, okx_of hg h.1.2, okx_of hg h.2⟩
  | alloc t => trivial
  | build t ps => exact okps_of hg h
  | buildSlice t n ps => exact okps_of hg h
  | store t a x =>
    simp only [opB, Bool.and_eq_true] at h
    exact ⟨okx_of hg h.1, okx_of hg h.2⟩
  | makeSlice t a x =>
    simp only [opB, Bool.and_eq_true] at h
    exact ⟨okx_of hg h.1, okx_of hg h.2⟩
  | indexAddr t a x =>
    simp only [opB, Bool.and_eq_true] at h
    exact ⟨okx_of hg h.1, okx_of hg h.2⟩
  | index t a x =>
    simp only [opB, Bool.and_eq_true] at h
    exact ⟨okx_of hg h.1, okx_of hg h.2⟩
  | binOp op t x y yt =>
    simp only [opB, Bool.and_eq_true] at h
    refine ⟨okx_of hg h.1.1, okx_of hg h.1.2, fun e => ?_⟩
    rcases e with rfl | rfl
    · simpa [eqB] using h.2
    · simpa [eqB] using h.2
  | convert s d x =>
    simp only [opB, Bool.and_eq_true] at h
    obtain ⟨k, hk⟩ := isInt_of h.1.2
    obtain ⟨k', hk'⟩ := isInt_of h.2
    exact ⟨okx_of hg h.1.1, k, k', hk, hk'⟩
  | makeFunc fn a b =>
    cases fn with
    | func f =>
      simp only [opB, Bool.and_eq_true] at h
      exact ⟨(by simpa using h.1.1 : f ∈ fs), okxs_of hg h.1.2, okxs_of hg h.2⟩
    | _ => cases h
  | slice t x lo hi mx =>
    simp only [opB, Bool.and_eq_true] at h
    exact ⟨okx_of hg h.1.1.1, oko_of hg h.1.1.2, oko_of hg h.1.2, oko_of hg h.2⟩
  | fieldAddr s x f =>
    simp only [opB, Bool.and_eq_true] at h
    refine ⟨okx_of hg h.1, fun l fd i h1 h2 h3 => ?_⟩
    have h4 := h.2
    unfold fieldB at h4
    simp only [h1, h2, h3] at h4
    simpa using h4
  | call c =>
    simp only [opB, Bool.and_eq_true] at h
    refine ⟨okxs_of hg h.1, ?_⟩
    have h2 := h.2
    revert h2
    cases c.callee with
    | value f => exact fun h2 => okx_of hg h2
    | builtin b => cases b <;> intro h2 <;> first | exact .inl rfl | exact .inr (.inl ⟨rfl, h2⟩) | exact .inr (.inr rfl) | cases h2
    | invoke r n => exact fun h2 => by cases h2
  | _ => cases h
theorem okcode_of (hg : ∀ g ∈ gs, S g) {c : Code} (h : codeB P fs gs c = true) : OkCode P (R0 P fs gs S) c := by
  cases c with
  | seq a b =>
    simp only [codeB, Bool.and_eq_true] at h
    exact h
  | cond x a b =>
    simp only [codeB, Bool.and_eq_true] at h
    exact ⟨okx_of hg h.1.1, h.1.2, h.2⟩
  | block i c => exact h
  | loop c => exact h
  | scope c => exact h
  | region i ops d => exact fun o ho => okop_of hg (by
      have h : ops.all (fun o => opB P fs gs o.op) = true := h
      obtain ⟨i, hi, rfl⟩ := Array.mem_iff_getElem.1 ho
      exact Array.all_eq_true.1 h i hi)
  | rangeFunc f ps a b =>
    simp only [codeB, Bool.and_eq_true] at h
    exact ⟨okx_of hg h.1.1, h.1.2, h.2⟩
  | _ => first | trivial | cases h
theorem func_of (hf : fs.all (funcB P fs gs) = true) {f : FuncId} (h : f ∈ fs) : ∃ fn body, P.funcs[f]? = some fn ∧ fn.body = some body ∧ codeB P fs gs body = true ∧ (fn.name == "runtime.NumGoroutine") = false := by
  have h1 := List.all_eq_true.1 hf f h
  unfold funcB at h1
  split at h1
  · rename_i fn hfn
    split at h1
    · rename_i b hb
      simp only [Bool.and_eq_true, Bool.not_eq_true'] at h1
      exact ⟨fn, b, hfn, hb, h1.1, h1.2⟩
    · cases h1
  · cases h1
theorem good_of (hf : fs.all (funcB P fs gs) = true) (hg : ∀ g ∈ gs, S g) : Good P (R0 P fs gs S) :=
  ⟨Nat.le_refl _, fun _ h => func_of hf h, fun _ h => let ⟨fn, _, h1, _⟩ := func_of hf h; ⟨fn, h1⟩, fun _ h => h, fun _ h => okcode_of hg h, rfl, fun _ => rfl⟩
end
end Go.Proofs.YtfbdgdphpdhcpaaDoor.Sm
namespace Go.Proofs.YtfbdgdphpdhcpaaDoor.Sm
open Go Go.Conc

def frzO : Obj → Obj
  | .cells c e fr => .cells c e (0, max c.size fr.2)
  | o => o
/-- The world in which nobody can write what lies below K. -/
def frz (K : Nat) (w : World) : World := { w with heap := w.heap.mapIdx fun i o => if i < K then frzO o else o }
section
variable {P : Program}
theorem EvG.mono {O W O' W' : Nat → Prop} {e : Event} (h : EvG O W e) (hO : ∀ b, O b → O' b) (hW : ∀ b, W b → W' b) : EvG O' W' e := by
  unfold EvG at h ⊢
  split at h
  · exact ⟨h.1, hO _ h.2.1, fun q => hW _ (h.2.2 q)⟩
  · exact ⟨h.1, hO _ h.2.1, fun q => hW _ (h.2.2 q)⟩
  · trivial
  · exact h.elim
/-- Where it stops, with what it has besides. -/
def FrS (A B : Nat → Prop) (Stop : St → Prop) (s : St) : Prop := ∃ O W, Stop ⟨s.g, s.w, O, W⟩ ∧ s.O = (fun b => O b ∨ A b) ∧ s.W = (fun b => W b ∨ B b)
theorem Co.frame {m : Bool} {Stop : St → Prop} {A B : Nat → Prop} (hBA : ∀ b, B b → A b) {s : St} (h : Co P m Stop s) : Co P m (FrS A B Stop) ⟨s.g, s.w, fun b => s.O b ∨ A b, fun b => s.W b ∨ B b⟩ := by
  refine Lfp.ind CoF.mono (C := fun s => Co P m (FrS A B Stop) ⟨s.g, s.w, fun b => s.O b ∨ A b, fun b => s.W b ∨ B b⟩) (fun s q => ?_) h
  have hless : ∀ {w1 : World}, Ry (fun b => s.O b ∨ A b) s.w w1 → Ry s.O s.w w1 := fun hr => ⟨hr.1, fun b hb => hr.2.1 b (.inl hb), hr.2.2⟩
  refine Lfp.in CoF.mono ?_
  rcases q with q | ⟨q0, q⟩
  · exact .inl fun w1 hr => ⟨s.O, s.W, q w1 (hless hr), rfl, rfl⟩
  · refine .inr ⟨q0, fun w1 hr => ?_⟩
    obtain ⟨g2, w2, es, O2, W2, h1, h2, h3, _, h5⟩ := q w1 (hless hr)
    refine ⟨g2, w2, es, fun b => O2 b ∨ A b, fun b => W2 b ∨ B b, h1, ⟨h2.size, fun b hb hw => h2.kept b hb fun z => hw (.inl z), h2.os, fun b hb => ?_, fun b hb => ?_, fun b hb => hb.imp (h2.sub b) (hBA b), fun e he => (h2.evs e he).mono (fun _ => .inl) (fun _ => .inl)⟩, h3, h5⟩
    · rcases hb with hb | hb
      · exact (h2.newO b hb).imp .inl id
      · exact .inl (.inr hb)
    · rcases hb with hb | hb
      · exact (h2.newW b hb).imp .inl id
      · exact .inl (.inr hb)
end
end Go.Proofs.YtfbdgdphpdhcpaaDoor.Sm
namespace Go.Proofs.YtfbdgdphpdhcpaaDoor.Sm
open Go Go.Conc

section
variable {μ : Type} {P : Program} {Msg : World → (Nat → Prop) → Value → μ → Prop} {Fin : Value → World → Prop} {Stop' : MP μ → Prop}
theorem WS.of_co {c : Nat} {out : List μ} {x z : Value} {Stop : St → Prop} {s : St} (h : Co P false Stop s) (hs : s.g.status = .running ∧ s.g.offers = none)
    (hn : ∀ s : St, Stop s → s.g.status = .running ∧ s.g.offers = none → WS P Msg ⟨s.g, s.w, s.O, s.W, c, out, 0, x, z⟩) : WS P Msg ⟨s.g, s.w, s.O, s.W, c, out, 0, x, z⟩ := by
  refine Lfp.ind CoF.mono (C := fun s => s.g.status = .running ∧ s.g.offers = none → WS P Msg ⟨s.g, s.w, s.O, s.W, c, out, 0, x, z⟩) (fun s q hs => ?_) h hs
  rcases q with q | ⟨q0, q⟩
  · exact hn s (q s.w (Ry.refl _ _)) hs
  · refine Lfp.in WSF.mono (.inl ⟨rfl, q0, hs.2, .inl fun w1 hr => ?_⟩)
    obtain ⟨g2, w2, es, O2, W2, h1, h2, h3, _, h5⟩ := q w1 hr
    exact ⟨g2, w2, es, O2, W2, h1, h2, h3.2, h3.1, h5 h3⟩
theorem MS.of_co {ch : Nat → Option (List μ)} {Stop : St → Prop} {s : St} (h : Co P true Stop s)
    (hn : ∀ s : St, Stop s → MS P Msg Fin Stop' ⟨s.g, s.w, s.O, s.W, ch⟩) : MS P Msg Fin Stop' ⟨s.g, s.w, s.O, s.W, ch⟩ := by
  refine Lfp.ind CoF.mono (C := fun s => MS P Msg Fin Stop' ⟨s.g, s.w, s.O, s.W, ch⟩) (fun s q => ?_) h
  rcases q with q | ⟨q0, q⟩
  · exact hn s (q s.w (Ry.refl _ _))
  · refine Lfp.in MSF.mono (.inr ⟨q0, .inl fun w1 hr => ?_⟩)
    obtain ⟨g2, w2, es, O2, W2, h1, h2, h3, _, h5⟩ := q w1 hr
    exact ⟨g2, w2, es, O2, W2, h1, h2, h5⟩
/-- One step of a worker's own. -/
theorem WS.step {p : WP μ} (hm : p.md = 0) (hs : p.g.status = .running) (ho : p.g.offers = none) (h : ∀ w1, Ry p.O p.w w1 → ∃ g2 w2 es O2 W2, stepG P false p.g w1 = .go g2 w2 es ∧ Gd p.O p.W O2 W2 w1 w2 es ∧ (g2.offers = none ∧ g2.status = .running) ∧ WS P Msg { p with g := g2, w := w2, O := O2, W := W2 }) : WS P Msg p := by
  refine Lfp.in WSF.mono (.inl ⟨hm, hs, ho, .inl fun w1 hr => ?_⟩)
  obtain ⟨g2, w2, es, O2, W2, h1, h2, h3, h4⟩ := h w1 hr
  exact ⟨g2, w2, es, O2, W2, h1, h2, h3.1, h3.2, h4⟩
theorem MS.step {s : MP μ} (hs : s.g.status = .running) (h : ∀ w1, Ry s.O s.w w1 → ∃ g2 w2 es O2 W2, stepG P true s.g w1 = .go g2 w2 es ∧ Gd s.O s.W O2 W2 w1 w2 es ∧ MS P Msg Fin Stop' { s with g := g2, w := w2, O := O2, W := W2 }) : MS P Msg Fin Stop' s :=
  Lfp.in MSF.mono (.inr ⟨hs, .inl h⟩)
/-- A step that touches nothing. -/
theorem Gd.still {O W : Nat → Prop} {w : World} (hs : ∀ b, W b → O b) : Gd O W O W w w #[] :=
  ⟨Nat.le_refl _, fun _ _ _ => rfl, ⟨rfl, rfl, rfl⟩, fun _ => .inl, fun _ => .inl, hs, fun _ h => absurd h (by simp)⟩
theorem ti_nil (N : Nat) (O W : Nat → Nat → Prop) (Act : Nat → Prop) : TI #[] N O W Act :=
  ⟨past_nil.clean, fun op ho => absurd ho (by simp), fun op ho => absurd ho (by simp), fun i k a h => by
    obtain ⟨op, ho, _⟩ := touch_of h
    simp at ho, fun k op h => by simp at h⟩
/-- From the start, alone. -/
theorem net_start {fr : Frame} {w : World} {O W : Nat → Prop} (h : MS P Msg Fin (fun _ => False) ⟨G fr [], w, O, W, fun _ => none⟩) (hO : ∀ b, O b → b < w.heap.size) (hW : ∀ b, W b → O b) : Win P Fin (solo (G fr []) w) #[] := by
  rw [solo_eq_crowd]
  refine net h 0 (fun _ => ⟨G fr [], w, fun _ => False, fun _ => False, 0, [], 2, undef, undef⟩) (fun i hi => absurd hi (Nat.not_lt_zero _)) _ _ _ _ (.inl ⟨fun _ => False, G fr [], ?_, ⟨rfl, rfl, fun i hi => absurd hi (Nat.not_lt_zero _)⟩, rfl, rfl, rfl, rfl⟩)
  have no : ∀ {α : Prop} (i : Nat), i < 0 → α := fun i hi => absurd hi (Nat.not_lt_zero i)
  exact { ry0 := Ry.refl _ _, wr := fun i hi => no i hi, ch1 := fun i hi => no i hi, ch2 := (fun _ _ q => by cases q), chd := fun i _ hi => no i hi, act := fun i hi => no i hi, cl := fun i hi => no i hi, lim0 := hO, limw := fun i hi => no i hi, sub0 := hW,
          subw := fun i hi => no i hi, d0 := fun i hi => no i hi, d1 := fun i hi => no i hi, d2 := fun i _ hi => no i hi, c0 := fun i hi => no i hi, cw := fun i _ hi => no i hi, ti := ti_nil _ _ _ _ }
end
end Go.Proofs.YtfbdgdphpdhcpaaDoor.Sm
