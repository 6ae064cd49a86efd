/-
  Rules for goroutine 0 (a go statement, a receive, calls, the end) and for a worker from their views. Condition: Zs.
-/
import Derived.Test.YtfbdgdphpdhcpaaDoorVwB
import Derived.Conc.Own2
namespace Go.Proofs.YtfbdgdphpdhcpaaDoor.Sm
open Go Go.Conc

/-- The view grows by a block. -/
def rAdd (r : Nat → Nat → Prop) (b0 b0' : Nat) : Nat → Nat → Prop := fun b b' => r b b' ∨ (b = b0 ∧ b' = b0')
section
variable {P : Program} {fs gs : List Nat} {r : Nat → Nat → Prop}
/-- A block that came over lies at the end of the lone world. -/
theorem WR0.got {v w : World} (h : WR0 (Rg P fs gs r) v w) {bl : Nat} (hn : ¬ Seen (Rg P fs gs r) bl) (hlow : P.globals.size ≤ bl) {o o' : Obj} (ho : w.heap[bl]? = some o') (hor : OR (Rg P fs gs r) 0 o o') : WR0 (Rg P fs gs (rAdd r v.heap.size bl)) (v.alloc o) w := by
  have hsz : (v.alloc o).heap.size = v.heap.size + 1 := by unfold World.alloc; simp
  have hget : ∀ b, b < v.heap.size → (v.alloc o).heap[b]? = v.heap[b]? := fun b hb => by
    unfold World.alloc
    exact Array.getElem?_push_lt hb ▸ (by rw [Array.getElem?_eq_getElem hb])
  have hnew : (v.alloc o).heap[v.heap.size]? = some o := by unfold World.alloc; simp
  have hbl : bl < w.heap.size := (Array.getElem?_eq_some_iff.1 ho).1
  have hle : Le (Rg P fs gs r) (Rg P fs gs (rAdd r v.heap.size bl)) := rg_le fun _ _ q => .inl q
  have hl1 : P.globals.size ≤ v.heap.size := h.low.1.1
  have hl2 : P.globals.size ≤ w.heap.size := h.low.2
  refine ⟨fun b c b' q1 q2 => ?_, fun b b' c' q1 q2 => ?_, fun b b' q => ?_, fun b b' o1 q h1 => ?_, ⟨⟨by rw [hsz]; exact Nat.le_succ_of_le hl1, fun _ => rfl⟩, hl2⟩, fun b b' q z => ?_⟩
  · rcases q1 with q1 | ⟨rfl, rfl⟩
    · rcases q2 with q2 | ⟨rfl, rfl⟩
      · exact h.inj b c b' q1 q2
      · exact absurd ⟨b, q1⟩ hn
    · rcases q2 with q2 | ⟨rfl, _⟩
      · exact absurd ⟨c, q2⟩ hn
      · rfl
  · rcases q1 with q1 | ⟨rfl, rfl⟩
    · rcases q2 with q2 | ⟨rfl, rfl⟩
      · exact h.fn b b' c' q1 q2
      · have := (h.dom _ _ q1).1; omega
    · rcases q2 with q2 | ⟨_, rfl⟩
      · have := (h.dom _ _ q2).1; omega
      · rfl
  · rcases q with q | ⟨rfl, rfl⟩
    · exact ⟨by rw [hsz]; have := (h.dom b b' q).1; omega, (h.dom b b' q).2⟩
    · exact ⟨by rw [hsz]; omega, hbl⟩
  · rcases q with q | ⟨rfl, rfl⟩
    · rw [hget b (h.dom b b' q).1] at h1
      obtain ⟨o2, h2, h3⟩ := h.obj b b' o1 q h1
      exact ⟨o2, h2, h3.mono hle⟩
    · rw [hnew] at h1
      cases h1
      exact ⟨o', ho, hor.mono hle⟩
  · rcases q with q | ⟨rfl, rfl⟩
    · exact h.same b b' q z
    · exfalso
      rcases z with z | z
      · exact absurd z (Nat.not_lt.2 hl1)
      · exact absurd z (Nat.not_lt.2 hlow)
theorem seen_add {b0 b0' b : Nat} : Seen (Rg P fs gs (rAdd r b0 b0')) b → Seen (Rg P fs gs r) b ∨ b = b0' := fun ⟨x, hx⟩ => hx.imp (fun q => ⟨x, q⟩) (·.2)
theorem open_add {v w : World} (h : WR0 (Rg P fs gs r) v w) {o : Obj} (hs : Shut o) {b0' b : Nat} (hb : Open (Rg P fs gs (rAdd r v.heap.size b0')) (v.alloc o) b) : Open (Rg P fs gs r) v b := by
  obtain ⟨x, o1, hx, h1, h2⟩ := hb
  rcases hx with hx | ⟨rfl, _⟩
  · refine ⟨x, o1, hx, ?_, h2⟩
    have hd : x < v.heap.size := (h.dom x b hx).1
    have : (v.alloc o).heap[x]? = v.heap[x]? := by
      unfold World.alloc
      exact Array.getElem?_push_lt hd ▸ (by rw [Array.getElem?_eq_getElem hd])
    rw [← this]; exact h1
  · have : (v.alloc o).heap[v.heap.size]? = some o := by unfold World.alloc; simp
    rw [this] at h1
    cases h1
    exact absurd hs h2
end
section
variable {μ : Type} {P : Program} {fs gs fs1 gs1 : List Nat} {Msg : World → (Nat → Prop) → Value → μ → Prop} {Fin : Value → World → Prop} {K : World} {r : Nat → Nat → Prop} {v : World} {ch : Nat → Option (List μ)} {X : Option Nat}
theorem put_D (tm : Array Value) (D : List Deferred) (d : Option Tmp) (x : Value) : Act.put ⟨tm, D⟩ d x = ⟨(Act.put ⟨tm, D⟩ d x).tmps, D⟩ := by cases d <;> rfl
theorem MV.spawn {fn : FuncId} {ops : Array Oper} {i : Nat} {rest : List Nat} {o : Oper} {tm' : Array Value} {k : List Item} {D : List Deferred} {kd : CallKind} (hkd : kd ≠ .early) {rc : List Frame} (ho : ops[i]? = some o) (hwt : Region.wanted o (yielded ops tm') = true)
    {d : Deferred} {f : Fn} {cc : Array Value} (hd : d.target = .fn f cc) (hrun : ∀ w, (execOp (Act.eval ⟨tm', D⟩) o).run P w = .ok (.spawn d) w) (hev : ∀ w, (execOp (Act.eval ⟨tm', D⟩) o).events P w #[] = #[])
    {c : Nat} {r1 : Nat → Nat → Prop} {v1 : World} {out : List μ} (hsub : ∀ b b', r1 b b' → r b b') (hw1 : ∀ w, WR0 (Rg P fs gs r) v w → WR0 (Rg P fs1 gs1 r1) v1 w) (hsh : ∀ b b', r1 b b' → ∃ o, v.heap[b]? = some o ∧ Shut o) (hsh1 : ∀ b', ¬ Open (Rg P fs1 gs1 r1) v1 b')
    (hchild : WV P fs1 gs1 Msg r1 v1 c out (born P d)) (hn : MV P fs gs Msg Fin K r v (updc ch c (some out)) none (G (fF fn (Act.put ⟨tm', D⟩ o.dst undef).tmps (.inRegion ops rest :: k) D kd) rc)) :
    MV P fs gs Msg Fin K r v ch (some c) (G (fF fn tm' (.inRegion ops (i :: rest) :: k) D kd) rc) := fun w hk hop hw hc hX =>
  Lfp.in MSF.mono (.inr ⟨rfl, .inr (.inl fun w1 hr => by
    have hwr := hw.rely (ry_x hr)
    have hr1 : w.heap.size ≤ w1.heap.size := hr.1
    obtain ⟨q0, q1, q2, q3⟩ := x_rely hr hX c rfl
    have hk1 := ry_k hk hr
    have hst := stepG_spawn (P := P) (main := true) (b := fF fn tm' [] D kd) (a := ⟨tm', D⟩) (k := k) (cs := rc) (rest := rest) ho hwt hkd (hrun w1) hd
    have hl : listed P (fF fn tm' [] D kd).fn ⟨tm', D⟩ o w1 = #[] := by unfold listed; rw [hev]; exact seen_none P _
    rw [hl, put_D] at hst
    refine ⟨_, _, c, out, Seen (Rg P fs1 gs1 r1), Open (Rg P fs1 gs1 r1) v1, hst, .inr rfl, q1, q3, fun b ⟨x, hx⟩ => .inl ⟨x, hsub _ _ hx⟩, fun b hb => absurd hb (hsh1 b), fun ⟨x, hx⟩ => q2 ⟨x, hsub _ _ hx⟩, hchild w1 undef undef (hw1 w1 hwr), ?_⟩
    have h1 := hn w1 hk1 hop hwr (fun c' q => by
      unfold updc at q
      by_cases e : c' = c
      · rw [e]; exact (Array.getElem?_eq_some_iff.1 q1).1
      · rw [if_neg e] at q
        exact Nat.lt_of_lt_of_le (hc c' q) hr1) (fun c' q => by cases q)
    refine h1.weaken (fun b hb => ?_) (fun b hb => ?_) (fun b hb => ⟨mv_sub b hb.1, hb.2.1, hsh1 b⟩)
    · rcases hb with hb | hb | hb
      · exact ⟨.inl hb, fun e => q2 (e ▸ hb), hsh1 b⟩
      · cases hb
      · exact ⟨.inr (.inr hb), fun e => by omega, hsh1 b⟩
    · have hb : Open (Rg P fs gs r) v b := hb.resolve_right (by simp)
      refine ⟨.inl hb, fun e => q2 (e ▸ open_seen hb), fun ⟨x, hx⟩ => ?_⟩
      obtain ⟨y, oy, hy, hoy, hny⟩ := hb
      obtain ⟨ox, hox, hsx⟩ := hsh x b hx
      have hxy : x = y := hwr.inj x y b (hsub _ _ hx) hy
      subst hxy
      rw [hox] at hoy
      cases hoy
      exact hny hsx)⟩)
theorem finish_fF {fn : FuncId} {ops : Array Oper} {i : Nat} {rest : List Nat} {o : Oper} {tm' : Array Value} {k : List Item} {D : List Deferred} {kd : CallKind} (ho : ops[i]? = some o) (x : Value) :
    (fF fn tm' (.inRegion ops (i :: rest) :: k) D kd).finish x = fF fn (Act.put ⟨tm', D⟩ o.dst x).tmps (.inRegion ops rest :: k) D kd := by
  have h : (fF fn tm' (.inRegion ops (i :: rest) :: k) D kd) = (fF fn tm' [] D kd).at ⟨tm', D⟩ (.inRegion ops (i :: rest) :: k) := rfl
  rw [h, Frame.finish_at, ho]
  show (fF fn tm' [] D kd).at (Act.put ⟨tm', D⟩ o.dst x) _ = _
  rw [put_D]
  rfl
theorem MV.recv {fn : FuncId} {ops : Array Oper} {i : Nat} {rest : List Nat} {o : Oper} {tm' : Array Value} {k : List Item} {D : List Deferred} {kd : CallKind} (hkd : kd ≠ .early) {rc : List Frame} (ho : ops[i]? = some o) (hwt : Region.wanted o (yielded ops tm') = true)
    {c : Nat} {z : Value} {out : List μ} (hrun : ∀ w, (execOp (Act.eval ⟨tm', D⟩) o).run P w = .ok (.comm #[rcase c z] true (.recv true)) w) (hev : ∀ w, (execOp (Act.eval ⟨tm', D⟩) o).events P w #[] = #[]) (hch : ch c = some out)
    (h1 : ∀ y l, out = y :: l → ∀ w x Tr, Msg w Tr x y → WR0 (Rg P fs gs r) v w → (∀ b, Tr b → ¬ Seen (Rg P fs gs r) b ∧ b < w.heap.size) → ∃ r' v', WR0 (Rg P fs gs r') v' w ∧ (∀ b, Seen (Rg P fs gs r') b → Seen (Rg P fs gs r) b ∨ Tr b) ∧ (∀ b, Open (Rg P fs gs r') v' b → Open (Rg P fs gs r) v b) ∧
      MV P fs gs Msg Fin K r' v' (updc ch c (some l)) none (G (fF fn (Act.put ⟨tm', D⟩ o.dst (.tuple #[x, .bool true])).tmps (.inRegion ops rest :: k) D kd) rc))
    (h2 : out = [] → MV P fs gs Msg Fin K r v (updc ch c none) none (G (fF fn (Act.put ⟨tm', D⟩ o.dst (.tuple #[z, .bool false])).tmps (.inRegion ops rest :: k) D kd) rc)) :
    MV P fs gs Msg Fin K r v ch none (G (fF fn tm' (.inRegion ops (i :: rest) :: k) D kd) rc) := fun w hk hop hw hc _ =>
  Lfp.in MSF.mono (.inr ⟨rfl, .inr (.inr (.inl ⟨c, out, z, hch, fun w1 hr => by
    have hst := stepG_comm (P := P) (main := true) (b := fF fn tm' [] D kd) (a := ⟨tm', D⟩) (k := k) (cs := rc) (rest := rest) ho hwt hkd (hrun w1)
    have hl : listed P (fF fn tm' [] D kd).fn ⟨tm', D⟩ o w1 = #[] := by unfold listed; rw [hev]; exact seen_none P _
    rw [hl] at hst
    exact hst, fun y l e w2 x Tr hr hm hT => by
    have hr1 : w.heap.size ≤ w2.heap.size := hr.1
    have hwr := hw.rely (ry_x hr)
    have hk1 := ry_k hk hr
    obtain ⟨r', v', k1, k2, k3, k4⟩ := h1 y l e w2 x Tr hm hwr (fun b hb => ⟨fun q => (hT b hb).1 (.inl q), (hT b hb).2⟩)
    have h3 := k4 w2 hk1 (fun b hb => hop b (k3 b hb)) k1 (fun c' q => by
      unfold updc at q
      by_cases e : c' = c
      · exact Nat.lt_of_lt_of_le (hc c' (by rw [e, hch]; simp)) hr1
      · rw [if_neg e] at q
        exact Nat.lt_of_lt_of_le (hc c' q) hr1) (fun c' q => by cases q)
    have he : Go.Conc.served (Go.Conc.core (G (fF fn tm' (.inRegion ops (i :: rest) :: k) D kd) rc)) (recvd true x true) = G (fF fn (Act.put ⟨tm', D⟩ o.dst (.tuple #[x, .bool true])).tmps (.inRegion ops rest :: k) D kd) rc := by
      rw [← finish_fF ho]; rfl
    rw [he]
    refine h3.weaken (fun b hb => ?_) (fun b hb => ?_) (fun b hb => .inl (mv_sub b hb))
    · rcases hb with hb | hb | hb
      · exact (k2 b hb).imp .inl id
      · cases hb
      · exact .inl (.inr (.inr hb))
    · exact .inl (k3 b (hb.resolve_right (by simp))), fun e w2 hr => by
    have hr1 : w.heap.size ≤ w2.heap.size := hr.1
    have hwr := hw.rely (ry_x hr)
    have hk1 := ry_k hk hr
    have h3 := h2 e w2 hk1 hop hwr (fun c' q => by
      unfold updc at q
      by_cases e : c' = c
      · exact Nat.lt_of_lt_of_le (hc c' (by rw [e, hch]; simp)) hr1
      · rw [if_neg e] at q
        exact Nat.lt_of_lt_of_le (hc c' q) hr1) (fun c' q => by cases q)
    have he : Go.Conc.served (Go.Conc.core (G (fF fn tm' (.inRegion ops (i :: rest) :: k) D kd) rc)) (recvd true z false) = G (fF fn (Act.put ⟨tm', D⟩ o.dst (.tuple #[z, .bool false])).tmps (.inRegion ops rest :: k) D kd) rc := by
      rw [← finish_fF ho]; rfl
    rw [he]
    exact h3⟩))⟩)
/-- A call that goroutine 0 enters. -/
theorem MV.call {fn : FuncId} {ops : Array Oper} {i : Nat} {rest : List Nat} {o : Oper} {tm' : Array Value} {k : List Item} {D : List Deferred} {kd : CallKind} (hkd : kd ≠ .early) {rc : List Frame} (ho : ops[i]? = some o) (hwt : Region.wanted o (yielded ops tm') = true)
    {f : FuncId} {F : Func} {c : Code} {args : Array Operand} {ats : Array TypeId} (hop : o.op = .call { callee := .value (.func f), args, argTypes := ats }) (hf : P.funcs[f]? = some F) (hname : (F.name == "runtime.NumGoroutine") = false) (hb : F.body = some c)
    (hn : MV P fs gs Msg Fin K r v ch X (G (fF f (args.map (Act.eval ⟨tm', D⟩) ++ Array.replicate (F.ntmps - (args.map (Act.eval ⟨tm', D⟩)).size) undef) [.code c] [] .normal) (fF fn tm' (.inRegion ops (i :: rest) :: k) D kd :: rc))) :
    MV P fs gs Msg Fin K r v ch X (G (fF fn tm' (.inRegion ops (i :: rest) :: k) D kd) rc) := by
  refine MV.mv rfl (fun w => ?_) hn
  have hb' : F.body.isNone = false := by rw [hb]; rfl
  have h := stepG_enter (P := P) (main := true) (b := fF fn tm' [] D kd) (a := ⟨tm', D⟩) (k := k) (cs := rc) (rest := rest) (w := w) ho hwt hkd (run_call_body hop hf hname hb')
  have hl : listed P (fF fn tm' [] D kd).fn ⟨tm', D⟩ o w = #[] := by unfold listed; rw [events_call_body hop hf hname hb']; exact seen_none P _
  rw [hl, enter_at _ hf hb] at h
  exact h
/-- The return to the caller. -/
theorem MV.ret {fn : FuncId} {tm' : Array Value} {k : List Item} {F : Func} {y : Value} (hf : P.funcs[fn]? = some F) (hr : ∀ w, (results F tm').run P w = .ok y w) (he : ∀ w, (results F tm').events P w #[] = #[])
    {fn0 : FuncId} {tm0 : Array Value} {ops : Array Oper} {i : Nat} {rest : List Nat} {o : Oper} (ho : ops[i]? = some o) {k0 : List Item} {D0 : List Deferred} {kd0 : CallKind} {rc : List Frame}
    (hn : MV P fs gs Msg Fin K r v ch X (G (fF fn0 (Act.put ⟨tm0, D0⟩ o.dst y).tmps (.inRegion ops rest :: k0) D0 kd0) rc)) :
    MV P fs gs Msg Fin K r v ch X (G (fF fn tm' (.code .ret :: k) [] .normal) (fF fn0 tm0 (.inRegion ops (i :: rest) :: k0) D0 kd0 :: rc)) := by
  refine MV.mv rfl (fun w => stepG_ret' (b := fF fn tm' [] [] .normal) (a := ⟨tm', []⟩)) (MV.mv rfl (fun w => ?_) hn)
  rw [stepG_leave (b := fF fn tm' [] [] .normal) (a := ⟨tm', []⟩) rfl rfl hf (hr w) (he w), finish_fF ho]
/-- The end of all. -/
theorem MV.last {fn : FuncId} {tm' : Array Value} {k : List Item} {F : Func} {y : Value} (hf : P.funcs[fn]? = some F) (hi : P.inits.idxOf? fn = none) (hr : ∀ w, (results F tm').run P w = .ok y w) (he : ∀ w, (results F tm').events P w #[] = #[])
    (hch : ∀ c, ch c = none) (hfin : ∀ w, Kp K w → WR0 (Rg P fs gs r) v w → Fin y w) : MV P fs gs Msg Fin K r v ch none (G (fF fn tm' (.code .ret :: k) [] .normal) []) := by
  refine MV.mv rfl (fun w => stepG_ret' (b := fF fn tm' [] [] .normal) (a := ⟨tm', []⟩)) fun w hk _ hw _ _ => ?_
  refine Lfp.in MSF.mono (.inr ⟨rfl, .inr (.inr (.inr ⟨hch, fun w1 hrl => ⟨y, #[], ?_, fun e he => absurd he (by simp), hfin w1 (ry_k hk hrl) (hw.rely (ry_x hrl))⟩⟩))⟩)
  have hr' := hr w1
  have he' := he w1
  simp [G, stepG, unwind, doReturn, Frame.at, fF, hf, hr', he', hi, seen, GStep.after]
end
section
variable {μ : Type} {P : Program} {fs gs : List Nat} {Msg : World → (Nat → Prop) → Value → μ → Prop} {r : Nat → Nat → Prop} {v : World} {c : Nat} {out : List μ}
theorem WV.mv {g g' : Goroutine} (hs : g.status = .running ∧ g.offers = none) (hs' : g'.status = .running ∧ g'.offers = none) (h : ∀ w, stepG P false g w = .go g' w #[]) (hn : WV P fs gs Msg r v c out g') : WV P fs gs Msg r v c out g := fun _ _ _ hw =>
  WS.step rfl hs.1 hs.2 fun w1 hr => ⟨g', w1, #[], _, _, h w1, Gd.still fun _ => open_seen, ⟨hs'.2, hs'.1⟩, hn w1 _ _ (hw.rely hr)⟩
theorem WV.piece (hz : Zs P) (hf : fs.all (funcB P fs gs) = true) (hg : ∀ g ∈ gs, r g g) {fn : FuncId} (hin : ∃ f, P.funcs[fn]? = some f) {x : Item} (hx : itemB P fs gs x = true) {tm tm' : Array Value} (ht : XR (Rg P fs gs r) tm tm')
    {Q : Act → World → Prop} (H : ∀ τ, ∃ a' v', a'.defers = [] ∧ Q a' v' ∧ Steps P (lone (pf fn ⟨tm, []⟩ [x, mkI]) [dum] (tap τ v)) (lone (pf fn a' [mkI]) [dum] v')) {k : List Item} {D : List Deferred} {kd : CallKind} (hkd : kd ≠ .early) {rc : List Frame}
    (hn : ∀ r' v1 a x', (∀ b b', r b b' → r' b b') → XR (Rg P fs gs r') a.tmps x' → Q a v1 → WV P fs gs Msg r' v1 c out (G (fF fn x' k D kd) rc)) : WV P fs gs Msg r v c out (G (fF fn tm' (x :: k) D kd) rc) := fun w _ _ hw => by
  refine WS.of_co (Msg := Msg) (co_view hz hf hg (m := false) hin hx hw ht H k D kd hkd rc) ⟨rfl, rfl⟩ (fun s q _ => ?_)
  obtain ⟨r', v1, a, x', e, hq, hxr, hwr, hle, _, hsz, hO, hW⟩ := q
  rw [e, hO, hW]
  exact hn r' v1 a x' hle hxr hq s.w _ _ hwr
theorem WV.op (hz : Zs P) (hf : fs.all (funcB P fs gs) = true) (hg : ∀ g ∈ gs, r g g) {fn : FuncId} (hin : ∃ f, P.funcs[fn]? = some f) {ops : Array Oper} {i : Nat} {rest : List Nat} {tm tm' tm1 : Array Value} {v1 : World}
    (hx : itemB P fs gs (.inRegion ops (i :: rest)) = true) (ht : XR (Rg P fs gs r) tm tm')
    (hst : ∀ τ, ∃ es, stepG P false (G (pf fn ⟨tm, []⟩ [.inRegion ops (i :: rest), mkI]) [dum]) (tap τ v) = .go (G (pf fn ⟨tm1, []⟩ [.inRegion ops rest, mkI]) [dum]) (tap τ v1) es) {k : List Item} {D : List Deferred} {kd : CallKind} (hkd : kd ≠ .early) {rc : List Frame}
    (hn : ∀ r' x', (∀ b b', r b b' → r' b b') → XR (Rg P fs gs r') tm1 x' → WV P fs gs Msg r' v1 c out (G (fF fn x' (.inRegion ops rest :: k) D kd) rc)) : WV P fs gs Msg r v c out (G (fF fn tm' (.inRegion ops (i :: rest) :: k) D kd) rc) := fun _ _ _ hw =>
  WS.step rfl rfl rfl fun w1 hr => by
    obtain ⟨r', tm1', w2, es, h1, h2, h3, h4, _, h6⟩ := op_view hz hf hg (m := false) hin hx (hw.rely hr) ht hst k D kd hkd rc
    exact ⟨_, w2, es, _, _, h1, h6, ⟨rfl, rfl⟩, hn r' tm1' h4 h2 w2 _ _ h3⟩
/-- A worker sends; what goes over is shared from then on. -/
theorem WV.send {fn : FuncId} {ops : Array Oper} {i : Nat} {rest : List Nat} {o : Oper} {tm' : Array Value} {k : List Item} {D : List Deferred} {kd : CallKind} (hkd : kd ≠ .early) {rc : List Frame} (ho : ops[i]? = some o) (hwt : Region.wanted o (yielded ops tm') = true)
    {x' z : Value} {y : μ} {l : List μ} (hrun : ∀ w, (execOp (Act.eval ⟨tm', D⟩) o).run P w = .ok (.comm #[scase c x' z] true .send) w) (hev : ∀ w, (execOp (Act.eval ⟨tm', D⟩) o).events P w #[] = #[])
    {v2 : World} (h1 : ∀ w, WR0 (Rg P fs gs r) v w → WR0 (Rg P fs gs r) v2 w) (h2 : ∀ w, WR0 (Rg P fs gs r) v w → ∃ Tr : Nat → Prop, (∀ b, Tr b → Open (Rg P fs gs r) v b) ∧ (∀ b, Open (Rg P fs gs r) v2 b → Open (Rg P fs gs r) v b ∧ ¬ Tr b) ∧ ∀ w1, WR0 (Rg P fs gs r) v w1 → Msg w1 Tr x' y)
    (hn : WV P fs gs Msg r v2 c l (G (fF fn (Act.put ⟨tm', D⟩ o.dst undef).tmps (.inRegion ops rest :: k) D kd) rc)) : WV P fs gs Msg r v c (y :: l) (G (fF fn tm' (.inRegion ops (i :: rest) :: k) D kd) rc) := fun w _ _ hw => by
  refine Lfp.in WSF.mono (.inl ⟨rfl, rfl, rfl, .inr (.inl fun w1 hr => ?_)⟩)
  have hwr := hw.rely hr
  obtain ⟨Tr, t1, t2, t3⟩ := h2 w1 hwr
  have hst := stepG_comm (P := P) (main := false) (b := fF fn tm' [] D kd) (a := ⟨tm', D⟩) (k := k) (cs := rc) (rest := rest) ho hwt hkd (hrun w1)
  have hl : listed P (fF fn tm' [] D kd).fn ⟨tm', D⟩ o w1 = #[] := by unfold listed; rw [hev]; exact seen_none P _
  rw [hl] at hst
  refine ⟨_, x', z, hst, Lfp.in WSF.mono (.inr (.inl ⟨rfl, y, l, Tr, rfl, t1, fun w2 hr2 => ?_⟩))⟩
  have hwr2 := hwr.rely hr2
  refine ⟨t3 w2 hwr2, ?_⟩
  have he : Go.Conc.served (G ((fF fn tm' [] D kd).at ⟨tm', D⟩ (.inRegion ops (i :: rest) :: k)) rc) undef = G (fF fn (Act.put ⟨tm', D⟩ o.dst undef).tmps (.inRegion ops rest :: k) D kd) rc := by
    rw [← finish_fF ho]; rfl
  show WS P Msg ⟨Go.Conc.served (G ((fF fn tm' [] D kd).at ⟨tm', D⟩ (.inRegion ops (i :: rest) :: k)) rc) undef, w2, _, _, c, l, 0, x', z⟩
  rw [he]
  exact (hn w2 x' z (h1 w2 hwr2)).weaken (fun _ q => q) t2 (fun b hb => open_seen hb.1)
/-- A worker has sent all: it closes its channel, and leaves. -/
theorem WV.fin {g : Goroutine} (hs : g.status = .running ∧ g.offers = none) (hmw : mayWake P g = true) {g2 : Goroutine} (hs2 : g2.status = .running ∧ g2.offers = none) (hcl : ∀ w s, w.heap[c]? = some (.chan 0 #[] false s s false) → stepG P false g w = .go g2 (w.setChan c 0 #[] true s s false) (closeEs c))
    {g3 g4 : Goroutine} (h3 : ∀ w, stepG P false g2 w = .go g3 w #[]) (hs3 : g3.status = .running ∧ g3.offers = none) (h4 : ∀ w, stepG P false g3 w = .go g4 w #[]) (hs4 : g4.status = .finished ∧ g4.offers = none) : WV P fs gs Msg r v c [] g := fun _ _ _ _ => by
  refine Lfp.in WSF.mono (.inl ⟨rfl, hs.1, hs.2, .inr (.inr ⟨rfl, hmw, fun w1 s hr hc => ⟨g2, hcl w1 s hc, hs2.1, hs2.2, ?_⟩⟩)⟩)
  refine Lfp.in WSF.mono (.inr (.inr ⟨rfl, hs2.2, .inr ⟨hs2.1, g3, h3, .inl hs3.1, ?_⟩⟩))
  refine Lfp.in WSF.mono (.inr (.inr ⟨rfl, hs3.2, .inr ⟨hs3.1, g4, h4, .inr hs4.1, ?_⟩⟩))
  exact Lfp.in WSF.mono (.inr (.inr ⟨rfl, hs4.2, .inl hs4.1⟩))
end
end Go.Proofs.YtfbdgdphpdhcpaaDoor.Sm
