/-
  Rules for goroutine 0 and for a worker from their views. Condition: Zs.
  Rules for goroutine 0 (a go statement, a receive, calls, the end) and for a worker from their views. Condition: Zs.
-/
import Derived.Conc.Own4
import Derived.Conc.DeferLaws
import Derived.Test.YtfbdgdphpdhcpaaDoorVwA
import Derived.Conc.Own2
namespace Go.Proofs.YtfbdgdphpdhcpaaDoor.Sm
open Go Go.Conc

def isC : Obj → Bool
  | .cells .. => true
  | _ => false
/-- The world in which nobody can write the blocks of S. -/
def fz (S : Nat → Bool) (w : World) : World := { w with heap := w.heap.mapIdx fun i o => if S i then frzO o else o }
theorem fz_get (S : Nat → Bool) (w : World) (b : Nat) : (fz S w).heap[b]? = (w.heap[b]?).map fun o => if S b then frzO o else o := by
  unfold fz
  simp only [Array.getElem?_mapIdx]
theorem fz_size (S : Nat → Bool) (w : World) : (fz S w).heap.size = w.heap.size := by unfold fz; simp
theorem fz_cell (S : Nat → Bool) (w : World) (p : Addr) : (fz S w).cell? p = w.cell? p := by
  unfold World.cell?
  rw [fz_get]
  cases h : w.heap[p.block]? with
  | none => rfl
  | some o =>
    simp only [Option.map_some]
    by_cases q : S p.block = true
    · rw [if_pos q]
      cases o <;> rfl
    · rw [if_neg q]
theorem or_fz {R : Ren} {l : Nat} {o o' : Obj} (h : OR R l o o') (q : Bool) : OR R l (if q = true then frzO o else o) o' := by
  cases q with
  | false => exact h
  | true =>
    cases o with
    | cells c e fr =>
      cases o' with
      | cells c' e' fr' => exact ⟨h.1, h.2.1, fun k h1 h2 => ⟨Nat.zero_le _, Nat.lt_of_lt_of_le (h.2.2 k h1 h2).2 (Nat.le_max_right _ _)⟩⟩
      | _ => exact h.elim
    | _ => exact h
theorem WR0.fz {R : Ren} {v w : World} (h : WR0 R v w) (S : Nat → Bool) : WR0 R (Sm.fz S v) w :=
  ⟨h.inj, h.fn, fun b b' q => ⟨by rw [fz_size]; exact (h.dom b b' q).1, (h.dom b b' q).2⟩, fun b b' o q ho => by
    rw [fz_get] at ho
    cases e : v.heap[b]? with
    | none => rw [e] at ho; cases ho
    | some o0 =>
      rw [e] at ho
      cases ho
      obtain ⟨o', h1, h2⟩ := h.obj b b' o0 q e
      exact ⟨o', h1, or_fz h2 (S b)⟩, ⟨⟨by rw [fz_size]; exact h.low.1.1, h.low.1.2⟩, h.low.2⟩, h.same⟩
theorem shut_fz {o : Obj} (h : isC o = true) : Shut (frzO o) := by
  cases o with
  | cells c e fr => exact fun k hk => ⟨Nat.zero_le _, Nat.lt_of_lt_of_le hk (Nat.le_max_left _ _)⟩
  | _ => cases h
theorem open_seen {R : Ren} {v : World} {b : Nat} (h : Open R v b) : Seen R b := let ⟨a, _, h1, _⟩ := h; ⟨a, h1⟩
theorem open_fz {R : Ren} {S : Nat → Bool} {v : World} {b' : Nat} (h : Open R (fz S v) b') : ∃ b o, R.rel b b' ∧ v.heap[b]? = some o ∧ ¬ Shut o ∧ (S b = true → isC o = false) := by
  obtain ⟨b, o, h1, h2, h3⟩ := h
  rw [fz_get] at h2
  cases e : v.heap[b]? with
  | none => rw [e] at h2; cases h2
  | some o0 =>
    rw [e] at h2
    cases h2
    replace h3 : ¬ Shut (if S b = true then frzO o0 else o0) := h3
    by_cases q : S b = true
    · rw [if_pos q] at h3
      refine ⟨b, o0, h1, e, fun z => h3 ?_, fun _ => ?_⟩
      · cases o0 with
        | cells c t fr => exact shut_fz rfl
        | _ => exact z
      · cases hc : isC o0 with
        | false => rfl
        | true => exact absurd (shut_fz hc) h3
    · rw [if_neg q] at h3
      exact ⟨b, o0, h1, e, h3, fun z => absurd z q⟩
theorem WR0.heapR {R : Ren} {v w w2 : World} (h : WR0 R v w) (e : w2.heap = w.heap) : WR0 R v w2 :=
  ⟨h.inj, h.fn, by rw [e]; exact h.dom, by rw [e]; exact h.obj, by rw [e]; exact h.low, h.same⟩
section
variable {P : Program} {fs gs : List Nat}
theorem isr_end {R : Ren} (hg : Good P R) {k : List Item} {D : List Deferred} {kd : CallKind} {l : List Item} (h : IsR P R (some (k, D, kd)) [mkI] l) : l = k := by
  cases l with
  | nil =>
    obtain ⟨⟨D', e⟩, _⟩ := h
    have : some (k, D, kd) = some ([], D') := e
    cases this; rfl
  | cons x l =>
    rcases h with h | ⟨⟨D', e⟩, _⟩
    · exfalso
      have h2 := h.1
      cases x with
      | code c =>
        obtain ⟨rfl, h3⟩ := h2
        exact hg.code _ h3
      | _ => exact h2.elim
    · have : some (k, D, kd) = some (x :: l, D') := e
      cases this; rfl
/-- One operation from a view. -/
theorem op_view (hz : Zs P) (hf : fs.all (funcB P fs gs) = true) {r : Nat → Nat → Prop} (hg : ∀ g ∈ gs, r g g) {m : Bool} {fn : FuncId} (hin : ∃ f, P.funcs[fn]? = some f) {ops : Array Oper} {i : Nat} {rest : List Nat} {tm tm' tm1 : Array Value} {v v1 w : World}
    (hx : itemB P fs gs (.inRegion ops (i :: rest)) = true) (hw : WR0 (Rg P fs gs r) v w) (ht : XR (Rg P fs gs r) tm tm')
    (hst : ∀ τ, ∃ es, stepG P m (G (pf fn ⟨tm, []⟩ [.inRegion ops (i :: rest), mkI]) [dum]) (tap τ v) = .go (G (pf fn ⟨tm1, []⟩ [.inRegion ops rest, mkI]) [dum]) (tap τ v1) es) (k : List Item) (D : List Deferred) (kd : CallKind) (hkd : kd ≠ .early) (rc : List Frame) :
    ∃ r' tm1' w2 es, stepG P m (G (fF fn tm' (.inRegion ops (i :: rest) :: k) D kd) rc) w = .go (G (fF fn tm1' (.inRegion ops rest :: k) D kd) rc) w2 es ∧ XR (Rg P fs gs r') tm1 tm1' ∧ WR0 (Rg P fs gs r') v1 w2 ∧ (∀ b b', r b b' → r' b b') ∧
      (∀ b b', r' b b' → r b b' ∨ (v.heap.size ≤ b ∧ w.heap.size ≤ b')) ∧ Gd (Seen (Rg P fs gs r)) (Open (Rg P fs gs r) v) (Seen (Rg P fs gs r')) (Open (Rg P fs gs r') v1) w w2 es := by
  have hgd : Good P (Rg P fs gs r) := rg_good hf hg
  have hix : IR P (Rg P fs gs r) (.inRegion ops (i :: rest)) (.inRegion ops (i :: rest)) := rg_item hg hx
  obtain ⟨es0, h0⟩ := hst (syn v w)
  have hG : GR P (Rg P fs gs r) (some (k, D, kd)) [dum] rc (G (pf fn ⟨tm, []⟩ [.inRegion ops (i :: rest), mkI]) [dum]) (G (fF fn tm' (.inRegion ops (i :: rest) :: k) D kd) rc) :=
    ⟨_, [], _, [], rfl, rfl, ⟨⟨rfl, hin⟩, ht, isR_mk hix _ _, rfl, ⟨rfl, .inl rfl⟩, ⟨⟨rfl, hkd⟩, rfl⟩, trivial⟩, trivial, rfl⟩
  rcases sim_step (m' := m) hz hgd hG hw.wr h0 (fun fr e hm => by injection e with e1 e2; subst e1; cases hm) with q | ⟨R', g1', w2, es', e, hG', hgu⟩
  · exfalso
    obtain ⟨fr, cs, chain, e1, e2, _⟩ := q
    have e3 : G (pf fn ⟨tm1, []⟩ [.inRegion ops rest, mkI]) [dum] = G fr (cs ++ [dum]) := e1
    injection e3 with e4 e5
    subst e4
    cases e2
  · obtain ⟨fr1, cs, fr', cs', e1, rfl, hfr, hc, hb⟩ := hG'
    have e3 : G (pf fn ⟨tm1, []⟩ [.inRegion ops rest, mkI]) [dum] = G fr1 (cs ++ [dum]) := e1
    injection e3 with e4 e5
    subst e4
    have hcs : cs = [] := cs_nil e5.symm
    subst hcs
    cases cs' with
    | cons a l => exact hc.elim
    | nil =>
      have hgd' := hgd.mono hgu.le
      have htd : fr'.todo = .inRegion ops rest :: k := by
        have h1 := hfr.td
        cases ht : fr'.todo with
        | nil => rw [ht] at h1; exact absurd h1.2 (fun ⟨s, q⟩ => by cases q)
        | cons x l =>
          rw [ht] at h1
          rcases h1 with h1 | ⟨_, s, q⟩
          · have h2 := h1.1
            cases x with
            | inRegion ops' l' =>
              obtain ⟨⟨rfl, rfl⟩, _⟩ := h2
              have := isr_end hgd' (D := D) (kd := kd) h1.2
              rw [this]
            | _ => exact h2.elim
          · cases q
      have hdf : fr'.defers = D := hfr.df
      have hro : fr'.roundOf = none := by
        have h1 := hfr.ro
        have e : (pf fn ⟨tm1, []⟩ [.inRegion ops rest, mkI]).roundOf = none := rfl
        rw [e] at h1
        cases h : fr'.roundOf with
        | none => rfl
        | some l => rw [h] at h1; exact h1.elim
      have hrg := rg_of hgu.le
      refine ⟨R'.rel, fr'.tmps, w2, es', ?_, by rw [← hrg]; exact hfr.tm, ?_, hgu.le.1, hgu.new, ?_⟩
      · rw [e]
        have hmd : fr'.mode = .run := hfr.md.1
        have hkd' : fr'.kind = kd := hfr.kd.1.1
        have hfn : fr'.fn = fn := hfr.fn.1
        obtain ⟨f1, f2, f3, f4, f5, f6, f7⟩ := fr'
        simp only at htd hdf hmd hkd' hfn hro
        subst htd hdf hmd hkd' hfn hro
        rfl
      · rw [← hrg]; exact hgu.wr.zero.heap (v' := v1) rfl
      · rw [← hrg]
        exact hgu.gd
end
section
variable {μ : Type} (P : Program) (fs gs : List Nat) (Msg : World → (Nat → Prop) → Value → μ → Prop) (Fin : Value → World → Prop)
/-- What was there at the start is as it was. -/
def Kp (K w : World) : Prop := K.heap.size ≤ w.heap.size ∧ (∀ b, b < K.heap.size → w.heap[b]? = K.heap[b]?) ∧ w.os = K.os ∧ w.output = K.output
/-- Goroutine 0 from its view (r, v), whatever the company's world is; X: a channel of its own that isn't handed on yet; K: the world at the start. -/
def MV (K : World) (r : Nat → Nat → Prop) (v : World) (ch : Nat → Option (List μ)) (X : Option Nat) (g : Goroutine) : Prop :=
  ∀ w, Kp K w → (∀ b, Open (Rg P fs gs r) v b → K.heap.size ≤ b) → WR0 (Rg P fs gs r) v w → (∀ c, ch c ≠ none → c < w.heap.size) → (∀ c, X = some c → K.heap.size ≤ c ∧ w.heap[c]? = some (.chan 0 #[] false 0 0 false) ∧ ¬ Seen (Rg P fs gs r) c ∧ ch c = none) →
    MS P Msg Fin (fun _ => False) ⟨g, w, fun b => Seen (Rg P fs gs r) b ∨ X = some b ∨ b < K.heap.size, fun b => Open (Rg P fs gs r) v b ∨ X = some b, ch⟩
/-- A worker from its view. -/
def WV (r : Nat → Nat → Prop) (v : World) (c : Nat) (out : List μ) (g : Goroutine) : Prop :=
  ∀ w x z, WR0 (Rg P fs gs r) v w → WS P Msg ⟨g, w, Seen (Rg P fs gs r), Open (Rg P fs gs r) v, c, out, 0, x, z⟩
end
section
variable {μ : Type} {P : Program} {fs gs : List Nat} {Msg : World → (Nat → Prop) → Value → μ → Prop} {Fin : Value → World → Prop} {K : World} {r : Nat → Nat → Prop} {v : World} {ch : Nat → Option (List μ)} {X : Option Nat}
theorem Kp.refl (K : World) : Kp K K := ⟨Nat.le_refl _, fun _ _ => rfl, rfl, rfl⟩
theorem Kp.rely {O : Nat → Prop} {w w1 : World} (h : Kp K w) (hr : Ry O w w1) (hO : ∀ b, b < K.heap.size → O b) : Kp K w1 :=
  ⟨Nat.le_trans h.1 hr.1, fun b hb => (hr.2.1 b (hO b hb)).trans (h.2.1 b hb), hr.2.2.1.trans h.2.2.1, hr.2.2.2.trans h.2.2.2⟩
theorem Kp.gd {O W O' W' : Nat → Prop} {w w1 : World} {es : Array Event} (h : Kp K w) (hg : Gd O W O' W' w w1 es) (hW : ∀ b, W b → K.heap.size ≤ b) : Kp K w1 :=
  ⟨Nat.le_trans h.1 hg.size, fun b hb => (hg.kept b (Nat.lt_of_lt_of_le hb h.1) fun q => Nat.lt_irrefl _ (Nat.lt_of_lt_of_le hb (hW b q))).trans (h.2.1 b hb), hg.os.1.trans h.2.2.1, hg.os.2.1.trans h.2.2.2⟩
theorem newW_kp {O W O' W' : Nat → Prop} {w w1 : World} {es : Array Event} (h : Kp K w) (hg : Gd O W O' W' w w1 es) (hW : ∀ b, W b → K.heap.size ≤ b) : ∀ b, W' b → K.heap.size ≤ b := fun b hb => by
  rcases hg.newW b hb with q | q
  · exact hW b q
  · exact Nat.le_trans h.1 q.1
theorem ry_x {R : Ren} {X : Option Nat} {w w1 : World} (h : Ry (fun b => Seen R b ∨ X = some b ∨ b < K.heap.size) w w1) : Ry (Seen R) w w1 := ⟨h.1, fun b hb => h.2.1 b (.inl hb), h.2.2⟩
theorem ry_k {R : Ren} {X : Option Nat} {w w1 : World} (hk : Kp K w) (h : Ry (fun b => Seen R b ∨ X = some b ∨ b < K.heap.size) w w1) : Kp K w1 := hk.rely h fun _ hb => .inr (.inr hb)
theorem mv_sub {R : Ren} {v : World} {X : Option Nat} : ∀ b, (Open R v b ∨ X = some b) → (Seen R b ∨ X = some b ∨ b < K.heap.size) := fun _ h => h.elim (fun q => .inl (open_seen q)) fun q => .inr (.inl q)
theorem x_rely {R : Ren} {w w1 : World} (h : Ry (fun b => Seen R b ∨ X = some b ∨ b < K.heap.size) w w1) (hx : ∀ c, X = some c → K.heap.size ≤ c ∧ w.heap[c]? = some (.chan 0 #[] false 0 0 false) ∧ ¬ Seen R c ∧ ch c = none) :
    ∀ c, X = some c → K.heap.size ≤ c ∧ w1.heap[c]? = some (.chan 0 #[] false 0 0 false) ∧ ¬ Seen R c ∧ ch c = none := fun c e => ⟨(hx c e).1, (h.2.1 c (.inr (.inl e))).trans (hx c e).2.1, (hx c e).2.2⟩
theorem MV.mv {g g' : Goroutine} (hs : g.status = .running) (h : ∀ w, stepG P true g w = .go g' w #[]) (hn : MV P fs gs Msg Fin K r v ch X g') : MV P fs gs Msg Fin K r v ch X g := fun _ hk ho hw hc hx =>
  MS.step hs fun w1 hr => ⟨g', w1, #[], _, _, h w1, Gd.still mv_sub, hn w1 (ry_k hk hr) ho (hw.rely (ry_x hr)) (fun c q => Nat.lt_of_lt_of_le (hc c q) hr.1) (x_rely hr hx)⟩
/-- Along the way what was there at the start stays. -/
def StK (K : World) (Stop : St → Prop) (s : St) : Prop := (∃ O, Stop ⟨s.g, s.w, O, s.W⟩ ∧ s.O = fun b => O b ∨ b < K.heap.size) ∧ Kp K s.w ∧ ∀ b, s.W b → K.heap.size ≤ b
theorem Co.stays {m : Bool} {Stop : St → Prop} {s : St} (h : Co P m Stop s) : Kp K s.w → (∀ b, s.W b → K.heap.size ≤ b) → Co P m (StK K Stop) ⟨s.g, s.w, fun b => s.O b ∨ b < K.heap.size, s.W⟩ := by
  refine Lfp.ind CoF.mono (C := fun s => Kp K s.w → (∀ b, s.W b → K.heap.size ≤ b) → Co P m (StK K Stop) ⟨s.g, s.w, fun b => s.O b ∨ b < K.heap.size, s.W⟩) (fun s q hk hW => ?_) h
  have hless : ∀ {w1 : World}, Ry (fun b => s.O b ∨ b < K.heap.size) s.w w1 → Ry s.O s.w w1 := fun hr => ⟨hr.1, fun b hb => hr.2.1 b (.inl hb), hr.2.2⟩
  refine Lfp.in CoF.mono ?_
  rcases q with q | ⟨q0, q⟩
  · exact .inl fun w1 hr => ⟨⟨s.O, q w1 (hless hr), rfl⟩, hk.rely hr fun _ => .inr, hW⟩
  · refine .inr ⟨q0, fun w1 hr => ?_⟩
    obtain ⟨g2, w2, es, O2, W2, h1, h2, h3, _, h5⟩ := q w1 (hless hr)
    have hk1 : Kp K w1 := hk.rely hr fun _ => .inr
    refine ⟨g2, w2, es, fun b => O2 b ∨ b < K.heap.size, W2, h1, ⟨h2.size, h2.kept, h2.os, fun b hb => ?_, h2.newW, fun b hb => .inl (h2.sub b hb), fun e he => (h2.evs e he).mono (fun _ => .inl) (fun _ => id)⟩, h3, h5 (hk1.gd h2 hW) (newW_kp hk1 h2 hW)⟩
    rcases hb with hb | hb
    · exact (h2.newO b hb).imp .inl id
    · exact .inl (.inr hb)
theorem MV.piece (hz : Zs P) (hf : fs.all (funcB P fs gs) = true) (hg : ∀ g ∈ gs, r g g) {fn : FuncId} (hin : ∃ f, P.funcs[fn]? = some f) {x : Item} (hx : itemB P fs gs x = true) {tm tm' : Array Value} (ht : XR (Rg P fs gs r) tm tm')
    {Q : Act → World → Prop} (H : ∀ τ, ∃ a' v', a'.defers = [] ∧ Q a' v' ∧ Steps P (lone (pf fn ⟨tm, []⟩ [x, mkI]) [dum] (tap τ v)) (lone (pf fn a' [mkI]) [dum] v')) {k : List Item} {D : List Deferred} {kd : CallKind} (hkd : kd ≠ .early) {rc : List Frame}
    (hn : ∀ r' v1 a x', (∀ b b', r b b' → r' b b') → XR (Rg P fs gs r') a.tmps x' → Q a v1 → MV P fs gs Msg Fin K r' v1 ch none (G (fF fn x' k D kd) rc)) : MV P fs gs Msg Fin K r v ch none (G (fF fn tm' (x :: k) D kd) rc) := fun w hk ho hw hc _ => by
  have h0 := (co_view hz hf hg (m := true) hin hx hw ht H k D kd hkd rc).stays (K := K) hk ho
  have h := MS.of_co (Msg := Msg) (Fin := Fin) (Stop' := fun _ => False) (ch := ch) h0 (fun s q => by
    obtain ⟨⟨O, ⟨r', v1, a, x', e, hq, hxr, hwr, hle, _, hsz, hO, hW⟩, hO'⟩, hk', hW'⟩ := q
    have e : s.g = _ := e
    have hO : O = _ := hO
    have hW : s.W = _ := hW
    rw [hW] at hW'
    have h1 := hn r' v1 a x' hle hxr hq s.w hk' hW' hwr (fun c q => Nat.lt_of_lt_of_le (hc c q) hsz) (fun c q => by cases q)
    rw [e, hO', hW, hO]
    exact h1.weaken (fun b hb => hb.elim .inl fun q => q.elim (fun z => by cases z) .inr) (fun b hb => hb.resolve_right (by simp)) (fun b hb => .inl (open_seen hb)))
  exact h.weaken (fun b hb => hb.elim .inl fun q => .inr (.inr q)) (fun b hb => .inl hb) mv_sub
theorem MV.op (hz : Zs P) (hf : fs.all (funcB P fs gs) = true) (hg : ∀ g ∈ gs, r g g) {fn : FuncId} (hin : ∃ f, P.funcs[fn]? = some f) {ops : Array Oper} {i : Nat} {rest : List Nat} {tm tm' tm1 : Array Value} {v1 : World}
    (hx : itemB P fs gs (.inRegion ops (i :: rest)) = true) (ht : XR (Rg P fs gs r) tm tm')
    (hst : ∀ τ, ∃ es, stepG P true (G (pf fn ⟨tm, []⟩ [.inRegion ops (i :: rest), mkI]) [dum]) (tap τ v) = .go (G (pf fn ⟨tm1, []⟩ [.inRegion ops rest, mkI]) [dum]) (tap τ v1) es) {k : List Item} {D : List Deferred} {kd : CallKind} (hkd : kd ≠ .early) {rc : List Frame}
    (hn : ∀ r' x', (∀ b b', r b b' → r' b b') → XR (Rg P fs gs r') tm1 x' → MV P fs gs Msg Fin K r' v1 ch X (G (fF fn x' (.inRegion ops rest :: k) D kd) rc)) : MV P fs gs Msg Fin K r v ch X (G (fF fn tm' (.inRegion ops (i :: rest) :: k) D kd) rc) := fun w hk ho hw hc hX =>
  MS.step rfl fun w1 hr => by
    have hw1 := hw.rely (ry_x hr)
    have hk1 := ry_k hk hr
    obtain ⟨r', tm1', w2, es, h1, h2, h3, h4, h5, h6⟩ := op_view hz hf hg (m := true) hin hx hw1 ht hst k D kd hkd rc
    have hX1 := x_rely hr hX
    refine ⟨_, w2, es, _, _, h1, ⟨h6.size, fun b hb hnb => h6.kept b hb fun z => hnb (.inl z), h6.os, fun b hb => ?_, fun b hb => ?_, mv_sub, fun e he => (h6.evs e he).mono (fun _ => .inl) (fun _ => .inl)⟩,
      hn r' tm1' h4 h2 w2 (hk1.gd h6 ho) (newW_kp hk1 h6 ho) h3 (fun c q => Nat.lt_of_lt_of_le (hc c q) (Nat.le_trans hr.1 h6.size)) fun c e => ?_⟩
    · rcases hb with hb | hb
      · exact (h6.newO b hb).imp .inl id
      · exact .inl (.inr hb)
    · rcases hb with hb | hb
      · exact (h6.newW b hb).imp .inl id
      · exact .inl (.inr hb)
    · obtain ⟨q0, q1, q2, q3⟩ := hX1 c e
      have hlt : c < w1.heap.size := (Array.getElem?_eq_some_iff.1 q1).1
      refine ⟨q0, (h6.kept c hlt fun z => q2 (open_seen z)).trans q1, fun ⟨b, hb⟩ => ?_, q3⟩
      rcases h5 b c hb with z | z
      · exact q2 ⟨b, z⟩
      · omega
/-- An order of operations is drawn. -/
theorem MV.draw {fn : FuncId} {id : Nat} {ops : Array Oper} {tm' : Array Value} {k : List Item} {D : List Deferred} {kd : CallKind} {rc : List Frame}
    (hn : ∀ t, MV P fs gs Msg Fin K r v ch X (G (fF fn tm' (.inRegion ops (Region.schedule (P.follows .mixedOrders) ops t) :: k) D kd) rc)) : MV P fs gs Msg Fin K r v ch X (G (fF fn tm' (.code (.region id ops true) :: k) D kd) rc) := fun _ hk ho hw hc hX =>
  MS.step rfl fun w1 hr => by
    have hw1 := hw.rely (ry_x hr)
    have hk1 := ry_k hk hr
    refine ⟨_, { w1 with drawn := w1.drawn + 1 }, #[], _, _, rfl, ⟨Nat.le_refl _, fun b _ _ => rfl, ⟨rfl, rfl, rfl⟩, fun b => .inl, fun b => .inl, mv_sub, fun e he => absurd he (by simp)⟩,
      hn _ _ ⟨hk1.1, hk1.2.1, hk1.2.2⟩ ho (hw1.heapR rfl) (fun c q => Nat.lt_of_lt_of_le (hc c q) hr.1) (x_rely hr hX)⟩
/-- A channel is made. -/
theorem MV.make {fn : FuncId} {ops : Array Oper} {i : Nat} {rest : List Nat} {o : Oper} {tm' : Array Value} {k : List Item} {D : List Deferred} {kd : CallKind} (hkd : kd ≠ .early) {rc : List Frame} (ho : ops[i]? = some o) (hwt : Region.wanted o (yielded ops tm') = true)
    (hrun : ∀ w, (execOp (Act.eval ⟨tm', D⟩) o).run P w = .ok (.value (.chan (some w.heap.size))) (w.alloc (.chan 0 #[] false 0 0 false))) (hev : ∀ w, (execOp (Act.eval ⟨tm', D⟩) o).events P w #[] = #[])
    (hn : ∀ c, MV P fs gs Msg Fin K r v ch (some c) (G (fF fn ((Act.put ⟨tm', D⟩ o.dst (.chan (some c))).tmps) (.inRegion ops rest :: k) D kd) rc)) : MV P fs gs Msg Fin K r v ch none (G (fF fn tm' (.inRegion ops (i :: rest) :: k) D kd) rc) := fun w hk hop hw hc _ =>
  MS.step rfl fun w1 hr => by
    have hw1 := hw.rely (ry_x hr)
    have hr1 : w.heap.size ≤ w1.heap.size := hr.1
    have hk1 := ry_k hk hr
    have hget : ∀ b, b < w1.heap.size → (w1.alloc (.chan 0 #[] false 0 0 false)).heap[b]? = w1.heap[b]? := fun b hb => by
      unfold World.alloc
      exact Array.getElem?_push_lt hb ▸ (by rw [Array.getElem?_eq_getElem hb])
    have hsz : (w1.alloc (.chan 0 #[] false 0 0 false)).heap.size = w1.heap.size + 1 := by unfold World.alloc; simp
    have hnew : (w1.alloc (.chan 0 #[] false 0 0 false)).heap[w1.heap.size]? = some (.chan 0 #[] false 0 0 false) := by unfold World.alloc; simp
    have hst := stepG_value (P := P) (main := true) (b := fF fn tm' [] D kd) (a := ⟨tm', D⟩) (k := k) (cs := rc) (rest := rest) ho hwt hkd (hrun w1)
    have hl : listed P (fF fn tm' [] D kd).fn ⟨tm', D⟩ o w1 = #[] := by unfold listed; rw [hev]; exact seen_none P _
    have hp : ∀ x, Act.put ⟨tm', D⟩ o.dst x = ⟨(Act.put ⟨tm', D⟩ o.dst x).tmps, D⟩ := fun x => by cases o.dst <;> rfl
    rw [hl, hp] at hst
    refine ⟨_, _, #[], fun b => Seen (Rg P fs gs r) b ∨ some w1.heap.size = some b ∨ b < K.heap.size, fun b => Open (Rg P fs gs r) v b ∨ some w1.heap.size = some b, hst, ⟨by rw [hsz]; omega, fun b hb _ => hget b hb, ⟨rfl, rfl, rfl⟩, fun b hb => ?_, fun b hb => ?_, mv_sub, fun e he => absurd he (by simp)⟩, ?_⟩
    · rcases hb with hb | hb | hb
      · exact .inl (.inl hb)
      · cases hb; exact .inr ⟨Nat.le_refl _, by rw [hsz]; omega⟩
      · exact .inl (.inr (.inr hb))
    · rcases hb with hb | hb
      · exact .inl (.inl hb)
      · cases hb; exact .inr ⟨Nat.le_refl _, by rw [hsz]; omega⟩
    · have h1 : WR0 (Rg P fs gs r) v (w1.alloc (.chan 0 #[] false 0 0 false)) :=
        ⟨hw1.inj, hw1.fn, fun b b' q => ⟨(hw1.dom b b' q).1, by rw [hsz]; have := (hw1.dom b b' q).2; omega⟩, fun b b' o q ho => by rw [hget b' (hw1.dom b b' q).2]; exact hw1.obj b b' o q ho, ⟨hw1.low.1, by rw [hsz]; have := hw1.low.2; omega⟩, hw1.same⟩
      have hk2 : Kp K (w1.alloc (.chan 0 #[] false 0 0 false)) := ⟨by rw [hsz]; have := hk1.1; omega, fun b hb => (hget b (Nat.lt_of_lt_of_le hb hk1.1)).trans (hk1.2.1 b hb), hk1.2.2⟩
      have h2 := hn w1.heap.size _ hk2 hop h1 (fun c q => by rw [hsz]; have := hc c q; omega) (fun c e => by
        cases e
        refine ⟨hk1.1, hnew, fun ⟨b, hb⟩ => ?_, ?_⟩
        · have := (hw1.dom b _ hb).2; omega
        · cases hcc : ch w1.heap.size with
          | none => rfl
          | some l => have := hc w1.heap.size (by rw [hcc]; simp); omega)
      exact h2
end
end Go.Proofs.YtfbdgdphpdhcpaaDoor.Sm
namespace Go.Proofs.YtfbdgdphpdhcpaaDoor.Sm
open Go Go.Conc

/-- The view grows by a block. -/
def rAdd (r : Nat → Nat → Prop) (b0 b0' : Nat) : Nat → Nat → Prop := fun b b' => r b b' ∨ (b = b0 ∧ b' = b0')
section
variable {P : Program} {fs gs : List Nat} {r : Nat → Nat → Prop}
/-- A block that came over lies at the end of the lone world. -/
theorem WR0.got {v w : World} (h : WR0 (Rg P fs gs r) v w) {bl : Nat} (hn : ¬ Seen (Rg P fs gs r) bl) (hlow : P.globals.size ≤ bl) {o o' : Obj} (ho : w.heap[bl]? = some o') (hor : OR (Rg P fs gs r) 0 o o') : WR0 (Rg P fs gs (rAdd r v.heap.size bl)) (v.alloc o) w := by
  have hsz : (v.alloc o).heap.size = v.heap.size + 1 := by unfold World.alloc; simp
  have hget : ∀ b, b < v.heap.size → (v.alloc o).heap[b]? = v.heap[b]? := fun b hb => by
    unfold World.alloc
    exact Array.getElem?_push_lt hb ▸ (by rw [Array.getElem?_eq_getElem hb])
  have hnew : (v.alloc o).heap[v.heap.size]? = some o := by unfold World.alloc; simp
  have hbl : bl < w.heap.size := (Array.getElem?_eq_some_iff.1 ho).1
  have hle : Le (Rg P fs gs r) (Rg P fs gs (rAdd r v.heap.size bl)) := rg_le fun _ _ q => .inl q
  have hl1 : P.globals.size ≤ v.heap.size := h.low.1.1
  have hl2 : P.globals.size ≤ w.heap.size := h.low.2
  refine ⟨fun b c b' q1 q2 => ?_, fun b b' c' q1 q2 => ?_, fun b b' q => ?_, fun b b' o1 q h1 => ?_, ⟨⟨by rw [hsz]; exact Nat.le_succ_of_le hl1, fun _ => rfl⟩, hl2⟩, fun b b' q z => ?_⟩
  · rcases q1 with q1 | ⟨rfl, rfl⟩
    · rcases q2 with q2 | ⟨rfl, rfl⟩
      · exact h.inj b c b' q1 q2
      · exact absurd ⟨b, q1⟩ hn
    · rcases q2 with q2 | ⟨rfl, _⟩
      · exact absurd ⟨c, q2⟩ hn
      · rfl
  · rcases q1 with q1 | ⟨rfl, rfl⟩
    · rcases q2 with q2 | ⟨rfl, rfl⟩
      · exact h.fn b b' c' q1 q2
      · have := (h.dom _ _ q1).1; omega
    · rcases q2 with q2 | ⟨_, rfl⟩
      · have := (h.dom _ _ q2).1; omega
      · rfl
  · rcases q with q | ⟨rfl, rfl⟩
    · exact ⟨by rw [hsz]; have := (h.dom b b' q).1; omega, (h.dom b b' q).2⟩
    · exact ⟨by rw [hsz]; omega, hbl⟩
  · rcases q with q | ⟨rfl, rfl⟩
    · rw [hget b (h.dom b b' q).1] at h1
      obtain ⟨o2, h2, h3⟩ := h.obj b b' o1 q h1
      exact ⟨o2, h2, h3.mono hle⟩
    · rw [hnew] at h1
      cases h1
      exact ⟨o', ho, hor.mono hle⟩
  · rcases q with q | ⟨rfl, rfl⟩
    · exact h.same b b' q z
    · exfalso
      rcases z with z | z
      · exact absurd z (Nat.not_lt.2 hl1)
      · exact absurd z (Nat.not_lt.2 hlow)
theorem seen_add {b0 b0' b : Nat} : Seen (Rg P fs gs (rAdd r b0 b0')) b → Seen (Rg P fs gs r) b ∨ b = b0' := fun ⟨x, hx⟩ => hx.imp (fun q => ⟨x, q⟩) (·.2)
theorem open_add {v w : World} (h : WR0 (Rg P fs gs r) v w) {o : Obj} (hs : Shut o) {b0' b : Nat} (hb : Open (Rg P fs gs (rAdd r v.heap.size b0')) (v.alloc o) b) : Open (Rg P fs gs r) v b := by
  obtain ⟨x, o1, hx, h1, h2⟩ := hb
  rcases hx with hx | ⟨rfl, _⟩
  · refine ⟨x, o1, hx, ?_, h2⟩
    have hd : x < v.heap.size := (h.dom x b hx).1
    have : (v.alloc o).heap[x]? = v.heap[x]? := by
      unfold World.alloc
      exact Array.getElem?_push_lt hd ▸ (by rw [Array.getElem?_eq_getElem hd])
    rw [← this]; exact h1
  · have : (v.alloc o).heap[v.heap.size]? = some o := by unfold World.alloc; simp
    rw [this] at h1
    cases h1
    exact absurd hs h2
end
section
variable {μ : Type} {P : Program} {fs gs fs1 gs1 : List Nat} {Msg : World → (Nat → Prop) → Value → μ → Prop} {Fin : Value → World → Prop} {K : World} {r : Nat → Nat → Prop} {v : World} {ch : Nat → Option (List μ)} {X : Option Nat}
theorem put_D (tm : Array Value) (D : List Deferred) (d : Option Tmp) (x : Value) : Act.put ⟨tm, D⟩ d x = ⟨(Act.put ⟨tm, D⟩ d x).tmps, D⟩ := by cases d <;> rfl
theorem MV.spawn {fn : FuncId} {ops : Array Oper} {i : Nat} {rest : List Nat} {o : Oper} {tm' : Array Value} {k : List Item} {D : List Deferred} {kd : CallKind} (hkd : kd ≠ .early) {rc : List Frame} (ho : ops[i]? = some o) (hwt : Region.wanted o (yielded ops tm') = true)
    {d : Deferred} {f : Fn} {cc : Array Value} (hd : d.target = .fn f cc) (hrun : ∀ w, (execOp (Act.eval ⟨tm', D⟩) o).run P w = .ok (.spawn d) w) (hev : ∀ w, (execOp (Act.eval ⟨tm', D⟩) o).events P w #[] = #[])
    {c : Nat} {r1 : Nat → Nat → Prop} {v1 : World} {out : List μ} (hsub : ∀ b b', r1 b b' → r b b') (hw1 : ∀ w, WR0 (Rg P fs gs r) v w → WR0 (Rg P fs1 gs1 r1) v1 w) (hsh : ∀ b b', r1 b b' → ∃ o, v.heap[b]? = some o ∧ Shut o) (hsh1 : ∀ b', ¬ Open (Rg P fs1 gs1 r1) v1 b')
    (hchild : WV P fs1 gs1 Msg r1 v1 c out (born P d)) (hn : MV P fs gs Msg Fin K r v (updc ch c (some out)) none (G (fF fn (Act.put ⟨tm', D⟩ o.dst undef).tmps (.inRegion ops rest :: k) D kd) rc)) :
    MV P fs gs Msg Fin K r v ch (some c) (G (fF fn tm' (.inRegion ops (i :: rest) :: k) D kd) rc) := fun w hk hop hw hc hX =>
  Lfp.in MSF.mono (.inr ⟨rfl, .inr (.inl fun w1 hr => by
    have hwr := hw.rely (ry_x hr)
    have hr1 : w.heap.size ≤ w1.heap.size := hr.1
    obtain ⟨q0, q1, q2, q3⟩ := x_rely hr hX c rfl
    have hk1 := ry_k hk hr
    have hst := stepG_spawn (P := P) (main := true) (b := fF fn tm' [] D kd) (a := ⟨tm', D⟩) (k := k) (cs := rc) (rest := rest) ho hwt hkd (hrun w1) hd
    have hl : listed P (fF fn tm' [] D kd).fn ⟨tm', D⟩ o w1 = #[] := by unfold listed; rw [hev]; exact seen_none P _
    rw [hl, put_D] at hst
    refine ⟨_, _, c, out, Seen (Rg P fs1 gs1 r1), Open (Rg P fs1 gs1 r1) v1, hst, .inr rfl, q1, q3, fun b ⟨x, hx⟩ => .inl ⟨x, hsub _ _ hx⟩, fun b hb => absurd hb (hsh1 b), fun ⟨x, hx⟩ => q2 ⟨x, hsub _ _ hx⟩, hchild w1 undef undef (hw1 w1 hwr), ?_⟩
    have h1 := hn w1 hk1 hop hwr (fun c' q => by
      unfold updc at q
      by_cases e : c' = c
      · rw [e]; exact (Array.getElem?_eq_some_iff.1 q1).1
      · rw [if_neg e] at q
        exact Nat.lt_of_lt_of_le (hc c' q) hr1) (fun c' q => by cases q)
    refine h1.weaken (fun b hb => ?_) (fun b hb => ?_) (fun b hb => ⟨mv_sub b hb.1, hb.2.1, hsh1 b⟩)
    · rcases hb with hb | hb | hb
      · exact ⟨.inl hb, fun e => q2 (e ▸ hb), hsh1 b⟩
      · cases hb
      · exact ⟨.inr (.inr hb), fun e => by omega, hsh1 b⟩
    · have hb : Open (Rg P fs gs r) v b := hb.resolve_right (by simp)
      refine ⟨.inl hb, fun e => q2 (e ▸ open_seen hb), fun ⟨x, hx⟩ => ?_⟩
      obtain ⟨y, oy, hy, hoy, hny⟩ := hb
      obtain ⟨ox, hox, hsx⟩ := hsh x b hx
      have hxy : x = y := hwr.inj x y b (hsub _ _ hx) hy
      subst hxy
      rw [hox] at hoy
      cases hoy
      exact hny hsx)⟩)
theorem finish_fF {fn : FuncId} {ops : Array Oper} {i : Nat} {rest : List Nat} {o : Oper} {tm' : Array Value} {k : List Item} {D : List Deferred} {kd : CallKind} (ho : ops[i]? = some o) (x : Value) :
    (fF fn tm' (.inRegion ops (i :: rest) :: k) D kd).finish x = fF fn (Act.put ⟨tm', D⟩ o.dst x).tmps (.inRegion ops rest :: k) D kd := by
  have h : (fF fn tm' (.inRegion ops (i :: rest) :: k) D kd) = (fF fn tm' [] D kd).at ⟨tm', D⟩ (.inRegion ops (i :: rest) :: k) := rfl
  rw [h, Frame.finish_at, ho]
  show (fF fn tm' [] D kd).at (Act.put ⟨tm', D⟩ o.dst x) _ = _
  rw [put_D]
  rfl
theorem MV.recv {fn : FuncId} {ops : Array Oper} {i : Nat} {rest : List Nat} {o : Oper} {tm' : Array Value} {k : List Item} {D : List Deferred} {kd : CallKind} (hkd : kd ≠ .early) {rc : List Frame} (ho : ops[i]? = some o) (hwt : Region.wanted o (yielded ops tm') = true)
    {c : Nat} {z : Value} {out : List μ} (hrun : ∀ w, (execOp (Act.eval ⟨tm', D⟩) o).run P w = .ok (.comm #[rcase c z] true (.recv true)) w) (hev : ∀ w, (execOp (Act.eval ⟨tm', D⟩) o).events P w #[] = #[]) (hch : ch c = some out)
    (h1 : ∀ y l, out = y :: l → ∀ w x Tr, Msg w Tr x y → WR0 (Rg P fs gs r) v w → (∀ b, Tr b → ¬ Seen (Rg P fs gs r) b ∧ b < w.heap.size) → ∃ r' v', WR0 (Rg P fs gs r') v' w ∧ (∀ b, Seen (Rg P fs gs r') b → Seen (Rg P fs gs r) b ∨ Tr b) ∧ (∀ b, Open (Rg P fs gs r') v' b → Open (Rg P fs gs r) v b) ∧
      MV P fs gs Msg Fin K r' v' (updc ch c (some l)) none (G (fF fn (Act.put ⟨tm', D⟩ o.dst (.tuple #[x, .bool true])).tmps (.inRegion ops rest :: k) D kd) rc))
    (h2 : out = [] → MV P fs gs Msg Fin K r v (updc ch c none) none (G (fF fn (Act.put ⟨tm', D⟩ o.dst (.tuple #[z, .bool false])).tmps (.inRegion ops rest :: k) D kd) rc)) :
    MV P fs gs Msg Fin K r v ch none (G (fF fn tm' (.inRegion ops (i :: rest) :: k) D kd) rc) := fun w hk hop hw hc _ =>
  Lfp.in MSF.mono (.inr ⟨rfl, .inr (.inr (.inl ⟨c, out, z, hch, fun w1 hr => by
    have hst := stepG_comm (P := P) (main := true) (b := fF fn tm' [] D kd) (a := ⟨tm', D⟩) (k := k) (cs := rc) (rest := rest) ho hwt hkd (hrun w1)
    have hl : listed P (fF fn tm' [] D kd).fn ⟨tm', D⟩ o w1 = #[] := by unfold listed; rw [hev]; exact seen_none P _
    rw [hl] at hst
    exact hst, fun y l e w2 x Tr hr hm hT => by
    have hr1 : w.heap.size ≤ w2.heap.size := hr.1
    have hwr := hw.rely (ry_x hr)
    have hk1 := ry_k hk hr
    obtain ⟨r', v', k1, k2, k3, k4⟩ := h1 y l e w2 x Tr hm hwr (fun b hb => ⟨fun q => (hT b hb).1 (.inl q), (hT b hb).2⟩)
    have h3 := k4 w2 hk1 (fun b hb => hop b (k3 b hb)) k1 (fun c' q => by
      unfold updc at q
      by_cases e : c' = c
      · exact Nat.lt_of_lt_of_le (hc c' (by rw [e, hch]; simp)) hr1
      · rw [if_neg e] at q
        exact Nat.lt_of_lt_of_le (hc c' q) hr1) (fun c' q => by cases q)
    have he : Go.Conc.served (Go.Conc.core (G (fF fn tm' (.inRegion ops (i :: rest) :: k) D kd) rc)) (recvd true x true) = G (fF fn (Act.put ⟨tm', D⟩ o.dst (.tuple #[x, .bool true])).tmps (.inRegion ops rest :: k) D kd) rc := by
      rw [← finish_fF ho]; rfl
    rw [he]
    refine h3.weaken (fun b hb => ?_) (fun b hb => ?_) (fun b hb => .inl (mv_sub b hb))
    · rcases hb with hb | hb | hb
      · exact (k2 b hb).imp .inl id
      · cases hb
      · exact .inl (.inr (.inr hb))
    · exact .inl (k3 b (hb.resolve_right (by simp))), fun e w2 hr => by
    have hr1 : w.heap.size ≤ w2.heap.size := hr.1
    have hwr := hw.rely (ry_x hr)
    have hk1 := ry_k hk hr
    have h3 := h2 e w2 hk1 hop hwr (fun c' q => by
      unfold updc at q
      by_cases e : c' = c
      · exact Nat.lt_of_lt_of_le (hc c' (by rw [e, hch]; simp)) hr1
      · rw [if_neg e] at q
        exact Nat.lt_of_lt_of_le (hc c' q) hr1) (fun c' q => by cases q)
    have he : Go.Conc.served (Go.Conc.core (G (fF fn tm' (.inRegion ops (i :: rest) :: k) D kd) rc)) (recvd true z false) = G (fF fn (Act.put ⟨tm', D⟩ o.dst (.tuple #[z, .bool false])).tmps (.inRegion ops rest :: k) D kd) rc := by
      rw [← finish_fF ho]; rfl
    rw [he]
    exact h3⟩))⟩)
/-- A call that goroutine 0 enters. -/
theorem MV.call {fn : FuncId} {ops : Array Oper} {i : Nat} {rest : List Nat} {o : Oper} {tm' : Array Value} {k : List Item} {D : List Deferred} {kd : CallKind} (hkd : kd ≠ .early) {rc : List Frame} (ho : ops[i]? = some o) (hwt : Region.wanted o (yielded ops tm') = true)
    {f : FuncId} {F : Func} {c : Code} {args : Array Operand} {ats : Array TypeId} (hop : o.op = .call { callee := .value (.func f), args, argTypes := ats }) (hf : P.funcs[f]? = some F) (hname : (F.name == "runtime.NumGoroutine") = false) (hb : F.body = some c)
    (hn : MV P fs gs Msg Fin K r v ch X (G (fF f (args.map (Act.eval ⟨tm', D⟩) ++ Array.replicate (F.ntmps - (args.map (Act.eval ⟨tm', D⟩)).size) undef) [.code c] [] .normal) (fF fn tm' (.inRegion ops (i :: rest) :: k) D kd :: rc))) :
    MV P fs gs Msg Fin K r v ch X (G (fF fn tm' (.inRegion ops (i :: rest) :: k) D kd) rc) := by
  refine MV.mv rfl (fun w => ?_) hn
  have hb' : F.body.isNone = false := by rw [hb]; rfl
  have h := stepG_enter (P := P) (main := true) (b := fF fn tm' [] D kd) (a := ⟨tm', D⟩) (k := k) (cs := rc) (rest := rest) (w := w) ho hwt hkd (run_call_body hop hf hname hb')
  have hl : listed P (fF fn tm' [] D kd).fn ⟨tm', D⟩ o w = #[] := by unfold listed; rw [events_call_body hop hf hname hb']; exact seen_none P _
  rw [hl, enter_at _ hf hb] at h
  exact h
/-- The return to the caller. -/
theorem MV.ret {fn : FuncId} {tm' : Array Value} {k : List Item} {F : Func} {y : Value} (hf : P.funcs[fn]? = some F) (hr : ∀ w, (results F tm').run P w = .ok y w) (he : ∀ w, (results F tm').events P w #[] = #[])
    {fn0 : FuncId} {tm0 : Array Value} {ops : Array Oper} {i : Nat} {rest : List Nat} {o : Oper} (ho : ops[i]? = some o) {k0 : List Item} {D0 : List Deferred} {kd0 : CallKind} {rc : List Frame}
    (hn : MV P fs gs Msg Fin K r v ch X (G (fF fn0 (Act.put ⟨tm0, D0⟩ o.dst y).tmps (.inRegion ops rest :: k0) D0 kd0) rc)) :
    MV P fs gs Msg Fin K r v ch X (G (fF fn tm' (.code .ret :: k) [] .normal) (fF fn0 tm0 (.inRegion ops (i :: rest) :: k0) D0 kd0 :: rc)) := by
  refine MV.mv rfl (fun w => stepG_ret' (b := fF fn tm' [] [] .normal) (a := ⟨tm', []⟩)) (MV.mv rfl (fun w => ?_) hn)
  rw [stepG_leave (b := fF fn tm' [] [] .normal) (a := ⟨tm', []⟩) rfl rfl hf (hr w) (he w), finish_fF ho]
/-- The end of all. -/
theorem MV.last {fn : FuncId} {tm' : Array Value} {k : List Item} {F : Func} {y : Value} (hf : P.funcs[fn]? = some F) (hi : P.inits.idxOf? fn = none) (hr : ∀ w, (results F tm').run P w = .ok y w) (he : ∀ w, (results F tm').events P w #[] = #[])
    (hch : ∀ c, ch c = none) (hfin : ∀ w, Kp K w → WR0 (Rg P fs gs r) v w → Fin y w) : MV P fs gs Msg Fin K r v ch none (G (fF fn tm' (.code .ret :: k) [] .normal) []) := by
  refine MV.mv rfl (fun w => stepG_ret' (b := fF fn tm' [] [] .normal) (a := ⟨tm', []⟩)) fun w hk _ hw _ _ => ?_
  refine Lfp.in MSF.mono (.inr ⟨rfl, .inr (.inr (.inr ⟨hch, fun w1 hrl => ⟨y, #[], ?_, fun e he => absurd he (by simp), hfin w1 (ry_k hk hrl) (hw.rely (ry_x hrl))⟩⟩))⟩)
  have hr' := hr w1
  have he' := he w1
  simp [G, stepG, unwind, doReturn, Frame.at, fF, hf, hr', he', hi, seen, GStep.after]
end
section
variable {μ : Type} {P : Program} {fs gs : List Nat} {Msg : World → (Nat → Prop) → Value → μ → Prop} {r : Nat → Nat → Prop} {v : World} {c : Nat} {out : List μ}
theorem WV.mv {g g' : Goroutine} (hs : g.status = .running ∧ g.offers = none) (hs' : g'.status = .running ∧ g'.offers = none) (h : ∀ w, stepG P false g w = .go g' w #[]) (hn : WV P fs gs Msg r v c out g') : WV P fs gs Msg r v c out g := fun _ _ _ hw =>
  WS.step rfl hs.1 hs.2 fun w1 hr => ⟨g', w1, #[], _, _, h w1, Gd.still fun _ => open_seen, ⟨hs'.2, hs'.1⟩, hn w1 _ _ (hw.rely hr)⟩
theorem WV.piece (hz : Zs P) (hf : fs.all (funcB P fs gs) = true) (hg : ∀ g ∈ gs, r g g) {fn : FuncId} (hin : ∃ f, P.funcs[fn]? = some f) {x : Item} (hx : itemB P fs gs x = true) {tm tm' : Array Value} (ht : XR (Rg P fs gs r) tm tm')
    {Q : Act → World → Prop} (H : ∀ τ, ∃ a' v', a'.defers = [] ∧ Q a' v' ∧ Steps P (lone (pf fn ⟨tm, []⟩ [x, mkI]) [dum] (tap τ v)) (lone (pf fn a' [mkI]) [dum] v')) {k : List Item} {D : List Deferred} {kd : CallKind} (hkd : kd ≠ .early) {rc : List Frame}
    (hn : ∀ r' v1 a x', (∀ b b', r b b' → r' b b') → XR (Rg P fs gs r') a.tmps x' → Q a v1 → WV P fs gs Msg r' v1 c out (G (fF fn x' k D kd) rc)) : WV P fs gs Msg r v c out (G (fF fn tm' (x :: k) D kd) rc) := fun w _ _ hw => by
  refine WS.of_co (Msg := Msg) (co_view hz hf hg (m := false) hin hx hw ht H k D kd hkd rc) ⟨rfl, rfl⟩ (fun s q _ => ?_)
  obtain ⟨r', v1, a, x', e, hq, hxr, hwr, hle, _, hsz, hO, hW⟩ := q
  rw [e, hO, hW]
  exact hn r' v1 a x' hle hxr hq s.w _ _ hwr
theorem WV.op (hz : Zs P) (hf : fs.all (funcB P fs gs) = true) (hg : ∀ g ∈ gs, r g g) {fn : FuncId} (hin : ∃ f, P.funcs[fn]? = some f) {ops : Array Oper} {i : Nat} {rest : List Nat} {tm tm' tm1 : Array Value} {v1 : World}
    (hx : itemB P fs gs (.inRegion ops (i :: rest)) = true) (ht : XR (Rg P fs gs r) tm tm')
    (hst : ∀ τ, ∃ es, stepG P false (G (pf fn ⟨tm, []⟩ [.inRegion ops (i :: rest), mkI]) [dum]) (tap τ v) = .go (G (pf fn ⟨tm1, []⟩ [.inRegion ops rest, mkI]) [dum]) (tap τ v1) es) {k : List Item} {D : List Deferred} {kd : CallKind} (hkd : kd ≠ .early) {rc : List Frame}
    (hn : ∀ r' x', (∀ b b', r b b' → r' b b') → XR (Rg P fs gs r') tm1 x' → WV P fs gs Msg r' v1 c out (G (fF fn x' (.inRegion ops rest :: k) D kd) rc)) : WV P fs gs Msg r v c out (G (fF fn tm' (.inRegion ops (i :: rest) :: k) D kd) rc) := fun _ _ _ hw =>
  WS.step rfl rfl rfl fun w1 hr => by
    obtain ⟨r', tm1', w2, es, h1, h2, h3, h4, _, h6⟩ := op_view hz hf hg (m := false) hin hx (hw.rely hr) ht hst k D kd hkd rc
    exact ⟨_, w2, es, _, _, h1, h6, ⟨rfl, rfl⟩, hn r' tm1' h4 h2 w2 _ _ h3⟩
/-- A worker sends; what goes over is shared from then on. -/
theorem WV.send {fn : FuncId} {ops : Array Oper} {i : Nat} {rest : List Nat} {o : Oper} {tm' : Array Value} {k : List Item} {D : List Deferred} {kd : CallKind} (hkd : kd ≠ .early) {rc : List Frame} (ho : ops[i]? = some o) (hwt : Region.wanted o (yielded ops tm') = true)
    {x' z : Value} {y : μ} {l : List μ} (hrun : ∀ w, (execOp (Act.eval ⟨tm', D⟩) o).run P w = .ok (.comm #[scase c x' z] true .send) w) (hev : ∀ w, (execOp (Act.eval ⟨tm', D⟩) o).events P w #[] = #[])
    {v2 : World} (h1 : ∀ w, WR0 (Rg P fs gs r) v w → WR0 (Rg P fs gs r) v2 w) (h2 : ∀ w, WR0 (Rg P fs gs r) v w → ∃ Tr : Nat → Prop, (∀ b, Tr b → Open (Rg P fs gs r) v b) ∧ (∀ b, Open (Rg P fs gs r) v2 b → Open (Rg P fs gs r) v b ∧ ¬ Tr b) ∧ ∀ w1, WR0 (Rg P fs gs r) v w1 → Msg w1 Tr x' y)
    (hn : WV P fs gs Msg r v2 c l (G (fF fn (Act.put ⟨tm', D⟩ o.dst undef).tmps (.inRegion ops rest :: k) D kd) rc)) : WV P fs gs Msg r v c (y :: l) (G (fF fn tm' (.inRegion ops (i :: rest) :: k) D kd) rc) := fun w _ _ hw => by
  refine Lfp.in WSF.mono (.inl ⟨rfl, rfl, rfl, .inr (.inl fun w1 hr => ?_)⟩)
  have hwr := hw.rely hr
  obtain ⟨Tr, t1, t2, t3⟩ := h2 w1 hwr
  have hst := stepG_comm (P := P) (main := false) (b := fF fn tm' [] D kd) (a := ⟨tm', D⟩) (k := k) (cs := rc) (rest := rest) ho hwt hkd (hrun w1)
  have hl : listed P (fF fn tm' [] D kd).fn ⟨tm', D⟩ o w1 = #[] := by unfold listed; rw [hev]; exact seen_none P _
  rw [hl] at hst
  refine ⟨_, x', z, hst, Lfp.in WSF.mono (.inr (.inl ⟨rfl, y, l, Tr, rfl, t1, fun w2 hr2 => ?_⟩))⟩
  have hwr2 := hwr.rely hr2
  refine ⟨t3 w2 hwr2, ?_⟩
  have he : Go.Conc.served (G ((fF fn tm' [] D kd).at ⟨tm', D⟩ (.inRegion ops (i :: rest) :: k)) rc) undef = G (fF fn (Act.put ⟨tm', D⟩ o.dst undef).tmps (.inRegion ops rest :: k) D kd) rc := by
    rw [← finish_fF ho]; rfl
  show WS P Msg ⟨Go.Conc.served (G ((fF fn tm' [] D kd).at ⟨tm', D⟩ (.inRegion ops (i :: rest) :: k)) rc) undef, w2, _, _, c, l, 0, x', z⟩
  rw [he]
  exact (hn w2 x' z (h1 w2 hwr2)).weaken (fun _ q => q) t2 (fun b hb => open_seen hb.1)
/-- A worker has sent all: it closes its channel, and leaves. -/
theorem WV.fin {g : Goroutine} (hs : g.status = .running ∧ g.offers = none) (hmw : mayWake P g = true) {g2 : Goroutine} (hs2 : g2.status = .running ∧ g2.offers = none) (hcl : ∀ w s, w.heap[c]? = some (.chan 0 #[] false s s false) → stepG P false g w = .go g2 (w.setChan c 0 #[] true s s false) (closeEs c))
    {g3 g4 : Goroutine} (h3 : ∀ w, stepG P false g2 w = .go g3 w #[]) (hs3 : g3.status = .running ∧ g3.offers = none) (h4 : ∀ w, stepG P false g3 w = .go g4 w #[]) (hs4 : g4.status = .finished ∧ g4.offers = none) : WV P fs gs Msg r v c [] g := fun _ _ _ _ => by
  refine Lfp.in WSF.mono (.inl ⟨rfl, hs.1, hs.2, .inr (.inr ⟨rfl, hmw, fun w1 s hr hc => ⟨g2, hcl w1 s hc, hs2.1, hs2.2, ?_⟩⟩)⟩)
  refine Lfp.in WSF.mono (.inr (.inr ⟨rfl, hs2.2, .inr ⟨hs2.1, g3, h3, .inl hs3.1, ?_⟩⟩))
  refine Lfp.in WSF.mono (.inr (.inr ⟨rfl, hs3.2, .inr ⟨hs3.1, g4, h4, .inr hs4.1, ?_⟩⟩))
  exact Lfp.in WSF.mono (.inr (.inr ⟨rfl, hs4.2, .inl hs4.1⟩))
end
end Go.Proofs.YtfbdgdphpdhcpaaDoor.Sm
