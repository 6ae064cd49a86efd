/-
  Scripts: workers that send over channels of their own and close them; goroutine 0, which starts them and receives. No condition.
  What is held of all together: channels, who may touch what, the trace. No condition.
-/
import Derived.Test.YtfbdgdphpdhcpaaDoorNetU
namespace Go.Proofs.YtfbdgdphpdhcpaaDoor.Sm
open Go Go.Conc

/-- A worker: its record, its world, what it may look into and write, its channel, what it is still to send; how it stands (0: it runs, 1: it waits to send x, 2: it only leaves). -/
structure WP (μ : Type) where
  g : Goroutine
  w : World
  O : Nat → Prop
  W : Nat → Prop
  c : Nat
  out : List μ
  md : Nat
  x : Value
  z : Value
/-- Goroutine 0, and what is still to come over each channel. -/
structure MP (μ : Type) where
  g : Goroutine
  w : World
  O : Nat → Prop
  W : Nat → Prop
  ch : Nat → Option (List μ)
section
variable {μ : Type} {P : Program}
def updc (ch : Nat → Option (List μ)) (c : Nat) (y : Option (List μ)) : Nat → Option (List μ) := fun d => if d = c then y else ch d
def closeEs (c : Nat) : Array Event := #[⟨.obj c, false, true⟩, ⟨.obj c, true, true⟩]
/-- One step of a worker's script. -/
def WSF (P : Program) (Msg : World → (Nat → Prop) → Value → μ → Prop) (X : WP μ → Prop) (p : WP μ) : Prop :=
  (p.md = 0 ∧ p.g.status = .running ∧ p.g.offers = none ∧
    ((∀ w1, Ry p.O p.w w1 → ∃ g2 w2 es O2 W2, stepG P false p.g w1 = .go g2 w2 es ∧ Gd p.O p.W O2 W2 w1 w2 es ∧ g2.offers = none ∧ g2.status = .running ∧ X { p with g := g2, w := w2, O := O2, W := W2 }) ∨
     (∀ w1, Ry p.O p.w w1 → ∃ g2 x z, stepG P false p.g w1 = .comm g2 #[scase p.c x z] true .send w1 #[] ∧ X { p with g := g2, w := w1, md := 1, x := x, z := z }) ∨
     (p.out = [] ∧ mayWake P p.g = true ∧ ∀ w1 s, Ry p.O p.w w1 → w1.heap[p.c]? = some (.chan 0 #[] false s s false) → ∃ g2, stepG P false p.g w1 = .go g2 (w1.setChan p.c 0 #[] true s s false) (closeEs p.c) ∧ g2.status = .running ∧ g2.offers = none ∧ X { p with g := g2, w := w1, O := fun _ => False, W := fun _ => False, md := 2 }))) ∨
  (p.md = 1 ∧ ∃ o rest Tr, p.out = o :: rest ∧ (∀ b, Tr b → p.W b) ∧ ∀ w1, Ry p.O p.w w1 → Msg w1 Tr p.x o ∧ X { p with g := Go.Conc.served p.g undef, w := w1, W := fun b => p.W b ∧ ¬ Tr b, out := rest, md := 0 }) ∨
  (p.md = 2 ∧ p.g.offers = none ∧ (p.g.status = .finished ∨ (p.g.status = .running ∧ ∃ g2, (∀ w1, stepG P false p.g w1 = .go g2 w1 #[]) ∧ (g2.status = .running ∨ g2.status = .finished) ∧ X { p with g := g2 })))
theorem WSF.mono {Msg : World → (Nat → Prop) → Value → μ → Prop} : ∀ X Y : WP μ → Prop, (∀ a, X a → Y a) → ∀ a, WSF P Msg X a → WSF P Msg Y a := by
  intro X Y h p q
  rcases q with ⟨q0, q1, q2, q⟩ | ⟨q0, o, rest, Tr, q1, q2, q⟩ | ⟨q0, q1, q⟩
  · refine .inl ⟨q0, q1, q2, ?_⟩
    rcases q with q | q | ⟨q3, q4, q⟩
    · refine .inl fun w1 hw => ?_
      obtain ⟨g2, w2, es, O2, W2, a, b, c, d, e⟩ := q w1 hw
      exact ⟨g2, w2, es, O2, W2, a, b, c, d, h _ e⟩
    · refine .inr (.inl fun w1 hw => ?_)
      obtain ⟨g2, x, z, a, b⟩ := q w1 hw
      exact ⟨g2, x, z, a, h _ b⟩
    · refine .inr (.inr ⟨q3, q4, fun w1 s hw hc => ?_⟩)
      obtain ⟨g2, a, b, c, d⟩ := q w1 s hw hc
      exact ⟨g2, a, b, c, h _ d⟩
  · exact .inr (.inl ⟨q0, o, rest, Tr, q1, q2, fun w1 hw => ⟨(q w1 hw).1, h _ (q w1 hw).2⟩⟩)
  · refine .inr (.inr ⟨q0, q1, ?_⟩)
    rcases q with q | ⟨q2, g2, a, b, c⟩
    · exact .inl q
    · exact .inr ⟨q2, g2, a, b, h _ c⟩
/-- A worker's whole script. -/
abbrev WS (P : Program) (Msg : World → (Nat → Prop) → Value → μ → Prop) (p : WP μ) : Prop := Lfp (WSF P Msg) p
/-- One step of goroutine 0's script. -/
def MSF (P : Program) (Msg : World → (Nat → Prop) → Value → μ → Prop) (Fin : Value → World → Prop) (Stop : MP μ → Prop) (X : MP μ → Prop) (s : MP μ) : Prop :=
  (∀ w1, Ry s.O s.w w1 → Stop { s with w := w1 }) ∨
  (s.g.status = .running ∧
    ((∀ w1, Ry s.O s.w w1 → ∃ g2 w2 es O2 W2, stepG P true s.g w1 = .go g2 w2 es ∧ Gd s.O s.W O2 W2 w1 w2 es ∧ X { s with g := g2, w := w2, O := O2, W := W2 }) ∨
     (∀ w1, Ry s.O s.w w1 → ∃ g2 child c out Oc Wc, stepG P true s.g w1 = .spawn g2 child w1 #[] ∧ s.W c ∧ w1.heap[c]? = some (.chan 0 #[] false 0 0 false) ∧ s.ch c = none ∧
       (∀ b, Oc b → s.O b) ∧ (∀ b, Wc b → s.W b ∧ Oc b) ∧ ¬ Oc c ∧ WS P Msg ⟨child, w1, Oc, Wc, c, out, 0, undef, undef⟩ ∧
       X ⟨g2, w1, fun b => s.O b ∧ b ≠ c ∧ ¬ Wc b, fun b => s.W b ∧ b ≠ c ∧ ¬ Oc b, updc s.ch c (some out)⟩) ∨
     (∃ c out z, s.ch c = some out ∧ (∀ w1, Ry s.O s.w w1 → stepG P true s.g w1 = .comm (Go.Conc.core s.g) #[rcase c z] true (.recv true) w1 #[]) ∧
       (∀ o rest, out = o :: rest → ∀ w2 x Tr, Ry s.O s.w w2 → Msg w2 Tr x o → (∀ b, Tr b → ¬ s.O b ∧ b < w2.heap.size) → X ⟨Go.Conc.served (Go.Conc.core s.g) (recvd true x true), w2, fun b => s.O b ∨ Tr b, s.W, updc s.ch c (some rest)⟩) ∧
       (out = [] → ∀ w2, Ry s.O s.w w2 → X ⟨Go.Conc.served (Go.Conc.core s.g) (recvd true z false), w2, s.O, s.W, updc s.ch c none⟩)) ∨
     ((∀ c, s.ch c = none) ∧ ∀ w1, Ry s.O s.w w1 → ∃ v es, stepG P true s.g w1 = .ended (.done v) w1 es ∧ (∀ e ∈ es, EvG s.O s.W e) ∧ Fin v w1)))
theorem MSF.mono {Msg : World → (Nat → Prop) → Value → μ → Prop} {Fin : Value → World → Prop} {Stop : MP μ → Prop} : ∀ X Y : MP μ → Prop, (∀ a, X a → Y a) → ∀ a, MSF P Msg Fin Stop X a → MSF P Msg Fin Stop Y a := by
  intro X Y h s q
  rcases q with q | ⟨q0, q⟩
  · exact .inl q
  · refine .inr ⟨q0, ?_⟩
    rcases q with q | q | ⟨c, out, z, q1, q2, q3, q4⟩ | q
    · refine .inl fun w1 hw => ?_
      obtain ⟨g2, w2, es, O2, W2, a, b, c⟩ := q w1 hw
      exact ⟨g2, w2, es, O2, W2, a, b, h _ c⟩
    · refine .inr (.inl fun w1 hw => ?_)
      obtain ⟨g2, child, c, out, Oc, Wc, a1, a2, a3, a4, a5, a6, a7, a8, a9⟩ := q w1 hw
      exact ⟨g2, child, c, out, Oc, Wc, a1, a2, a3, a4, a5, a6, a7, a8, h _ a9⟩
    · exact .inr (.inr (.inl ⟨c, out, z, q1, q2, fun o rest e w2 x Tr a b d => h _ (q3 o rest e w2 x Tr a b d), fun e w2 a => h _ (q4 e w2 a)⟩))
    · exact .inr (.inr (.inr q))
abbrev MS (P : Program) (Msg : World → (Nat → Prop) → Value → μ → Prop) (Fin : Value → World → Prop) (Stop : MP μ → Prop) (s : MP μ) : Prop := Lfp (MSF P Msg Fin Stop) s
/-- One script behind the other. -/
theorem MS.then {Msg : World → (Nat → Prop) → Value → μ → Prop} {Fin : Value → World → Prop} {Stop Stop' : MP μ → Prop} {s : MP μ} (h : MS P Msg Fin Stop s) (hn : ∀ s, Stop s → MS P Msg Fin Stop' s) : MS P Msg Fin Stop' s := by
  refine Lfp.ind MSF.mono (C := fun s => MS P Msg Fin Stop' s) (fun s q => ?_) h
  rcases q with q | q
  · have h0 : Ry s.O s.w s.w := ⟨Nat.le_refl _, fun _ _ => rfl, rfl, rfl⟩
    exact hn _ (q s.w h0)
  · have : MSF P Msg Fin Stop' (fun b => Lfp (MSF P Msg Fin Stop) b ∧ MS P Msg Fin Stop' b) s := .inr q
    exact Lfp.in MSF.mono (MSF.mono _ _ (fun _ q => q.2) s this)
/-- Several scripts, each a step further in turn. -/
theorem fam {α : Type} {F : (α → Prop) → α → Prop} (mono : ∀ X Y : α → Prop, (∀ a, X a → Y a) → ∀ a, F X a → F Y a) {C : (Nat → α) → Prop} :
    ∀ (n : Nat), (∀ p : Nat → α, (∀ i, i < n → Lfp F (p i)) → (∀ i, i < n → F (fun y => Lfp F y ∧ C (fun j => if j = i then y else p j)) (p i)) → C p) → ∀ p : Nat → α, (∀ i, i < n → Lfp F (p i)) → C p := by
  intro n
  induction n generalizing C with
  | zero => intro hs p _; exact hs p (fun i hi => absurd hi (Nat.not_lt_zero _)) (fun i hi => absurd hi (Nat.not_lt_zero _))
  | succ n ih =>
    intro hs p hp
    have key : ∀ a, Lfp F a → ∀ p : Nat → α, p n = a → (∀ i, i < n → Lfp F (p i)) → C p := by
      intro a ha
      refine Lfp.ind mono (C := fun a => ∀ p : Nat → α, p n = a → (∀ i, i < n → Lfp F (p i)) → C p) (fun a hFa => ?_) ha
      have haa : Lfp F a := Lfp.in mono (mono _ _ (fun _ q => q.1) a hFa)
      intro p hpn hpi
      refine ih (C := fun p => p n = a → C p) (fun p hT hF hpn => ?_) p hpi hpn
      have hT' : ∀ i, i < n + 1 → Lfp F (p i) := fun i hi => by
        rcases Nat.lt_or_ge i n with q | q
        · exact hT i q
        · have : i = n := by omega
          rw [this, hpn]; exact haa
      refine hs p hT' fun i hi => ?_
      rcases Nat.lt_or_ge i n with q | q
      · refine mono _ _ (fun y hy => ⟨hy.1, hy.2 ?_⟩) _ (hF i q)
        show (if n = i then y else p n) = a
        rw [if_neg (by omega)]; exact hpn
      · have e : i = n := by omega
        rw [e, hpn]
        refine mono _ _ (fun y hy => ⟨hy.1, hy.2 _ ?_ fun j hj => ?_⟩) _ hFa
        · show (if n = n then y else p n) = y
          rw [if_pos rfl]
        · show Lfp F (if j = n then y else p j)
          rw [if_neg (by omega)]
          exact hT j hj
    exact key (p n) (hp n (Nat.lt_succ_self _)) p rfl fun i hi => hp i (by omega)
end
end Go.Proofs.YtfbdgdphpdhcpaaDoor.Sm
namespace Go.Proofs.YtfbdgdphpdhcpaaDoor.Sm
open Go Go.Conc

section
variable {μ : Type}
def OOf (s : MP μ) (n : Nat) (wp : Nat → WP μ) (Act : Nat → Prop) (i b : Nat) : Prop := (i = 0 ∧ s.O b) ∨ ∃ k, k < n ∧ i = k + 1 ∧ ((wp k).O b ∨ (Act k ∧ (wp k).md ≠ 2 ∧ b = (wp k).c))
def WWf (s : MP μ) (n : Nat) (wp : Nat → WP μ) (Act : Nat → Prop) (i b : Nat) : Prop := (i = 0 ∧ s.W b) ∨ ∃ k, k < n ∧ i = k + 1 ∧ ((wp k).W b ∨ (Act k ∧ (wp k).md ≠ 2 ∧ b = (wp k).c))
def AcF (n : Nat) (Act : Nat → Prop) (g : Nat) : Prop := ∃ k, k < n ∧ g = k + 1 ∧ Act k
structure NC (s : MP μ) (n : Nat) (wp : Nat → WP μ) (w : World) (t : Trace) (Act : Nat → Prop) : Prop where
  ry0 : Ry s.O s.w w
  wr : ∀ i, i < n → Ry (wp i).O (wp i).w w
  ch1 : ∀ i, i < n → Act i → s.ch (wp i).c = some (wp i).out ∧ (wp i).c < w.heap.size ∧ ∃ sn, w.heap[(wp i).c]? = some (.chan 0 #[] (decide ((wp i).md = 2)) sn sn false)
  ch2 : ∀ c out, s.ch c = some out → ∃ i, i < n ∧ Act i ∧ (wp i).c = c
  chd : ∀ i j, i < n → j < n → Act i → Act j → (wp i).c = (wp j).c → i = j
  act : ∀ i, i < n → ¬ Act i → (wp i).md = 2
  cl : ∀ i, i < n → Act i → (wp i).md = 2 → (wp i).out = [] ∧ ClosedBy t (i + 1) (wp i).c
  lim0 : ∀ b, s.O b → b < w.heap.size
  limw : ∀ i, i < n → ∀ b, (wp i).O b → b < w.heap.size
  sub0 : ∀ b, s.W b → s.O b
  subw : ∀ i, i < n → ∀ b, (wp i).W b → (wp i).O b
  d0 : ∀ i, i < n → ∀ b, s.W b → ¬ (wp i).O b
  d1 : ∀ i, i < n → ∀ b, (wp i).W b → ¬ s.O b
  d2 : ∀ i j, i < n → j < n → i ≠ j → ∀ b, (wp i).W b → ¬ (wp j).O b
  c0 : ∀ i, i < n → Act i → ¬ s.O (wp i).c
  cw : ∀ i j, i < n → j < n → Act i → ¬ (wp j).O (wp i).c
  ti : TI t w.heap.size (OOf s n wp Act) (WWf s n wp Act) (AcF n Act)
variable {s : MP μ} {n : Nat} {wp : Nat → WP μ} {w : World} {t : Trace} {Act : Nat → Prop}
theorem Ry.gd {O W O2 W2 O' : Nat → Prop} {u w w2 : World} {es : Array Event} (h : Ry O' u w) (hg : Gd O W O2 W2 w w2 es) (hd : ∀ b, O' b → ¬ W b) (hl : ∀ b, O' b → b < w.heap.size) : Ry O' u w2 :=
  ⟨Nat.le_trans h.1 hg.size, fun b hb => (hg.kept b (hl b hb) (hd b hb)).trans (h.2.1 b hb), hg.os.1.trans h.2.2.1, hg.os.2.1.trans h.2.2.2⟩
theorem Ry.refl (O : Nat → Prop) (w : World) : Ry O w w := ⟨Nat.le_refl _, fun _ _ => rfl, rfl, rfl⟩
theorem of_events {O2 W2 : Nat → Prop} {es : Array Event} (h : ∀ e ∈ es, EvG O2 W2 e) {N : Nat} (hO : ∀ b, O2 b → b < N) (g : Nat) (fn : FuncId) (pos : String) :
    (∀ op ∈ MemOp.ofEvents g fn pos es, op.g = g) ∧ (∀ op ∈ MemOp.ofEvents g fn pos es, ∀ a, op.act.touch? = some a → ∃ b, blk a.loc b ∧ (∀ b', blk a.loc b' → b' = b) ∧ O2 b ∧ (a.write = true → W2 b)) ∧
    (∀ op ∈ MemOp.ofEvents g fn pos es, op.act.low N) ∧ Wordless (MemOp.ofEvents g fn pos es) := by
  refine ⟨fun op ho => ?_, fun op ho a ha => ?_, fun op ho => ?_, fun op ho m hm => ?_⟩ <;> obtain ⟨e, he, rfl⟩ := Go.Conc.mem_ofEvents ho
  · rfl
  · exact evg_touch (h e he) ha
  · exact evg_low (h e he) hO
  · exact evg_word (h e he) m hm
/-- Goroutine 0 takes a step of its own. -/
theorem NC.own0 (h : NC s n wp w t Act) {g2 : Goroutine} {w2 : World} {es : Array Event} {O2 W2 : Nat → Prop} (hg : Gd s.O s.W O2 W2 w w2 es) (fn : FuncId) (pos : String) :
    NC { s with g := g2, w := w2, O := O2, W := W2 } n wp w2 (t ++ MemOp.ofEvents 0 fn pos es) Act := by
  have hO2 : ∀ b, O2 b → b < w2.heap.size := fun b hb => by
    rcases hg.newO b hb with q | q
    · have := h.lim0 b q; have := hg.size; omega
    · exact q.2
  obtain ⟨e1, e2, e3, e4⟩ := of_events hg.evs hO2 0 fn pos
  have hcell : ∀ i, i < n → Act i → w2.heap[(wp i).c]? = w.heap[(wp i).c]? := fun i hi ha => hg.kept _ (h.ch1 i hi ha).2.1 fun q => h.c0 i hi ha (h.sub0 _ q)
  refine ⟨Ry.refl _ _, fun i hi => (h.wr i hi).gd hg (fun b hb q => h.d0 i hi b q hb) (h.limw i hi), fun i hi ha => ?_, h.ch2, h.chd, h.act, fun i hi ha hm => ?_, hO2, fun i hi b hb => Nat.lt_of_lt_of_le (h.limw i hi b hb) hg.size, hg.sub, h.subw,
    fun i hi b hb q => ?_, fun i hi b hb q => ?_, h.d2, fun i hi ha q => ?_, h.cw, ?_⟩
  · obtain ⟨a, b, sn, c⟩ := h.ch1 i hi ha
    exact ⟨a, Nat.lt_of_lt_of_le b hg.size, sn, by rw [hcell i hi ha]; exact c⟩
  · exact ⟨(h.cl i hi ha hm).1, (h.cl i hi ha hm).2.app fun op ho hgi => by rw [e1 op ho] at hgi; omega⟩
  · rcases hg.newW b hb with z | z
    · exact h.d0 i hi b z q
    · have := h.limw i hi b q; omega
  · rcases hg.newO b q with z | z
    · exact h.d1 i hi b hb z
    · have := h.limw i hi b (h.subw i hi b hb); omega
  · rcases hg.newO _ q with z | z
    · exact h.c0 i hi ha z
    · have := (h.ch1 i hi ha).2.1; omega
  · have h1 := h.ti.own (N' := w2.heap.size) hg.size e1 e2 e3 e4 (fun b hb => (hg.newO b hb).imp (fun z => .inl ⟨rfl, z⟩) (·.1)) (fun b hb => (hg.newW b hb).imp (fun z => .inl ⟨rfl, z⟩) (·.1))
      (fun j hj b hb q => by
        rcases q with ⟨q, _⟩ | ⟨k, hk, rfl, q⟩
        · exact hj q
        · rcases hg.newO b hb with z | z
          · rcases q with q | ⟨ha, _, rfl⟩
            · exact h.d1 k hk b q z
            · exact h.c0 k hk ha z
          · rcases q with q | ⟨ha, _, rfl⟩
            · have := h.limw k hk b (h.subw k hk b q); omega
            · have := (h.ch1 k hk ha).2.1; omega)
      (fun j hj b hb q => by
        rcases q with ⟨q, _⟩ | ⟨k, hk, rfl, q⟩
        · exact hj q
        · rcases hg.newW b hb with z | z
          · rcases q with q | ⟨ha, _, rfl⟩
            · exact h.d0 k hk b z q
            · exact h.c0 k hk ha (h.sub0 _ z)
          · rcases q with q | ⟨ha, _, rfl⟩
            · have := h.limw k hk b q; omega
            · have := (h.ch1 k hk ha).2.1; omega)
      (fun z => absurd rfl z)
    refine h1.less (Nat.le_refl _) (fun i b hb => .inl ?_) (fun i b hb => .inl ?_) (fun _ q => q)
    · rcases hb with ⟨rfl, hb⟩ | ⟨k, hk, rfl, hb⟩
      · simp only [if_true]; exact hb
      · simp only [if_neg (Nat.succ_ne_zero k)]; exact .inr ⟨k, hk, rfl, hb⟩
    · rcases hb with ⟨rfl, hb⟩ | ⟨k, hk, rfl, hb⟩
      · simp only [if_true]; exact hb
      · simp only [if_neg (Nat.succ_ne_zero k)]; exact .inr ⟨k, hk, rfl, hb⟩
def updw (wp : Nat → WP μ) (i : Nat) (y : WP μ) : Nat → WP μ := fun j => if j = i then y else wp j
theorem updw_same (wp : Nat → WP μ) (i : Nat) (y : WP μ) : updw wp i y i = y := if_pos rfl
theorem updw_ne (wp : Nat → WP μ) {i j : Nat} (y : WP μ) (h : j ≠ i) : updw wp i y j = wp j := if_neg h
/-- A worker takes a step of its own. -/
theorem NC.ownw (h : NC s n wp w t Act) {i : Nat} (hi : i < n) (hA : Act i) {g2 : Goroutine} {w2 : World} {es : Array Event} {O2 W2 : Nat → Prop} (hmd : (wp i).md = 0) (hg : Gd (wp i).O (wp i).W O2 W2 w w2 es) (fn : FuncId) (pos : String) :
    NC s n (updw wp i { wp i with g := g2, w := w2, O := O2, W := W2 }) w2 (t ++ MemOp.ofEvents (i + 1) fn pos es) Act := by
  have hO2 : ∀ b, O2 b → b < w2.heap.size := fun b hb => by
    rcases hg.newO b hb with q | q
    · have := h.limw i hi b q; have := hg.size; omega
    · exact q.2
  obtain ⟨e1, e2, e3, e4⟩ := of_events hg.evs hO2 (i + 1) fn pos
  have hcell : ∀ j, j < n → Act j → w2.heap[(wp j).c]? = w.heap[(wp j).c]? := fun j hj ha => hg.kept _ (h.ch1 j hj ha).2.1 fun q => h.cw j i hj hi ha (h.subw i hi _ q)
  have hc : ∀ j, (updw wp i { wp i with g := g2, w := w2, O := O2, W := W2 } j).c = (wp j).c ∧ (updw wp i { wp i with g := g2, w := w2, O := O2, W := W2 } j).out = (wp j).out ∧ (updw wp i { wp i with g := g2, w := w2, O := O2, W := W2 } j).md = (wp j).md := fun j => by
    by_cases e : j = i
    · subst e; rw [updw_same]; exact ⟨rfl, rfl, rfl⟩
    · rw [updw_ne _ _ e]; exact ⟨rfl, rfl, rfl⟩
  generalize hwp : updw wp i { wp i with g := g2, w := w2, O := O2, W := W2 } = wq at hc
  have hsame : wq i = { wp i with g := g2, w := w2, O := O2, W := W2 } := by rw [← hwp, updw_same]
  have hne : ∀ j, j ≠ i → wq j = wp j := fun j e => by rw [← hwp, updw_ne _ _ e]
  refine ⟨h.ry0.gd hg (fun b hb q => h.d1 i hi b q hb) h.lim0, fun j hj => ?_, fun j hj ha => ?_, fun c out q => ?_, fun j k hj hk ha hb => ?_, fun j hj ha => ?_, fun j hj ha hm => ?_, fun b hb => Nat.lt_of_lt_of_le (h.lim0 b hb) hg.size, fun j hj b hb => ?_, h.sub0, fun j hj b hb => ?_,
    fun j hj b hb q => ?_, fun j hj b hb q => ?_, fun j k hj hk hjk b hb q => ?_, fun j hj ha q => ?_, fun j k hj hk ha q => ?_, ?_⟩
  · by_cases e : j = i
    · subst e; rw [hsame]; exact Ry.refl _ _
    · rw [hne j e]; exact (h.wr j hj).gd hg (fun b hb q => h.d2 i j hi hj (Ne.symm e) b q hb) (h.limw j hj)
  · obtain ⟨a, b, sn, c⟩ := h.ch1 j hj ha
    rw [(hc j).1, (hc j).2.1, (hc j).2.2]
    exact ⟨a, Nat.lt_of_lt_of_le b hg.size, sn, by rw [hcell j hj ha]; exact c⟩
  · obtain ⟨k, a, b, c⟩ := h.ch2 c out q
    exact ⟨k, a, b, (hc k).1.trans c⟩
  · rw [(hc j).1, (hc k).1]; exact h.chd j k hj hk ha hb
  · rw [(hc j).2.2]; exact h.act j hj ha
  · rw [(hc j).2.2] at hm
    rw [(hc j).1, (hc j).2.1]
    have e : j ≠ i := fun e => by subst e; rw [hmd] at hm; cases hm
    exact ⟨(h.cl j hj ha hm).1, (h.cl j hj ha hm).2.app fun op ho hgi => by rw [e1 op ho] at hgi; exact absurd hgi (by omega)⟩
  · by_cases e : j = i
    · subst e; rw [hsame] at hb; exact hO2 b hb
    · rw [hne j e] at hb; exact Nat.lt_of_lt_of_le (h.limw j hj b hb) hg.size
  · by_cases e : j = i
    · subst e; rw [hsame] at hb ⊢; exact hg.sub b hb
    · rw [hne j e] at hb ⊢; exact h.subw j hj b hb
  · by_cases e : j = i
    · subst e
      rw [hsame] at q
      rcases hg.newO b q with z | z
      · exact h.d0 j hj b hb z
      · have := h.lim0 b (h.sub0 b hb); omega
    · rw [hne j e] at q; exact h.d0 j hj b hb q
  · by_cases e : j = i
    · subst e
      rw [hsame] at hb
      rcases hg.newW b hb with z | z
      · exact h.d1 j hj b z q
      · have := h.lim0 b q; omega
    · rw [hne j e] at hb; exact h.d1 j hj b hb q
  · by_cases e : j = i
    · subst e
      rw [hsame] at hb
      rw [hne k (Ne.symm hjk)] at q
      rcases hg.newW b hb with z | z
      · exact h.d2 j k hj hk hjk b z q
      · have := h.limw k hk b q; omega
    · rw [hne j e] at hb
      by_cases e' : k = i
      · subst e'
        rw [hsame] at q
        rcases hg.newO b q with z | z
        · exact h.d2 j k hj hk hjk b hb z
        · have := h.limw j hj b (h.subw j hj b hb); omega
      · rw [hne k e'] at q; exact h.d2 j k hj hk hjk b hb q
  · rw [(hc j).1] at q; exact h.c0 j hj ha q
  · rw [(hc j).1] at q
    by_cases e : k = i
    · subst e
      rw [hsame] at q
      rcases hg.newO _ q with z | z
      · exact h.cw j k hj hk ha z
      · have := (h.ch1 j hj ha).2.1; omega
    · rw [hne k e] at q; exact h.cw j k hj hk ha q
  · have h1 := h.ti.own (N' := w2.heap.size) hg.size (O' := fun b => O2 b ∨ b = (wp i).c) (W' := fun b => W2 b ∨ b = (wp i).c) e1 (fun op ho a ha => by
        obtain ⟨b, q1, q2, q3, q4⟩ := e2 op ho a ha
        exact ⟨b, q1, q2, .inl q3, fun z => .inl (q4 z)⟩) e3 e4
      (fun b hb => by
        rcases hb with hb | rfl
        · exact (hg.newO b hb).imp (fun z => .inr ⟨i, hi, rfl, .inl z⟩) (·.1)
        · exact .inl (.inr ⟨i, hi, rfl, .inr ⟨hA, by rw [hmd]; decide, rfl⟩⟩))
      (fun b hb => by
        rcases hb with hb | rfl
        · exact (hg.newW b hb).imp (fun z => .inr ⟨i, hi, rfl, .inl z⟩) (·.1)
        · exact .inl (.inr ⟨i, hi, rfl, .inr ⟨hA, by rw [hmd]; decide, rfl⟩⟩))
      (fun j hj b hb q => by
        rcases q with ⟨rfl, q⟩ | ⟨k, hk, rfl, q⟩
        · rcases hb with hb | rfl
          · rcases hg.newO b hb with z | z
            · exact h.d0 i hi b q z
            · have := h.lim0 b (h.sub0 b q); omega
          · exact h.c0 i hi hA (h.sub0 _ q)
        · have hki : k ≠ i := fun e => hj (by rw [e])
          rcases hb with hb | rfl
          · rcases hg.newO b hb with z | z
            · rcases q with q | ⟨ha, _, rfl⟩
              · exact h.d2 k i hk hi hki b q z
              · exact h.cw k i hk hi ha z
            · rcases q with q | ⟨ha, _, rfl⟩
              · have := h.limw k hk b (h.subw k hk b q); omega
              · have := (h.ch1 k hk ha).2.1; omega
          · rcases q with q | ⟨ha, _, e⟩
            · exact h.cw i k hi hk hA (h.subw k hk _ q)
            · exact hki (h.chd k i hk hi ha hA e.symm))
      (fun j hj b hb q => by
        rcases q with ⟨rfl, q⟩ | ⟨k, hk, rfl, q⟩
        · rcases hb with hb | rfl
          · rcases hg.newW b hb with z | z
            · exact h.d1 i hi b z q
            · have := h.lim0 b q; omega
          · exact h.c0 i hi hA q
        · have hki : k ≠ i := fun e => hj (by rw [e])
          rcases hb with hb | rfl
          · rcases hg.newW b hb with z | z
            · rcases q with q | ⟨ha, _, rfl⟩
              · exact h.d2 i k hi hk (Ne.symm hki) b z q
              · exact h.cw k i hk hi ha (h.subw i hi _ z)
            · rcases q with q | ⟨ha, _, rfl⟩
              · have := h.limw k hk b q; omega
              · have := (h.ch1 k hk ha).2.1; omega
          · rcases q with q | ⟨ha, _, e⟩
            · exact h.cw i k hi hk hA q
            · exact hki (h.chd k i hk hi ha hA e.symm))
      (fun _ => ⟨i, hi, rfl, hA⟩)
    refine h1.less (Nat.le_refl _) (fun j b hb => .inl ?_) (fun j b hb => .inl ?_) (fun _ q => q)
    · rcases hb with ⟨rfl, hb⟩ | ⟨k, hk, rfl, hb⟩
      · simp only [if_neg (Nat.succ_ne_zero i).symm]; exact .inl ⟨rfl, hb⟩
      · by_cases e : k = i
        · subst e
          simp only [if_true]
          rw [hsame] at hb
          exact hb.imp id fun z => z.2.2
        · simp only [if_neg (show ¬ (k + 1 = i + 1) by omega)]
          rw [hne k e] at hb
          exact .inr ⟨k, hk, rfl, hb⟩
    · rcases hb with ⟨rfl, hb⟩ | ⟨k, hk, rfl, hb⟩
      · simp only [if_neg (Nat.succ_ne_zero i).symm]; exact .inl ⟨rfl, hb⟩
      · by_cases e : k = i
        · subst e
          simp only [if_true]
          rw [hsame] at hb
          exact hb.imp id fun z => z.2.2
        · simp only [if_neg (show ¬ (k + 1 = i + 1) by omega)]
          rw [hne k e] at hb
          exact .inr ⟨k, hk, rfl, hb⟩
end
end Go.Proofs.YtfbdgdphpdhcpaaDoor.Sm
