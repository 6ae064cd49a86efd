/-
  What a go statement, a meeting at a channel, a close and its notice make of what is known. No condition.
  Scripts: workers that send over channels of their own and close them; goroutine 0, which starts them and receives. No condition.
-/
import Derived.Test.YtfbdgdphpdhcpaaDoorNetT
namespace Go.Proofs.YtfbdgdphpdhcpaaDoor.Sm
open Go Go.Conc

section
variable {t : Trace} {N : Nat} {O W : Nat → Nat → Prop} {Act : Nat → Prop}
theorem at_end (t : Trace) (u : Trace) (j : Nat) (x : MemOp) (h : u[j]? = some x) : (t ++ u)[t.size + j]? = some x := by
  rw [Array.getElem?_append_right (by omega)]
  rw [show t.size + j - t.size = j by omega]; exact h
/-- A go statement: the child knows what goroutine 0 knew. -/
theorem TI.spawn (h : TI t N O W Act) {n : Nat} {fn fn' : FuncId} {pos pos' : String} {O' W' : Nat → Nat → Prop}
    (hO : ∀ j b, O' j b → O j b ∨ (j = n ∧ O 0 b)) (hW : ∀ j b, W' j b → W j b ∨ (j = n ∧ W 0 b)) :
    TI (t ++ #[{ g := 0, fn := fn, pos := pos, act := .go n }, { g := n, fn := fn', pos := pos', act := .start }]) N O' W' Act := by
  have hu : ∀ op ∈ (#[{ g := 0, fn := fn, pos := pos, act := .go n }, { g := n, fn := fn', pos := pos', act := .start }] : Trace), op.act.touch? = none ∧ op.act.low N ∧ ∀ m, op.act = .mark m → Neutral m := by
    intro op ho
    simp only [List.mem_toArray, List.mem_cons, List.not_mem_nil, or_false] at ho
    rcases ho with rfl | rfl <;> exact ⟨rfl, trivial, fun m q => by cases q⟩
  have h1 := h.still (fun op ho => (hu op ho).1) (fun op ho => (hu op ho).2.1) (fun op ho => (hu op ho).2.2)
  have hkn : ∀ k, Knows t 0 k → Knows (t ++ #[{ g := 0, fn := fn, pos := pos, act := .go n }, { g := n, fn := fn', pos := pos', act := .start }]) n k := fun k hk => by
    have e0 := at_end t #[{ g := 0, fn := fn, pos := pos, act := .go n }, { g := n, fn := fn', pos := pos', act := .start }] 0 _ rfl
    have e1 := at_end t #[{ g := 0, fn := fn, pos := pos, act := .go n }, { g := n, fn := fn', pos := pos', act := .start }] 1 _ rfl
    refine ⟨t.size + 1, _, e1, rfl, .inr ((hk.hb_new (Nat.le_refl _) e0 rfl).trans (.single (.inr ⟨.spawn (child := n) (act?_of e0) (act?_of e1) (by simp [Trace.g?]), h1.words.heard e0, h1.words.heard e1⟩)))⟩
  refine ⟨h1.clean, h1.low, h1.words, fun i k a hta ⟨b, hb, hp⟩ => ?_, h1.ov⟩
  have hold : ∀ {i : Nat}, (W i b ∨ (O i b ∧ a.write = true)) → Knows t i k := fun {i} q => by
    obtain ⟨op, ho, hoa⟩ := touch_of hta
    rcases getElem?_append_cases ho with ⟨_, ho'⟩ | ⟨_, hou⟩
    · exact h.kn i k a (by rw [touchAt_of ho']; exact hoa) ⟨b, hb, q⟩
    · rw [(hu op hou).1] at hoa; cases hoa
  rcases hp with q | ⟨q, r⟩
  · rcases hW i b q with z | ⟨rfl, z⟩
    · exact (hold (.inl z)).app _
    · exact hkn k (hold (.inl z))
  · rcases hO i b q with z | ⟨rfl, z⟩
    · exact (hold (.inr ⟨z, r⟩)).app _
    · exact hkn k (hold (.inr ⟨z, r⟩))
/-- A worker's value goes over to goroutine 0, and with it what the worker knows. -/
theorem TI.meet (h : TI t N O W Act) {i c s cap : Nat} {fn fn' : FuncId} {pos pos' : String} (hc : c < N) {O' W' : Nat → Nat → Prop}
    (hO : ∀ j b, O' j b → O j b ∨ (j = 0 ∧ W i b)) (hW : ∀ j b, W' j b → W j b ∨ (j = 0 ∧ W i b)) :
    TI (t ++ #[{ g := i, fn := fn, pos := pos, act := .send c s }, { g := 0, fn := fn', pos := pos', act := .recv c s cap }, { g := i, fn := fn, pos := pos, act := .sendDone c s }, { g := 0, fn := fn', pos := pos', act := .recvDone c s }]) N O' W' Act := by
  generalize hU : (#[{ g := i, fn := fn, pos := pos, act := .send c s }, { g := 0, fn := fn', pos := pos', act := .recv c s cap }, { g := i, fn := fn, pos := pos, act := .sendDone c s }, { g := 0, fn := fn', pos := pos', act := .recvDone c s }] : Trace) = U
  have hu : ∀ op ∈ U, op.act.touch? = none ∧ op.act.low N ∧ ∀ m, op.act = .mark m → Neutral m := by
    intro op ho
    rw [← hU] at ho
    simp only [List.mem_toArray, List.mem_cons, List.not_mem_nil, or_false] at ho
    rcases ho with rfl | rfl | rfl | rfl <;> exact ⟨rfl, hc, fun m q => by cases q⟩
  have h1 := h.still (fun op ho => (hu op ho).1) (fun op ho => (hu op ho).2.1) (fun op ho => (hu op ho).2.2)
  have hkn : ∀ k, Knows t i k → Knows (t ++ U) 0 k := fun k hk => by
    have e0 := at_end t U 0 { g := i, fn := fn, pos := pos, act := .send c s } (by rw [← hU]; rfl)
    have e3 := at_end t U 3 { g := 0, fn := fn', pos := pos', act := .recvDone c s } (by rw [← hU]; rfl)
    exact ⟨t.size + 3, _, e3, rfl, .inr ((hk.hb_new (Nat.le_refl _) e0 rfl).trans (.single (.inr ⟨.handOver (c := c) (k := s) (act?_of e0) (act?_of e3), h1.words.heard e0, h1.words.heard e3⟩)))⟩
  refine ⟨h1.clean, h1.low, h1.words, fun j k a hta ⟨b, hb, hp⟩ => ?_, h1.ov⟩
  have hold : ∀ {j : Nat}, (W j b ∨ (O j b ∧ a.write = true)) → Knows t j k := fun {j} q => by
    obtain ⟨op, ho, hoa⟩ := touch_of hta
    rcases getElem?_append_cases ho with ⟨_, ho'⟩ | ⟨_, hou⟩
    · exact h.kn j k a (by rw [touchAt_of ho']; exact hoa) ⟨b, hb, q⟩
    · rw [(hu op hou).1] at hoa; cases hoa
  rcases hp with q | ⟨q, r⟩
  · rcases hW j b q with z | ⟨rfl, z⟩
    · exact (hold (.inl z)).app _
    · exact hkn k (hold (.inl z))
  · rcases hO j b q with z | ⟨rfl, z⟩
    · exact (hold (.inr ⟨z, r⟩)).app _
    · exact hkn k (hold (.inl z))
/-- Worker i has closed c, and has touched nothing since. -/
def ClosedBy (t : Trace) (i c : Nat) : Prop := ∃ (j : Nat) (x : MemOp), t[j]? = some x ∧ x.g = i ∧ x.act = .close c ∧ ∀ (k : Nat) (op : MemOp), t[k]? = some op → op.g = i → op.act.touch? ≠ none → k < j
theorem ClosedBy.app {u : Trace} {i c : Nat} (h : ClosedBy t i c) (hu : ∀ op ∈ u, op.g = i → op.act.touch? = none) : ClosedBy (t ++ u) i c := by
  obtain ⟨j, x, h1, h2, h3, h4⟩ := h
  refine ⟨j, x, by rw [getElem?_append_old (lt_size_of_getElem? h1)]; exact h1, h2, h3, fun k op ho hg ht => ?_⟩
  rcases getElem?_append_cases ho with ⟨_, ho'⟩ | ⟨_, hou⟩
  · exact h4 k op ho' hg ht
  · exact absurd (hu op hou hg) ht
/-- Goroutine 0 notices that the channel is closed: it knows all that the worker did. -/
theorem TI.noticed (h : TI t N O W Act) {i c : Nat} {fn : FuncId} {pos : String} (hc : c < N) (hcl : ClosedBy t i c) :
    TI (t ++ #[{ g := 0, fn := fn, pos := pos, act := .recvClosed c }]) N O W (fun j => Act j ∧ j ≠ i) := by
  have hu : ∀ op ∈ (#[{ g := 0, fn := fn, pos := pos, act := .recvClosed c }] : Trace), op.act.touch? = none ∧ op.act.low N ∧ ∀ m, op.act = .mark m → Neutral m := by
    intro op ho
    simp only [List.mem_toArray, List.mem_cons, List.not_mem_nil, or_false] at ho
    subst ho
    exact ⟨rfl, hc, fun m q => by cases q⟩
  have h1 := h.still (fun op ho => (hu op ho).1) (fun op ho => (hu op ho).2.1) (fun op ho => (hu op ho).2.2)
  refine ⟨h1.clean, h1.low, h1.words, h1.kn, fun k op ho ht hg => ?_⟩
  rcases h1.ov k op ho ht hg with q | q
  · by_cases e : op.g = i
    · refine .inr ?_
      obtain ⟨j, x, hj, hx, hxc, hlast⟩ := hcl
      rcases getElem?_append_cases ho with ⟨hk, ho'⟩ | ⟨_, hou⟩
      · have hkj := hlast k op ho' e ht
        have hjl := lt_size_of_getElem? hj
        have hj' : (t ++ #[{ g := 0, fn := fn, pos := pos, act := .recvClosed c }])[j]? = some x := by rw [getElem?_append_old hjl]; exact hj
        have e1 := at_end t #[{ g := 0, fn := fn, pos := pos, act := .recvClosed c }] 0 _ rfl
        exact ⟨t.size + 0, _, e1, rfl, .inr ((hb_po hkj ho hj' (e.trans hx.symm)).trans (.single (.inr ⟨.closed (c := c) ((act?_of hj').trans (by rw [hxc])) (act?_of e1), h1.words.heard hj', h1.words.heard e1⟩)))⟩
      · exact absurd (hu op hou).1 ht
    · exact .inl ⟨q, e⟩
  · exact .inr q
/-- A worker closes its channel. -/
theorem TI.close (h : TI t N O W Act) {i c : Nat} {fn : FuncId} {pos : String} (hc : c < N) (hOc : O i c) (hdis : ∀ j, j ≠ i → ¬ W j c) (ha : Act i) :
    TI (t ++ MemOp.ofEvents i fn pos #[⟨.obj c, false, true⟩, ⟨.obj c, true, true⟩]) N (fun j b => j ≠ i ∧ O j b) (fun j b => j ≠ i ∧ W j b) Act ∧ ClosedBy (t ++ MemOp.ofEvents i fn pos #[⟨.obj c, false, true⟩, ⟨.obj c, true, true⟩]) i c := by
  have e : MemOp.ofEvents i fn pos #[⟨.obj c, false, true⟩, ⟨.obj c, true, true⟩] = #[{ g := i, fn := fn, pos := pos, act := .access ⟨.obj c, false, true⟩ }, { g := i, fn := fn, pos := pos, act := .close c }] := by
    rw [ofEvents_eq]; simp [MemAct.ofEvent]
  rw [e]
  have hu : ∀ op ∈ (#[{ g := i, fn := fn, pos := pos, act := .access ⟨.obj c, false, true⟩ }, { g := i, fn := fn, pos := pos, act := .close c }] : Trace), op.g = i ∧ op.act.low N ∧ (∀ m, op.act = .mark m → Neutral m) ∧ ∀ a, op.act.touch? = some a → a.loc = .obj c ∧ a.write = false := by
    intro op ho
    simp only [List.mem_toArray, List.mem_cons, List.not_mem_nil, or_false] at ho
    rcases ho with rfl | rfl
    · exact ⟨rfl, hc, (fun m q => by cases q), (fun a q => by cases q; exact ⟨rfl, rfl⟩)⟩
    · exact ⟨rfl, hc, (fun m q => by cases q), (fun a q => by cases q)⟩
  constructor
  · have h1 := h.own (N' := N) (Nat.le_refl _) (g := i) (fun op ho => (hu op ho).1) (O' := fun b => b = c) (W' := fun _ => False)
      (fun op ho a hta => by
        obtain ⟨_, _, _, q⟩ := hu op ho
        obtain ⟨q1, q2⟩ := q a hta
        exact ⟨c, by rw [q1]; rfl, fun b' hb => by rw [q1] at hb; exact hb.symm, rfl, fun z => by rw [q2] at z; cases z⟩)
      (fun op ho => (hu op ho).2.1) (fun op ho => (hu op ho).2.2.1) (fun b hb => ?_) (fun b hb => hb.elim) (fun j hj b hb => by subst hb; exact hdis j hj) (fun j hj b hb => hb.elim) (fun _ => ha)
    · refine h1.less (Nat.le_refl _) (fun j b hb => .inl ?_) (fun j b hb => .inl ?_) (fun _ q => q)
      · simp only [if_neg hb.1]; exact hb.2
      · simp only [if_neg hb.1]; exact hb.2
    · subst hb; exact .inl hOc
  · have e1 := at_end t #[{ g := i, fn := fn, pos := pos, act := .access ⟨.obj c, false, true⟩ }, { g := i, fn := fn, pos := pos, act := .close c }] 1 _ rfl
    refine ⟨t.size + 1, _, e1, rfl, rfl, fun k op ho hg ht => ?_⟩
    rcases getElem?_append_cases ho with ⟨hk, _⟩ | ⟨hk, _⟩
    · omega
    · have hlt := lt_size_of_getElem? ho
      simp only [Array.size_append, List.size_toArray, List.length_cons, List.length_nil] at hlt
      have : k = t.size ∨ k = t.size + 1 := by omega
      rcases this with rfl | rfl
      · omega
      · rw [e1] at ho
        cases ho
        exact absurd rfl ht
/-- Nobody's doings are unknown: all is handed over. -/
theorem TI.over (h : TI t N O W Act) (hA : ∀ i, ¬ Act i) : t.HandedOver := by
  intro k g hg hne hc
  obtain ⟨x, hx, _⟩ := hc
  obtain ⟨op, ho, hoa⟩ := touch_of hx
  have e : op.g = g := by simpa [Trace.g?, ho] using hg
  rcases h.ov k op ho (by rw [hoa]; simp) (by rw [e]; exact hne) with q | ⟨q, z, h1, h2, h3⟩
  · exact absurd q (hA _)
  · refine ⟨q, by simp [Trace.g?, h1, h2], ?_⟩
    rcases h3 with rfl | h3
    · rw [ho] at h1; cases h1; exact absurd (e.symm.trans h2) hne
    · exact h3
end
end Go.Proofs.YtfbdgdphpdhcpaaDoor.Sm
namespace Go.Proofs.YtfbdgdphpdhcpaaDoor.Sm
open Go Go.Conc

/-- A worker: its record, its world, what it may look into and write, its channel, what it is still to send; how it stands (0: it runs, 1: it waits to send x, 2: it only leaves). -/
structure WP (μ : Type) where
  g : Goroutine
  w : World
  O : Nat → Prop
  W : Nat → Prop
  c : Nat
  out : List μ
  md : Nat
  x : Value
  z : Value
/-- Goroutine 0, and what is still to come over each channel. -/
structure MP (μ : Type) where
  g : Goroutine
  w : World
  O : Nat → Prop
  W : Nat → Prop
  ch : Nat → Option (List μ)
section
variable {μ : Type} {P : Program}
def updc (ch : Nat → Option (List μ)) (c : Nat) (y : Option (List μ)) : Nat → Option (List μ) := fun d => if d = c then y else ch d
def closeEs (c : Nat) : Array Event := #[⟨.obj c, false, true⟩, ⟨.obj c, true, true⟩]
/-- One step of a worker's script. -/
def WSF (P : Program) (Msg : World → (Nat → Prop) → Value → μ → Prop) (X : WP μ → Prop) (p : WP μ) : Prop :=
  (p.md = 0 ∧ p.g.status = .running ∧ p.g.offers = none ∧
    ((∀ w1, Ry p.O p.w w1 → ∃ g2 w2 es O2 W2, stepG P false p.g w1 = .go g2 w2 es ∧ Gd p.O p.W O2 W2 w1 w2 es ∧ g2.offers = none ∧ g2.status = .running ∧ X { p with g := g2, w := w2, O := O2, W := W2 }) ∨
     (∀ w1, Ry p.O p.w w1 → ∃ g2 x z, stepG P false p.g w1 = .comm g2 #[scase p.c x z] true .send w1 #[] ∧ X { p with g := g2, w := w1, md := 1, x := x, z := z }) ∨
     (p.out = [] ∧ mayWake P p.g = true ∧ ∀ w1 s, Ry p.O p.w w1 → w1.heap[p.c]? = some (.chan 0 #[] false s s false) → ∃ g2, stepG P false p.g w1 = .go g2 (w1.setChan p.c 0 #[] true s s false) (closeEs p.c) ∧ g2.status = .running ∧ g2.offers = none ∧ X { p with g := g2, w := w1, O := fun _ => False, W := fun _ => False, md := 2 }))) ∨
  (p.md = 1 ∧ ∃ o rest Tr, p.out = o :: rest ∧ (∀ b, Tr b → p.W b) ∧ ∀ w1, Ry p.O p.w w1 → Msg w1 Tr p.x o ∧ X { p with g := Go.Conc.served p.g undef, w := w1, W := fun b => p.W b ∧ ¬ Tr b, out := rest, md := 0 }) ∨
  (p.md = 2 ∧ p.g.offers = none ∧ (p.g.status = .finished ∨ (p.g.status = .running ∧ ∃ g2, (∀ w1, stepG P false p.g w1 = .go g2 w1 #[]) ∧ (g2.status = .running ∨ g2.status = .finished) ∧ X { p with g := g2 })))
theorem WSF.mono {Msg : World → (Nat → Prop) → Value → μ → Prop} : ∀ X Y : WP μ → Prop, (∀ a, X a → Y a) → ∀ a, WSF P Msg X a → WSF P Msg Y a := by
  intro X Y h p q
  rcases q with ⟨q0, q1, q2, q⟩ | ⟨q0, o, rest, Tr, q1, q2, q⟩ | ⟨q0, q1, q⟩
  · refine .inl ⟨q0, q1, q2, ?_⟩
    rcases q with q | q | ⟨q3, q4, q⟩
    · refine .inl fun w1 hw => ?_
      obtain ⟨g2, w2, es, O2, W2, a, b, c, d, e⟩ := q w1 hw
      exact ⟨g2, w2, es, O2, W2, a, b, c, d, h _ e⟩
    · refine .inr (.inl fun w1 hw => ?_)
      obtain ⟨g2, x, z, a, b⟩ := q w1 hw
      exact ⟨g2, x, z, a, h _ b⟩
    · refine .inr (.inr ⟨q3, q4, fun w1 s hw hc => ?_⟩)
      obtain ⟨g2, a, b, c, d⟩ := q w1 s hw hc
      exact ⟨g2, a, b, c, h _ d⟩
  · exact .inr (.inl ⟨q0, o, rest, Tr, q1, q2, fun w1 hw => ⟨(q w1 hw).1, h _ (q w1 hw).2⟩⟩)
  · refine .inr (.inr ⟨q0, q1, ?_⟩)
    rcases q with q | ⟨q2, g2, a, b, c⟩
    · exact .inl q
    · exact .inr ⟨q2, g2, a, b, h _ c⟩
/-- A worker's whole script. -/
abbrev WS (P : Program) (Msg : World → (Nat → Prop) → Value → μ → Prop) (p : WP μ) : Prop := Lfp (WSF P Msg) p
/-- One step of goroutine 0's script. -/
def MSF (P : Program) (Msg : World → (Nat → Prop) → Value → μ → Prop) (Fin : Value → World → Prop) (Stop : MP μ → Prop) (X : MP μ → Prop) (s : MP μ) : Prop :=
  (∀ w1, Ry s.O s.w w1 → Stop { s with w := w1 }) ∨
  (s.g.status = .running ∧
    ((∀ w1, Ry s.O s.w w1 → ∃ g2 w2 es O2 W2, stepG P true s.g w1 = .go g2 w2 es ∧ Gd s.O s.W O2 W2 w1 w2 es ∧ X { s with g := g2, w := w2, O := O2, W := W2 }) ∨
     (∀ w1, Ry s.O s.w w1 → ∃ g2 child c out Oc Wc, stepG P true s.g w1 = .spawn g2 child w1 #[] ∧ s.W c ∧ w1.heap[c]? = some (.chan 0 #[] false 0 0 false) ∧ s.ch c = none ∧
       (∀ b, Oc b → s.O b) ∧ (∀ b, Wc b → s.W b ∧ Oc b) ∧ ¬ Oc c ∧ WS P Msg ⟨child, w1, Oc, Wc, c, out, 0, undef, undef⟩ ∧
       X ⟨g2, w1, fun b => s.O b ∧ b ≠ c ∧ ¬ Wc b, fun b => s.W b ∧ b ≠ c ∧ ¬ Oc b, updc s.ch c (some out)⟩) ∨
     (∃ c out z, s.ch c = some out ∧ (∀ w1, Ry s.O s.w w1 → stepG P true s.g w1 = .comm (Go.Conc.core s.g) #[rcase c z] true (.recv true) w1 #[]) ∧
       (∀ o rest, out = o :: rest → ∀ w2 x Tr, Ry s.O s.w w2 → Msg w2 Tr x o → (∀ b, Tr b → ¬ s.O b ∧ b < w2.heap.size) → X ⟨Go.Conc.served (Go.Conc.core s.g) (recvd true x true), w2, fun b => s.O b ∨ Tr b, s.W, updc s.ch c (some rest)⟩) ∧
       (out = [] → ∀ w2, Ry s.O s.w w2 → X ⟨Go.Conc.served (Go.Conc.core s.g) (recvd true z false), w2, s.O, s.W, updc s.ch c none⟩)) ∨
     ((∀ c, s.ch c = none) ∧ ∀ w1, Ry s.O s.w w1 → ∃ v es, stepG P true s.g w1 = .ended (.done v) w1 es ∧ (∀ e ∈ es, EvG s.O s.W e) ∧ Fin v w1)))
theorem MSF.mono {Msg : World → (Nat → Prop) → Value → μ → Prop} {Fin : Value → World → Prop} {Stop : MP μ → Prop} : ∀ X Y : MP μ → Prop, (∀ a, X a → Y a) → ∀ a, MSF P Msg Fin Stop X a → MSF P Msg Fin Stop Y a := by
  intro X Y h s q
  rcases q with q | ⟨q0, q⟩
  · exact .inl q
  · refine .inr ⟨q0, ?_⟩
    rcases q with q | q | ⟨c, out, z, q1, q2, q3, q4⟩ | q
    · refine .inl fun w1 hw => ?_
      obtain ⟨g2, w2, es, O2, W2, a, b, c⟩ := q w1 hw
      exact ⟨g2, w2, es, O2, W2, a, b, h _ c⟩
    · refine .inr (.inl fun w1 hw => ?_)
      obtain ⟨g2, child, c, out, Oc, Wc, a1, a2, a3, a4, a5, a6, a7, a8, a9⟩ := q w1 hw
      exact ⟨g2, child, c, out, Oc, Wc, a1, a2, a3, a4, a5, a6, a7, a8, h _ a9⟩
    · exact .inr (.inr (.inl ⟨c, out, z, q1, q2, fun o rest e w2 x Tr a b d => h _ (q3 o rest e w2 x Tr a b d), fun e w2 a => h _ (q4 e w2 a)⟩))
    · exact .inr (.inr (.inr q))
abbrev MS (P : Program) (Msg : World → (Nat → Prop) → Value → μ → Prop) (Fin : Value → World → Prop) (Stop : MP μ → Prop) (s : MP μ) : Prop := Lfp (MSF P Msg Fin Stop) s
/-- One script behind the other. -/
theorem MS.then {Msg : World → (Nat → Prop) → Value → μ → Prop} {Fin : Value → World → Prop} {Stop Stop' : MP μ → Prop} {s : MP μ} (h : MS P Msg Fin Stop s) (hn : ∀ s, Stop s → MS P Msg Fin Stop' s) : MS P Msg Fin Stop' s := by
  refine Lfp.ind MSF.mono (C := fun s => MS P Msg Fin Stop' s) (fun s q => ?_) h
  rcases q with q | q
  · have h0 : Ry s.O s.w s.w := ⟨Nat.le_refl _, fun _ _ => rfl, rfl, rfl⟩
    exact hn _ (q s.w h0)
  · have : MSF P Msg Fin Stop' (fun b => Lfp (MSF P Msg Fin Stop) b ∧ MS P Msg Fin Stop' b) s := .inr q
    exact Lfp.in MSF.mono (MSF.mono _ _ (fun _ q => q.2) s this)
/-- Several scripts, each a step further in turn. -/
theorem fam {α : Type} {F : (α → Prop) → α → Prop} (mono : ∀ X Y : α → Prop, (∀ a, X a → Y a) → ∀ a, F X a → F Y a) {C : (Nat → α) → Prop} :
    ∀ (n : Nat), (∀ p : Nat → α, (∀ i, i < n → Lfp F (p i)) → (∀ i, i < n → F (fun y => Lfp F y ∧ C (fun j => if j = i then y else p j)) (p i)) → C p) → ∀ p : Nat → α, (∀ i, i < n → Lfp F (p i)) → C p := by
  intro n
  induction n generalizing C with
  | zero => intro hs p _; exact hs p (fun i hi => absurd hi (Nat.not_lt_zero _)) (fun i hi => absurd hi (Nat.not_lt_zero _))
  | succ n ih =>
    intro hs p hp
    have key : ∀ a, Lfp F a → ∀ p : Nat → α, p n = a → (∀ i, i < n → Lfp F (p i)) → C p := by
      intro a ha
      refine Lfp.ind mono (C := fun a => ∀ p : Nat → α, p n = a → (∀ i, i < n → Lfp F (p i)) → C p) (fun a hFa => ?_) ha
      have haa : Lfp F a := Lfp.in mono (mono _ _ (fun _ q => q.1) a hFa)
      intro p hpn hpi
      refine ih (C := fun p => p n = a → C p) (fun p hT hF hpn => ?_) p hpi hpn
      have hT' : ∀ i, i < n + 1 → Lfp F (p i) := fun i hi => by
        rcases Nat.lt_or_ge i n with q | q
        · exact hT i q
        · have : i = n := by omega
          rw [this, hpn]; exact haa
      refine hs p hT' fun i hi => ?_
      rcases Nat.lt_or_ge i n with q | q
      · refine mono _ _ (fun y hy => ⟨hy.1, hy.2 ?_⟩) _ (hF i q)
        show (if n = i then y else p n) = a
        rw [if_neg (by omega)]; exact hpn
      · have e : i = n := by omega
        rw [e, hpn]
        refine mono _ _ (fun y hy => ⟨hy.1, hy.2 _ ?_ fun j hj => ?_⟩) _ hFa
        · show (if n = n then y else p n) = y
          rw [if_pos rfl]
        · show Lfp F (if j = n then y else p j)
          rw [if_neg (by omega)]
          exact hT j hj
    exact key (p n) (hp n (Nat.lt_succ_self _)) p rfl fun i hi => hp i (by omega)
end
end Go.Proofs.YtfbdgdphpdhcpaaDoor.Sm
