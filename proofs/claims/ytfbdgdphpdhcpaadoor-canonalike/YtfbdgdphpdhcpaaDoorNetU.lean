/-
  What is held of a trace while workers send over channels of their own: who may touch what knows what was done there. No condition.
  What a go statement, a meeting at a channel, a close and its notice make of what is known. No condition.
-/
import Derived.Conc.Beside
import Derived.Conc.CrowdComm
import Derived.Test.YtfbdgdphpdhcpaaDoorLgE
namespace Go.Proofs.YtfbdgdphpdhcpaaDoor.Sm
open Go Go.Conc

/-- The block of a place. -/
def blk : Loc → Nat → Prop
  | .cell a, b => a.block = b
  | .obj r, b => r = b
  | _, _ => False
/-- The trace, the worlds' size, who may look (O) and write (W) where, whose doings goroutine 0 need not know yet. -/
structure TI (t : Trace) (N : Nat) (O W : Nat → Nat → Prop) (Act : Nat → Prop) : Prop where
  clean : ∀ said, ¬ Race said t
  low : ∀ op ∈ t, op.act.low N
  words : Wordless t
  kn : ∀ (i k : Nat) (a : Touch), touchAt t k = some a → (∃ b, blk a.loc b ∧ (W i b ∨ (O i b ∧ a.write = true))) → Knows t i k
  ov : ∀ (k : Nat) (op : MemOp), t[k]? = some op → op.act.touch? ≠ none → op.g ≠ 0 → Act op.g ∨ Knows t 0 k
section
variable {t u : Trace} {N : Nat} {O W : Nat → Nat → Prop} {Act : Nat → Prop}
theorem blk_low {l : Loc} {b : Nat} (h : blk l b) (hl : l.low N) : b < N := by
  cases l <;> first | exact h.elim | (cases h; exact hl)
theorem touch_low {op : MemOp} {a : Touch} (h : op.act.touch? = some a) (hl : op.act.low N) {b : Nat} (hb : blk a.loc b) : b < N := by
  obtain ⟨g, fn, pos, act⟩ := op
  cases act with
  | access e => cases h; exact blk_low hb hl
  | mark m => cases m <;> first | (cases h; done) | (cases h; cases hb; exact hl)
  | _ => cases h
theorem TI.touchLow (h : TI t N O W Act) {k : Nat} {a : Touch} (ht : touchAt t k = some a) {b : Nat} (hb : blk a.loc b) : b < N := by
  obtain ⟨op, ho, ha⟩ := touch_of ht
  exact touch_low ha (h.low op (mem_of_getElem? ho)) hb
/-- Less may be touched. -/
theorem TI.less (h : TI t N O W Act) {N' : Nat} (hN : N ≤ N') {O' W' : Nat → Nat → Prop} (hO : ∀ i b, O' i b → O i b ∨ N ≤ b) (hW : ∀ i b, W' i b → W i b ∨ N ≤ b) {Act' : Nat → Prop} (hA : ∀ i, Act i → Act' i) : TI t N' O' W' Act' :=
  ⟨h.clean, fun op ho => MemAct.low_mono hN (h.low op ho), h.words, fun i k a ha ⟨b, hb, hp⟩ => by
    have hlt := h.touchLow ha hb
    refine h.kn i k a ha ⟨b, hb, ?_⟩
    rcases hp with hp | ⟨hp, hw⟩
    · exact (hW i b hp).elim .inl fun q => absurd hlt (by omega)
    · exact (hO i b hp).elim (fun q => .inr ⟨q, hw⟩) fun q => absurd hlt (by omega), fun k op h1 h2 h3 => (h.ov k op h1 h2 h3).imp (hA _) id⟩
theorem ev_touch {e : Event} {a : Touch} (h : (MemAct.ofEvent e).touch? = some a) (hs : e.sync = false) (hm : ∀ m, e.loc ≠ .mark m) : a = ⟨e.loc, e.write, .plain⟩ := by
  obtain ⟨loc, wr, sy⟩ := e
  simp only at hs hm
  subst hs
  cases loc <;> cases wr <;> first | (cases h; rfl) | exact absurd rfl (hm _)
theorem evg_touch {O' W' : Nat → Prop} {e : Event} (he : EvG O' W' e) {a : Touch} (h : (MemAct.ofEvent e).touch? = some a) : ∃ b, blk a.loc b ∧ (∀ b', blk a.loc b' → b' = b) ∧ O' b ∧ (a.write = true → W' b) := by
  unfold EvG at he
  split at he
  · rename_i x hx
    have := ev_touch h he.1 (fun m e' => by rw [hx] at e'; cases e')
    subst this
    rw [hx]
    exact ⟨x.block, rfl, fun _ q => q.symm, he.2.1, he.2.2⟩
  · rename_i x hx
    have := ev_touch h he.1 (fun m e' => by rw [hx] at e'; cases e')
    subst this
    rw [hx]
    exact ⟨x, rfl, fun _ q => q.symm, he.2.1, he.2.2⟩
  · rename_i hx
    obtain ⟨loc, wr, sy⟩ := e
    simp only at hx
    subst hx
    cases h
  · exact he.elim
theorem evg_low {O' W' : Nat → Prop} {e : Event} (he : EvG O' W' e) {N' : Nat} (hO : ∀ b, O' b → b < N') : (MemAct.ofEvent e).low N' := by
  unfold EvG at he
  obtain ⟨loc, wr, sy⟩ := e
  split at he
  · rename_i x hx; simp only at hx he; subst hx; cases sy <;> cases wr <;> exact hO _ he.2.1
  · rename_i x hx; simp only at hx he; subst hx; cases sy <;> cases wr <;> exact hO _ he.2.1
  · rename_i hx; simp only at hx; subst hx; cases sy <;> cases wr <;> exact trivial
  · exact he.elim
theorem evg_word {O' W' : Nat → Prop} {e : Event} (he : EvG O' W' e) : ∀ m, MemAct.ofEvent e = .mark m → Neutral m := by
  unfold EvG at he
  obtain ⟨loc, wr, sy⟩ := e
  intro m hm
  split at he
  · rename_i x hx; simp only at hx; subst hx; cases sy <;> cases wr <;> cases hm
  · rename_i x hx; simp only at hx; subst hx; cases sy <;> cases wr <;> cases hm
  · rename_i hx; simp only at hx; subst hx; cases sy <;> cases wr <;> (cases hm; trivial)
  · exact he.elim
/-- Operations of one goroutine, each within what it may touch now: new blocks, or those that it might. -/
theorem TI.own (h : TI t N O W Act) {N' : Nat} (hN : N ≤ N') {g : Nat} (hu : ∀ op ∈ u, op.g = g) {O' W' : Nat → Prop}
    (ht : ∀ op ∈ u, ∀ a, op.act.touch? = some a → ∃ b, blk a.loc b ∧ (∀ b', blk a.loc b' → b' = b) ∧ O' b ∧ (a.write = true → W' b)) (hlow : ∀ op ∈ u, op.act.low N') (hw : Wordless u)
    (hO : ∀ b, O' b → O g b ∨ N ≤ b) (hW : ∀ b, W' b → W g b ∨ N ≤ b) (hOW : ∀ j, j ≠ g → ∀ b, O' b → ¬ W j b) (hWO : ∀ j, j ≠ g → ∀ b, W' b → ¬ O j b) (ha : g ≠ 0 → Act g) :
    TI (t ++ u) N' (fun i b => if i = g then O' b else O i b) (fun i b => if i = g then W' b else W i b) Act := by
  refine ⟨fun said => noRace_append (h.clean said) hu fun i a hta op hop b hb hc => ?_, fun op ho => ?_, h.words.append hw, fun i k a hta hp => ?_, fun k op h1 h2 h3 => ?_⟩
  · obtain ⟨x, hx, hx1, hxO, hxW⟩ := ht op hop b hb
    obtain ⟨hl, _, hwr, _⟩ := hc
    have hbk : blk a.loc x := by rw [hl]; exact hx
    have hlt := h.touchLow hta hbk
    refine h.kn g i a hta ⟨x, hbk, ?_⟩
    rcases hwr with q | q
    · exact (hO x hxO).elim (fun z => .inr ⟨z, q⟩) fun z => absurd hlt (by omega)
    · exact (hW x (hxW q)).elim .inl fun z => absurd hlt (by omega)
  · rcases Array.mem_append.1 ho with q | q
    · exact MemAct.low_mono hN (h.low op q)
    · exact hlow op q
  · obtain ⟨x, hx, hp⟩ := hp
    obtain ⟨op, ho, hoa⟩ := touch_of hta
    rcases getElem?_append_cases ho with ⟨hk, ho'⟩ | ⟨hk, hou⟩
    · have hta' : touchAt t k = some a := by rw [touchAt_of ho']; exact hoa
      have hlt := h.touchLow hta' hx
      refine (h.kn i k a hta' ⟨x, hx, ?_⟩).app u
      by_cases e : i = g
      · subst e
        simp only [if_true] at hp
        rcases hp with q | ⟨q, r⟩
        · exact (hW x q).elim .inl fun z => absurd hlt (by omega)
        · exact (hO x q).elim (fun z => .inr ⟨z, r⟩) fun z => absurd hlt (by omega)
      · simp only [if_neg e] at hp
        exact hp
    · obtain ⟨y, hy, hy1, hyO, hyW⟩ := ht op hou a hoa
      have hxy : x = y := hy1 x hx
      subst hxy
      by_cases e : i = g
      · subst e
        have := knows_own ho
        rw [hu op hou] at this
        exact this
      · exfalso
        simp only [if_neg e] at hp
        rcases hp with q | ⟨q, r⟩
        · exact hOW i e x hyO q
        · exact hWO i e x (hyW r) q
  · rcases getElem?_append_cases h1 with ⟨hk, ho'⟩ | ⟨hk, hou⟩
    · exact (h.ov k op ho' h2 h3).imp id (·.app u)
    · rw [hu op hou] at h3 ⊢
      exact .inl (ha h3)
/-- Nothing touched. -/
theorem TI.still (h : TI t N O W Act) (hn : ∀ op ∈ u, op.act.touch? = none) (hl : ∀ op ∈ u, op.act.low N) (hw : Wordless u) : TI (t ++ u) N O W Act := by
  have htu : ∀ {k : Nat} {a : Touch}, touchAt (t ++ u) k = some a → touchAt t k = some a := fun {k a} q => by
    obtain ⟨op, ho, hoa⟩ := touch_of q
    rcases getElem?_append_cases ho with ⟨_, ho'⟩ | ⟨_, hou⟩
    · rw [touchAt_of ho']; exact hoa
    · rw [hn op hou] at hoa; cases hoa
  refine ⟨fun said hr => ?_, fun op ho => (Array.mem_append.1 ho).elim (h.low op) (hl op), h.words.append hw, fun i k a hta hp => (h.kn i k a (htu hta) hp).app u, fun k op h1 h2 h3 => ?_⟩
  · obtain ⟨i, j, hij, ⟨a, b, hta, htb, hc⟩, n1, n2⟩ := hr
    have h1 := htu hta
    have h2 := htu htb
    exact h.clean said ⟨i, j, hij, ⟨a, b, h1, h2, hc⟩, fun e => n1 (hb_app u e), fun e => n2 (hb_app u e)⟩
  · rcases getElem?_append_cases h1 with ⟨_, ho'⟩ | ⟨_, hou⟩
    · exact (h.ov k op ho' h2 h3).imp id (·.app u)
    · exact absurd (hn op hou) h2
end
end Go.Proofs.YtfbdgdphpdhcpaaDoor.Sm
namespace Go.Proofs.YtfbdgdphpdhcpaaDoor.Sm
open Go Go.Conc

section
variable {t : Trace} {N : Nat} {O W : Nat → Nat → Prop} {Act : Nat → Prop}
theorem at_end (t : Trace) (u : Trace) (j : Nat) (x : MemOp) (h : u[j]? = some x) : (t ++ u)[t.size + j]? = some x := by
  rw [Array.getElem?_append_right (by omega)]
  rw [show t.size + j - t.size = j by omega]; exact h
/-- A go statement: the child knows what goroutine 0 knew. -/
theorem TI.spawn (h : TI t N O W Act) {n : Nat} {fn fn' : FuncId} {pos pos' : String} {O' W' : Nat → Nat → Prop}
    (hO : ∀ j b, O' j b → O j b ∨ (j = n ∧ O 0 b)) (hW : ∀ j b, W' j b → W j b ∨ (j = n ∧ W 0 b)) :
    TI (t ++ #[{ g := 0, fn := fn, pos := pos, act := .go n }, { g := n, fn := fn', pos := pos', act := .start }]) N O' W' Act := by
  have hu : ∀ op ∈ (#[{ g := 0, fn := fn, pos := pos, act := .go n }, { g := n, fn := fn', pos := pos', act := .start }] : Trace), op.act.touch? = none ∧ op.act.low N ∧ ∀ m, op.act = .mark m → Neutral m := by
    intro op ho
    simp only [List.mem_toArray, List.mem_cons, List.not_mem_nil, or_false] at ho
    rcases ho with rfl | rfl <;> exact ⟨rfl, trivial, fun m q => by cases q⟩
  have h1 := h.still (fun op ho => (hu op ho).1) (fun op ho => (hu op ho).2.1) (fun op ho => (hu op ho).2.2)
  have hkn : ∀ k, Knows t 0 k → Knows (t ++ #[{ g := 0, fn := fn, pos := pos, act := .go n }, { g := n, fn := fn', pos := pos', act := .start }]) n k := fun k hk => by
    have e0 := at_end t #[{ g := 0, fn := fn, pos := pos, act := .go n }, { g := n, fn := fn', pos := pos', act := .start }] 0 _ rfl
    have e1 := at_end t #[{ g := 0, fn := fn, pos := pos, act := .go n }, { g := n, fn := fn', pos := pos', act := .start }] 1 _ rfl
    refine ⟨t.size + 1, _, e1, rfl, .inr ((hk.hb_new (Nat.le_refl _) e0 rfl).trans (.single (.inr ⟨.spawn (child := n) (act?_of e0) (act?_of e1) (by simp [Trace.g?]), h1.words.heard e0, h1.words.heard e1⟩)))⟩
  refine ⟨h1.clean, h1.low, h1.words, fun i k a hta ⟨b, hb, hp⟩ => ?_, h1.ov⟩
  have hold : ∀ {i : Nat}, (W i b ∨ (O i b ∧ a.write = true)) → Knows t i k := fun {i} q => by
    obtain ⟨op, ho, hoa⟩ := touch_of hta
    rcases getElem?_append_cases ho with ⟨_, ho'⟩ | ⟨_, hou⟩
    · exact h.kn i k a (by rw [touchAt_of ho']; exact hoa) ⟨b, hb, q⟩
    · rw [(hu op hou).1] at hoa; cases hoa
  rcases hp with q | ⟨q, r⟩
  · rcases hW i b q with z | ⟨rfl, z⟩
    · exact (hold (.inl z)).app _
    · exact hkn k (hold (.inl z))
  · rcases hO i b q with z | ⟨rfl, z⟩
    · exact (hold (.inr ⟨z, r⟩)).app _
    · exact hkn k (hold (.inr ⟨z, r⟩))
/-- A worker's value goes over to goroutine 0, and with it what the worker knows. -/
theorem TI.meet (h : TI t N O W Act) {i c s cap : Nat} {fn fn' : FuncId} {pos pos' : String} (hc : c < N) {O' W' : Nat → Nat → Prop}
    (hO : ∀ j b, O' j b → O j b ∨ (j = 0 ∧ W i b)) (hW : ∀ j b, W' j b → W j b ∨ (j = 0 ∧ W i b)) :
    TI (t ++ #[{ g := i, fn := fn, pos := pos, act := .send c s }, { g := 0, fn := fn', pos := pos', act := .recv c s cap }, { g := i, fn := fn, pos := pos, act := .sendDone c s }, { g := 0, fn := fn', pos := pos', act := .recvDone c s }]) N O' W' Act := by
  generalize hU : (#[{ g := i, fn := fn, pos := pos, act := .send c s }, { g := 0, fn := fn', pos := pos', act := .recv c s cap }, { g := i, fn := fn, pos := pos, act := .sendDone c s }, { g := 0, fn := fn', pos := pos', act := .recvDone c s }] : Trace) = U
  have hu : ∀ op ∈ U, op.act.touch? = none ∧ op.act.low N ∧ ∀ m, op.act = .mark m → Neutral m := by
    intro op ho
    rw [← hU] at ho
    simp only [List.mem_toArray, List.mem_cons, List.not_mem_nil, or_false] at ho
    rcases ho with rfl | rfl | rfl | rfl <;> exact ⟨rfl, hc, fun m q => by cases q⟩
  have h1 := h.still (fun op ho => (hu op ho).1) (fun op ho => (hu op ho).2.1) (fun op ho => (hu op ho).2.2)
  have hkn : ∀ k, Knows t i k → Knows (t ++ U) 0 k := fun k hk => by
    have e0 := at_end t U 0 { g := i, fn := fn, pos := pos, act := .send c s } (by rw [← hU]; rfl)
    have e3 := at_end t U 3 { g := 0, fn := fn', pos := pos', act := .recvDone c s } (by rw [← hU]; rfl)
    exact ⟨t.size + 3, _, e3, rfl, .inr ((hk.hb_new (Nat.le_refl _) e0 rfl).trans (.single (.inr ⟨.handOver (c := c) (k := s) (act?_of e0) (act?_of e3), h1.words.heard e0, h1.words.heard e3⟩)))⟩
  refine ⟨h1.clean, h1.low, h1.words, fun j k a hta ⟨b, hb, hp⟩ => ?_, h1.ov⟩
  have hold : ∀ {j : Nat}, (W j b ∨ (O j b ∧ a.write = true)) → Knows t j k := fun {j} q => by
    obtain ⟨op, ho, hoa⟩ := touch_of hta
    rcases getElem?_append_cases ho with ⟨_, ho'⟩ | ⟨_, hou⟩
    · exact h.kn j k a (by rw [touchAt_of ho']; exact hoa) ⟨b, hb, q⟩
    · rw [(hu op hou).1] at hoa; cases hoa
  rcases hp with q | ⟨q, r⟩
  · rcases hW j b q with z | ⟨rfl, z⟩
    · exact (hold (.inl z)).app _
    · exact hkn k (hold (.inl z))
  · rcases hO j b q with z | ⟨rfl, z⟩
    · exact (hold (.inr ⟨z, r⟩)).app _
    · exact hkn k (hold (.inl z))
/-- Worker i has closed c, and has touched nothing since. -/
def ClosedBy (t : Trace) (i c : Nat) : Prop := ∃ (j : Nat) (x : MemOp), t[j]? = some x ∧ x.g = i ∧ x.act = .close c ∧ ∀ (k : Nat) (op : MemOp), t[k]? = some op → op.g = i → op.act.touch? ≠ none → k < j
theorem ClosedBy.app {u : Trace} {i c : Nat} (h : ClosedBy t i c) (hu : ∀ op ∈ u, op.g = i → op.act.touch? = none) : ClosedBy (t ++ u) i c := by
  obtain ⟨j, x, h1, h2, h3, h4⟩ := h
  refine ⟨j, x, by rw [getElem?_append_old (lt_size_of_getElem? h1)]; exact h1, h2, h3, fun k op ho hg ht => ?_⟩
  rcases getElem?_append_cases ho with ⟨_, ho'⟩ | ⟨_, hou⟩
  · exact h4 k op ho' hg ht
  · exact absurd (hu op hou hg) ht
/-- Goroutine 0 notices that the channel is closed: it knows all that the worker did. -/
theorem TI.noticed (h : TI t N O W Act) {i c : Nat} {fn : FuncId} {pos : String} (hc : c < N) (hcl : ClosedBy t i c) :
    TI (t ++ #[{ g := 0, fn := fn, pos := pos, act := .recvClosed c }]) N O W (fun j => Act j ∧ j ≠ i) := by
  have hu : ∀ op ∈ (#[{ g := 0, fn := fn, pos := pos, act := .recvClosed c }] : Trace), op.act.touch? = none ∧ op.act.low N ∧ ∀ m, op.act = .mark m → Neutral m := by
    intro op ho
    simp only [List.mem_toArray, List.mem_cons, List.not_mem_nil, or_false] at ho
    subst ho
    exact ⟨rfl, hc, fun m q => by cases q⟩
  have h1 := h.still (fun op ho => (hu op ho).1) (fun op ho => (hu op ho).2.1) (fun op ho => (hu op ho).2.2)
  refine ⟨h1.clean, h1.low, h1.words, h1.kn, fun k op ho ht hg => ?_⟩
  rcases h1.ov k op ho ht hg with q | q
  · by_cases e : op.g = i
    · refine .inr ?_
      obtain ⟨j, x, hj, hx, hxc, hlast⟩ := hcl
      rcases getElem?_append_cases ho with ⟨hk, ho'⟩ | ⟨_, hou⟩
      · have hkj := hlast k op ho' e ht
        have hjl := lt_size_of_getElem? hj
        have hj' : (t ++ #[{ g := 0, fn := fn, pos := pos, act := .recvClosed c }])[j]? = some x := by rw [getElem?_append_old hjl]; exact hj
        have e1 := at_end t #[{ g := 0, fn := fn, pos := pos, act := .recvClosed c }] 0 _ rfl
        exact ⟨t.size + 0, _, e1, rfl, .inr ((hb_po hkj ho hj' (e.trans hx.symm)).trans (.single (.inr ⟨.closed (c := c) ((act?_of hj').trans (by rw [hxc])) (act?_of e1), h1.words.heard hj', h1.words.heard e1⟩)))⟩
      · exact absurd (hu op hou).1 ht
    · exact .inl ⟨q, e⟩
  · exact .inr q
/-- A worker closes its channel. -/
theorem TI.close (h : TI t N O W Act) {i c : Nat} {fn : FuncId} {pos : String} (hc : c < N) (hOc : O i c) (hdis : ∀ j, j ≠ i → ¬ W j c) (ha : Act i) :
    TI (t ++ MemOp.ofEvents i fn pos #[⟨.obj c, false, true⟩, ⟨.obj c, true, true⟩]) N (fun j b => j ≠ i ∧ O j b) (fun j b => j ≠ i ∧ W j b) Act ∧ ClosedBy (t ++ MemOp.ofEvents i fn pos #[⟨.obj c, false, true⟩, ⟨.obj c, true, true⟩]) i c := by
  have e : MemOp.ofEvents i fn pos #[⟨.obj c, false, true⟩, ⟨.obj c, true, true⟩] = #[{ g := i, fn := fn, pos := pos, act := .access ⟨.obj c, false, true⟩ }, { g := i, fn := fn, pos := pos, act := .close c }] := by
    rw [ofEvents_eq]; simp [MemAct.ofEvent]
  rw [e]
  have hu : ∀ op ∈ (#[{ g := i, fn := fn, pos := pos, act := .access ⟨.obj c, false, true⟩ }, { g := i, fn := fn, pos := pos, act := .close c }] : Trace), op.g = i ∧ op.act.low N ∧ (∀ m, op.act = .mark m → Neutral m) ∧ ∀ a, op.act.touch? = some a → a.loc = .obj c ∧ a.write = false := by
    intro op ho
    simp only [List.mem_toArray, List.mem_cons, List.not_mem_nil, or_false] at ho
    rcases ho with rfl | rfl
    · exact ⟨rfl, hc, (fun m q => by cases q), (fun a q => by cases q; exact ⟨rfl, rfl⟩)⟩
    · exact ⟨rfl, hc, (fun m q => by cases q), (fun a q => by cases q)⟩
  constructor
  · have h1 := h.own (N' := N) (Nat.le_refl _) (g := i) (fun op ho => (hu op ho).1) (O' := fun b => b = c) (W' := fun _ => False)
      (fun op ho a hta => by
        obtain ⟨_, _, _, q⟩ := hu op ho
        obtain ⟨q1, q2⟩ := q a hta
        exact ⟨c, by rw [q1]; rfl, fun b' hb => by rw [q1] at hb; exact hb.symm, rfl, fun z => by rw [q2] at z; cases z⟩)
      (fun op ho => (hu op ho).2.1) (fun op ho => (hu op ho).2.2.1) (fun b hb => ?_) (fun b hb => hb.elim) (fun j hj b hb => by subst hb; exact hdis j hj) (fun j hj b hb => hb.elim) (fun _ => ha)
    · refine h1.less (Nat.le_refl _) (fun j b hb => .inl ?_) (fun j b hb => .inl ?_) (fun _ q => q)
      · simp only [if_neg hb.1]; exact hb.2
      · simp only [if_neg hb.1]; exact hb.2
    · subst hb; exact .inl hOc
  · have e1 := at_end t #[{ g := i, fn := fn, pos := pos, act := .access ⟨.obj c, false, true⟩ }, { g := i, fn := fn, pos := pos, act := .close c }] 1 _ rfl
    refine ⟨t.size + 1, _, e1, rfl, rfl, fun k op ho hg ht => ?_⟩
    rcases getElem?_append_cases ho with ⟨hk, _⟩ | ⟨hk, _⟩
    · omega
    · have hlt := lt_size_of_getElem? ho
      simp only [Array.size_append, List.size_toArray, List.length_cons, List.length_nil] at hlt
      have : k = t.size ∨ k = t.size + 1 := by omega
      rcases this with rfl | rfl
      · omega
      · rw [e1] at ho
        cases ho
        exact absurd rfl ht
/-- Nobody's doings are unknown: all is handed over. -/
theorem TI.over (h : TI t N O W Act) (hA : ∀ i, ¬ Act i) : t.HandedOver := by
  intro k g hg hne hc
  obtain ⟨x, hx, _⟩ := hc
  obtain ⟨op, ho, hoa⟩ := touch_of hx
  have e : op.g = g := by simpa [Trace.g?, ho] using hg
  rcases h.ov k op ho (by rw [hoa]; simp) (by rw [e]; exact hne) with q | ⟨q, z, h1, h2, h3⟩
  · exact absurd q (hA _)
  · refine ⟨q, by simp [Trace.g?, h1, h2], ?_⟩
    rcases h3 with rfl | h3
    · rw [ho] at h1; cases h1; exact absurd (e.symm.trans h2) hne
    · exact h3
end
end Go.Proofs.YtfbdgdphpdhcpaaDoor.Sm
