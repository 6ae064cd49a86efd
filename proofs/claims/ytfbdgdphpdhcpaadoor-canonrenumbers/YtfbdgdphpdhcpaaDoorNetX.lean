/-
  What is held of all together: channels, who may touch what, the trace. No condition.
  What is held of all together, behind a go statement, a meeting, a close and its notice. No condition.
-/
import Derived.Test.YtfbdgdphpdhcpaaDoorNetV
namespace Go.Proofs.YtfbdgdphpdhcpaaDoor.Sm
open Go Go.Conc

section
variable {μ : Type}
def OOf (s : MP μ) (n : Nat) (wp : Nat → WP μ) (Act : Nat → Prop) (i b : Nat) : Prop := (i = 0 ∧ s.O b) ∨ ∃ k, k < n ∧ i = k + 1 ∧ ((wp k).O b ∨ (Act k ∧ (wp k).md ≠ 2 ∧ b = (wp k).c))
def WWf (s : MP μ) (n : Nat) (wp : Nat → WP μ) (Act : Nat → Prop) (i b : Nat) : Prop := (i = 0 ∧ s.W b) ∨ ∃ k, k < n ∧ i = k + 1 ∧ ((wp k).W b ∨ (Act k ∧ (wp k).md ≠ 2 ∧ b = (wp k).c))
def AcF (n : Nat) (Act : Nat → Prop) (g : Nat) : Prop := ∃ k, k < n ∧ g = k + 1 ∧ Act k
structure NC (s : MP μ) (n : Nat) (wp : Nat → WP μ) (w : World) (t : Trace) (Act : Nat → Prop) : Prop where
  ry0 : Ry s.O s.w w
  wr : ∀ i, i < n → Ry (wp i).O (wp i).w w
  ch1 : ∀ i, i < n → Act i → s.ch (wp i).c = some (wp i).out ∧ (wp i).c < w.heap.size ∧ ∃ sn, w.heap[(wp i).c]? = some (.chan 0 #[] (decide ((wp i).md = 2)) sn sn false)
  ch2 : ∀ c out, s.ch c = some out → ∃ i, i < n ∧ Act i ∧ (wp i).c = c
  chd : ∀ i j, i < n → j < n → Act i → Act j → (wp i).c = (wp j).c → i = j
  act : ∀ i, i < n → ¬ Act i → (wp i).md = 2
  cl : ∀ i, i < n → Act i → (wp i).md = 2 → (wp i).out = [] ∧ ClosedBy t (i + 1) (wp i).c
  lim0 : ∀ b, s.O b → b < w.heap.size
  limw : ∀ i, i < n → ∀ b, (wp i).O b → b < w.heap.size
  sub0 : ∀ b, s.W b → s.O b
  subw : ∀ i, i < n → ∀ b, (wp i).W b → (wp i).O b
  d0 : ∀ i, i < n → ∀ b, s.W b → ¬ (wp i).O b
  d1 : ∀ i, i < n → ∀ b, (wp i).W b → ¬ s.O b
  d2 : ∀ i j, i < n → j < n → i ≠ j → ∀ b, (wp i).W b → ¬ (wp j).O b
  c0 : ∀ i, i < n → Act i → ¬ s.O (wp i).c
  cw : ∀ i j, i < n → j < n → Act i → ¬ (wp j).O (wp i).c
  ti : TI t w.heap.size (OOf s n wp Act) (WWf s n wp Act) (AcF n Act)
variable {s : MP μ} {n : Nat} {wp : Nat → WP μ} {w : World} {t : Trace} {Act : Nat → Prop}
theorem Ry.gd {O W O2 W2 O' : Nat → Prop} {u w w2 : World} {es : Array Event} (h : Ry O' u w) (hg : Gd O W O2 W2 w w2 es) (hd : ∀ b, O' b → ¬ W b) (hl : ∀ b, O' b → b < w.heap.size) : Ry O' u w2 :=
  ⟨Nat.le_trans h.1 hg.size, fun b hb => (hg.kept b (hl b hb) (hd b hb)).trans (h.2.1 b hb), hg.os.1.trans h.2.2.1, hg.os.2.1.trans h.2.2.2⟩
theorem Ry.refl (O : Nat → Prop) (w : World) : Ry O w w := ⟨Nat.le_refl _, fun _ _ => rfl, rfl, rfl⟩
theorem of_events {O2 W2 : Nat → Prop} {es : Array Event} (h : ∀ e ∈ es, EvG O2 W2 e) {N : Nat} (hO : ∀ b, O2 b → b < N) (g : Nat) (fn : FuncId) (pos : String) :
    (∀ op ∈ MemOp.ofEvents g fn pos es, op.g = g) ∧ (∀ op ∈ MemOp.ofEvents g fn pos es, ∀ a, op.act.touch? = some a → ∃ b, blk a.loc b ∧ (∀ b', blk a.loc b' → b' = b) ∧ O2 b ∧ (a.write = true → W2 b)) ∧
    (∀ op ∈ MemOp.ofEvents g fn pos es, op.act.low N) ∧ Wordless (MemOp.ofEvents g fn pos es) := by
  refine ⟨fun op ho => ?_, fun op ho a ha => ?_, fun op ho => ?_, fun op ho m hm => ?_⟩ <;> obtain ⟨e, he, rfl⟩ := Go.Conc.mem_ofEvents ho
  · rfl
  · exact evg_touch (h e he) ha
  · exact evg_low (h e he) hO
  · exact evg_word (h e he) m hm
/-- Goroutine 0 takes a step of its own. -/
theorem NC.own0 (h : NC s n wp w t Act) {g2 : Goroutine} {w2 : World} {es : Array Event} {O2 W2 : Nat → Prop} (hg : Gd s.O s.W O2 W2 w w2 es) (fn : FuncId) (pos : String) :
    NC { s with g := g2, w := w2, O := O2, W := W2 } n wp w2 (t ++ MemOp.ofEvents 0 fn pos es) Act := by
  have hO2 : ∀ b, O2 b → b < w2.heap.size := fun b hb => by
    rcases hg.newO b hb with q | q
    · have := h.lim0 b q; have := hg.size; omega
    · exact q.2
  obtain ⟨e1, e2, e3, e4⟩ := of_events hg.evs hO2 0 fn pos
  have hcell : ∀ i, i < n → Act i → w2.heap[(wp i).c]? = w.heap[(wp i).c]? := fun i hi ha => hg.kept _ (h.ch1 i hi ha).2.1 fun q => h.c0 i hi ha (h.sub0 _ q)
  refine ⟨Ry.refl _ _, fun i hi => (h.wr i hi).gd hg (fun b hb q => h.d0 i hi b q hb) (h.limw i hi), fun i hi ha => ?_, h.ch2, h.chd, h.act, fun i hi ha hm => ?_, hO2, fun i hi b hb => Nat.lt_of_lt_of_le (h.limw i hi b hb) hg.size, hg.sub, h.subw,
    fun i hi b hb q => ?_, fun i hi b hb q => ?_, h.d2, fun i hi ha q => ?_, h.cw, ?_⟩
  · obtain ⟨a, b, sn, c⟩ := h.ch1 i hi ha
    exact ⟨a, Nat.lt_of_lt_of_le b hg.size, sn, by rw [hcell i hi ha]; exact c⟩
  · exact ⟨(h.cl i hi ha hm).1, (h.cl i hi ha hm).2.app fun op ho hgi => by rw [e1 op ho] at hgi; omega⟩
  · rcases hg.newW b hb with z | z
    · exact h.d0 i hi b z q
    · have := h.limw i hi b q; omega
  · rcases hg.newO b q with z | z
    · exact h.d1 i hi b hb z
    · have := h.limw i hi b (h.subw i hi b hb); omega
  · rcases hg.newO _ q with z | z
    · exact h.c0 i hi ha z
    · have := (h.ch1 i hi ha).2.1; omega
  · have h1 := h.ti.own (N' := w2.heap.size) hg.size e1 e2 e3 e4 (fun b hb => (hg.newO b hb).imp (fun z => .inl ⟨rfl, z⟩) (·.1)) (fun b hb => (hg.newW b hb).imp (fun z => .inl ⟨rfl, z⟩) (·.1))
      (fun j hj b hb q => by
        rcases q with ⟨q, _⟩ | ⟨k, hk, rfl, q⟩
        · exact hj q
        · rcases hg.newO b hb with z | z
          · rcases q with q | ⟨ha, _, rfl⟩
            · exact h.d1 k hk b q z
            · exact h.c0 k hk ha z
          · rcases q with q | ⟨ha, _, rfl⟩
            · have := h.limw k hk b (h.subw k hk b q); omega
            · have := (h.ch1 k hk ha).2.1; omega)
      (fun j hj b hb q => by
        rcases q with ⟨q, _⟩ | ⟨k, hk, rfl, q⟩
        · exact hj q
        · rcases hg.newW b hb with z | z
          · rcases q with q | ⟨ha, _, rfl⟩
            · exact h.d0 k hk b z q
            · exact h.c0 k hk ha (h.sub0 _ z)
          · rcases q with q | ⟨ha, _, rfl⟩
            · have := h.limw k hk b q; omega
            · have := (h.ch1 k hk ha).2.1; omega)
      (fun z => absurd rfl z)
    refine h1.less (Nat.le_refl _) (fun i b hb => .inl ?_) (fun i b hb => .inl ?_) (fun _ q => q)
    · rcases hb with ⟨rfl, hb⟩ | ⟨k, hk, rfl, hb⟩
      · simp only [if_true]; exact hb
      · simp only [if_neg (Nat.succ_ne_zero k)]; exact .inr ⟨k, hk, rfl, hb⟩
    · rcases hb with ⟨rfl, hb⟩ | ⟨k, hk, rfl, hb⟩
      · simp only [if_true]; exact hb
      · simp only [if_neg (Nat.succ_ne_zero k)]; exact .inr ⟨k, hk, rfl, hb⟩
def updw (wp : Nat → WP μ) (i : Nat) (y : WP μ) : Nat → WP μ := fun j => if j = i then y else wp j
theorem updw_same (wp : Nat → WP μ) (i : Nat) (y : WP μ) : updw wp i y i = y := if_pos rfl
theorem updw_ne (wp : Nat → WP μ) {i j : Nat} (y : WP μ) (h : j ≠ i) : updw wp i y j = wp j := if_neg h
/-- A worker takes a step of its own. -/
theorem NC.ownw (h : NC s n wp w t Act) {i : Nat} (hi : i < n) (hA : Act i) {g2 : Goroutine} {w2 : World} {es : Array Event} {O2 W2 : Nat → Prop} (hmd : (wp i).md = 0) (hg : Gd (wp i).O (wp i).W O2 W2 w w2 es) (fn : FuncId) (pos : String) :
    NC s n (updw wp i { wp i with g := g2, w := w2, O := O2, W := W2 }) w2 (t ++ MemOp.ofEvents (i + 1) fn pos es) Act := by
  have hO2 : ∀ b, O2 b → b < w2.heap.size := fun b hb => by
    rcases hg.newO b hb with q | q
    · have := h.limw i hi b q; have := hg.size; omega
    · exact q.2
  obtain ⟨e1, e2, e3, e4⟩ := of_events hg.evs hO2 (i + 1) fn pos
  have hcell : ∀ j, j < n → Act j → w2.heap[(wp j).c]? = w.heap[(wp j).c]? := fun j hj ha => hg.kept _ (h.ch1 j hj ha).2.1 fun q => h.cw j i hj hi ha (h.subw i hi _ q)
  have hc : ∀ j, (updw wp i { wp i with g := g2, w := w2, O := O2, W := W2 } j).c = (wp j).c ∧ (updw wp i { wp i with g := g2, w := w2, O := O2, W := W2 } j).out = (wp j).out ∧ (updw wp i { wp i with g := g2, w := w2, O := O2, W := W2 } j).md = (wp j).md := fun j => by
    by_cases e : j = i
    · subst e; rw [updw_same]; exact ⟨rfl, rfl, rfl⟩
    · rw [updw_ne _ _ e]; exact ⟨rfl, rfl, rfl⟩
  generalize hwp : updw wp i { wp i with g := g2, w := w2, O := O2, W := W2 } = wq at hc
  have hsame : wq i = { wp i with g := g2, w := w2, O := O2, W := W2 } := by rw [← hwp, updw_same]
  have hne : ∀ j, j ≠ i → wq j = wp j := fun j e => by rw [← hwp, updw_ne _ _ e]
  refine ⟨h.ry0.gd hg (fun b hb q => h.d1 i hi b q hb) h.lim0, fun j hj => ?_, fun j hj ha => ?_, fun c out q => ?_, fun j k hj hk ha hb => ?_, fun j hj ha => ?_, fun j hj ha hm => ?_, fun b hb => Nat.lt_of_lt_of_le (h.lim0 b hb) hg.size, fun j hj b hb => ?_, h.sub0, fun j hj b hb => ?_,
    fun j hj b hb q => ?_, fun j hj b hb q => ?_, fun j k hj hk hjk b hb q => ?_, fun j hj ha q => ?_, fun j k hj hk ha q => ?_, ?_⟩
  · by_cases e : j = i
    · subst e; rw [hsame]; exact Ry.refl _ _
    · rw [hne j e]; exact (h.wr j hj).gd hg (fun b hb q => h.d2 i j hi hj (Ne.symm e) b q hb) (h.limw j hj)
  · obtain ⟨a, b, sn, c⟩ := h.ch1 j hj ha
    rw [(hc j).1, (hc j).2.1, (hc j).2.2]
    exact ⟨a, Nat.lt_of_lt_of_le b hg.size, sn, by rw [hcell j hj ha]; exact c⟩
  · obtain ⟨k, a, b, c⟩ := h.ch2 c out q
    exact ⟨k, a, b, (hc k).1.trans c⟩
  · rw [(hc j).1, (hc k).1]; exact h.chd j k hj hk ha hb
  · rw [(hc j).2.2]; exact h.act j hj ha
  · rw [(hc j).2.2] at hm
    rw [(hc j).1, (hc j).2.1]
    have e : j ≠ i := fun e => by subst e; rw [hmd] at hm; cases hm
    exact ⟨(h.cl j hj ha hm).1, (h.cl j hj ha hm).2.app fun op ho hgi => by rw [e1 op ho] at hgi; exact absurd hgi (by omega)⟩
  · by_cases e : j = i
    · subst e; rw [hsame] at hb; exact hO2 b hb
    · rw [hne j e] at hb; exact Nat.lt_of_lt_of_le (h.limw j hj b hb) hg.size
  · by_cases e : j = i
    · subst e; rw [hsame] at hb ⊢; exact hg.sub b hb
    · rw [hne j e] at hb ⊢; exact h.subw j hj b hb
  · by_cases e : j = i
    · subst e
      rw [hsame] at q
      rcases hg.newO b q with z | z
      · exact h.d0 j hj b hb z
      · have := h.lim0 b (h.sub0 b hb); omega
    · rw [hne j e] at q; exact h.d0 j hj b hb q
  · by_cases e : j = i
    · subst e
      rw [hsame] at hb
      rcases hg.newW b hb with z | z
      · exact h.d1 j hj b z q
      · have := h.lim0 b q; omega
    · rw [hne j e] at hb; exact h.d1 j hj b hb q
  · by_cases e : j = i
    · subst e
      rw [hsame] at hb
      rw [hne k (Ne.symm hjk)] at q
      rcases hg.newW b hb with z | z
      · exact h.d2 j k hj hk hjk b z q
      · have := h.limw k hk b q; omega
    · rw [hne j e] at hb
      by_cases e' : k = i
      · subst e'
        rw [hsame] at q
        rcases hg.newO b q with z | z
        · exact h.d2 j k hj hk hjk b hb z
        · have := h.limw j hj b (h.subw j hj b hb); omega
      · rw [hne k e'] at q; exact h.d2 j k hj hk hjk b hb q
  · rw [(hc j).1] at q; exact h.c0 j hj ha q
  · rw [(hc j).1] at q
    by_cases e : k = i
    · subst e
      rw [hsame] at q
      rcases hg.newO _ q with z | z
      · exact h.cw j k hj hk ha z
      · have := (h.ch1 j hj ha).2.1; omega
    · rw [hne k e] at q; exact h.cw j k hj hk ha q
  · have h1 := h.ti.own (N' := w2.heap.size) hg.size (O' := fun b => O2 b ∨ b = (wp i).c) (W' := fun b => W2 b ∨ b = (wp i).c) e1 (fun op ho a ha => by
        obtain ⟨b, q1, q2, q3, q4⟩ := e2 op ho a ha
        exact ⟨b, q1, q2, .inl q3, fun z => .inl (q4 z)⟩) e3 e4
      (fun b hb => by
        rcases hb with hb | rfl
        · exact (hg.newO b hb).imp (fun z => .inr ⟨i, hi, rfl, .inl z⟩) (·.1)
        · exact .inl (.inr ⟨i, hi, rfl, .inr ⟨hA, by rw [hmd]; decide, rfl⟩⟩))
      (fun b hb => by
        rcases hb with hb | rfl
        · exact (hg.newW b hb).imp (fun z => .inr ⟨i, hi, rfl, .inl z⟩) (·.1)
        · exact .inl (.inr ⟨i, hi, rfl, .inr ⟨hA, by rw [hmd]; decide, rfl⟩⟩))
      (fun j hj b hb q => by
        rcases q with ⟨rfl, q⟩ | ⟨k, hk, rfl, q⟩
        · rcases hb with hb | rfl
          · rcases hg.newO b hb with z | z
            · exact h.d0 i hi b q z
            · have := h.lim0 b (h.sub0 b q); omega
          · exact h.c0 i hi hA (h.sub0 _ q)
        · have hki : k ≠ i := fun e => hj (by rw [e])
          rcases hb with hb | rfl
          · rcases hg.newO b hb with z | z
            · rcases q with q | ⟨ha, _, rfl⟩
              · exact h.d2 k i hk hi hki b q z
              · exact h.cw k i hk hi ha z
            · rcases q with q | ⟨ha, _, rfl⟩
              · have := h.limw k hk b (h.subw k hk b q); omega
              · have := (h.ch1 k hk ha).2.1; omega
          · rcases q with q | ⟨ha, _, e⟩
            · exact h.cw i k hi hk hA (h.subw k hk _ q)
            · exact hki (h.chd k i hk hi ha hA e.symm))
      (fun j hj b hb q => by
        rcases q with ⟨rfl, q⟩ | ⟨k, hk, rfl, q⟩
        · rcases hb with hb | rfl
          · rcases hg.newW b hb with z | z
            · exact h.d1 i hi b z q
            · have := h.lim0 b q; omega
          · exact h.c0 i hi hA q
        · have hki : k ≠ i := fun e => hj (by rw [e])
          rcases hb with hb | rfl
          · rcases hg.newW b hb with z | z
            · rcases q with q | ⟨ha, _, rfl⟩
              · exact h.d2 i k hi hk (Ne.symm hki) b z q
              · exact h.cw k i hk hi ha (h.subw i hi _ z)
            · rcases q with q | ⟨ha, _, rfl⟩
              · have := h.limw k hk b q; omega
              · have := (h.ch1 k hk ha).2.1; omega
          · rcases q with q | ⟨ha, _, e⟩
            · exact h.cw i k hi hk hA q
            · exact hki (h.chd k i hk hi ha hA e.symm))
      (fun _ => ⟨i, hi, rfl, hA⟩)
    refine h1.less (Nat.le_refl _) (fun j b hb => .inl ?_) (fun j b hb => .inl ?_) (fun _ q => q)
    · rcases hb with ⟨rfl, hb⟩ | ⟨k, hk, rfl, hb⟩
      · simp only [if_neg (Nat.succ_ne_zero i).symm]; exact .inl ⟨rfl, hb⟩
      · by_cases e : k = i
        · subst e
          simp only [if_true]
          rw [hsame] at hb
          exact hb.imp id fun z => z.2.2
        · simp only [if_neg (show ¬ (k + 1 = i + 1) by omega)]
          rw [hne k e] at hb
          exact .inr ⟨k, hk, rfl, hb⟩
    · rcases hb with ⟨rfl, hb⟩ | ⟨k, hk, rfl, hb⟩
      · simp only [if_neg (Nat.succ_ne_zero i).symm]; exact .inl ⟨rfl, hb⟩
      · by_cases e : k = i
        · subst e
          simp only [if_true]
          rw [hsame] at hb
          exact hb.imp id fun z => z.2.2
        · simp only [if_neg (show ¬ (k + 1 = i + 1) by omega)]
          rw [hne k e] at hb
          exact .inr ⟨k, hk, rfl, hb⟩
end
end Go.Proofs.YtfbdgdphpdhcpaaDoor.Sm
namespace Go.Proofs.YtfbdgdphpdhcpaaDoor.Sm
open Go Go.Conc

section
variable {μ : Type} {s : MP μ} {n : Nat} {wp : Nat → WP μ} {w : World} {t : Trace} {Act : Nat → Prop}
theorem NC.at (h : NC s n wp w t Act) (d : Nat) : NC s n wp (w.at d) t Act :=
  ⟨h.ry0, h.wr, h.ch1, h.ch2, h.chd, h.act, h.cl, h.lim0, h.limw, h.sub0, h.subw, h.d0, h.d1, h.d2, h.c0, h.cw, h.ti⟩
theorem NC.g0 (h : NC s n wp w t Act) (g2 : Goroutine) : NC { s with g := g2 } n wp w t Act :=
  ⟨h.ry0, h.wr, h.ch1, h.ch2, h.chd, h.act, h.cl, h.lim0, h.limw, h.sub0, h.subw, h.d0, h.d1, h.d2, h.c0, h.cw, h.ti⟩
/-- A worker waits, or goes a step on its way out. -/
theorem NC.like (h : NC s n wp w t Act) {i : Nat} (hi : i < n) (y : WP μ) (e1 : y.O = (wp i).O) (e2 : y.W = (wp i).W) (e3 : y.c = (wp i).c) (e4 : y.out = (wp i).out) (hm : y.md = 2 ↔ (wp i).md = 2) (hw : Ry y.O y.w w) : NC s n (updw wp i y) w t Act := by
  have eO : ∀ j, (updw wp i y j).O = (wp j).O := fun j => by
    by_cases e : j = i
    · subst e; rw [updw_same]; exact e1
    · rw [updw_ne _ _ e]
  have eW : ∀ j, (updw wp i y j).W = (wp j).W := fun j => by
    by_cases e : j = i
    · subst e; rw [updw_same]; exact e2
    · rw [updw_ne _ _ e]
  have ec : ∀ j, (updw wp i y j).c = (wp j).c := fun j => by
    by_cases e : j = i
    · subst e; rw [updw_same]; exact e3
    · rw [updw_ne _ _ e]
  have eo : ∀ j, (updw wp i y j).out = (wp j).out := fun j => by
    by_cases e : j = i
    · subst e; rw [updw_same]; exact e4
    · rw [updw_ne _ _ e]
  have em : ∀ j, (updw wp i y j).md = 2 ↔ (wp j).md = 2 := fun j => by
    by_cases e : j = i
    · subst e; rw [updw_same]; exact hm
    · rw [updw_ne _ _ e]
  have er : ∀ j, j < n → Ry (updw wp i y j).O (updw wp i y j).w w := fun j hj => by
    by_cases e : j = i
    · subst e; rw [updw_same]; exact hw
    · rw [updw_ne _ _ e]; exact h.wr j hj
  generalize updw wp i y = wq at *
  refine ⟨h.ry0, er, fun j hj ha => ?_, fun c out q => ?_, fun j k hj hk ha hb => ?_, fun j hj ha => (em j).2 (h.act j hj ha), fun j hj ha q => ?_, h.lim0, fun j hj b hb => ?_, h.sub0, fun j hj b hb => ?_, fun j hj b hb => ?_, fun j hj b hb => ?_, fun j k hj hk hjk b hb => ?_, fun j hj ha => ?_, fun j k hj hk ha => ?_, ?_⟩
  · obtain ⟨a, b, sn, c⟩ := h.ch1 j hj ha
    rw [ec, eo, show decide ((wq j).md = 2) = decide ((wp j).md = 2) from decide_eq_decide.2 (em j)]
    exact ⟨a, b, sn, c⟩
  · obtain ⟨k, a, b, c'⟩ := h.ch2 c out q
    exact ⟨k, a, b, (ec k).trans c'⟩
  · rw [ec, ec]; exact h.chd j k hj hk ha hb
  · rw [eo, ec]; exact h.cl j hj ha ((em j).1 q)
  · rw [eO] at hb; exact h.limw j hj b hb
  · rw [eW] at hb; rw [eO]; exact h.subw j hj b hb
  · rw [eO]; exact h.d0 j hj b hb
  · rw [eW] at hb; exact h.d1 j hj b hb
  · rw [eW] at hb; rw [eO]; exact h.d2 j k hj hk hjk b hb
  · rw [ec]; exact h.c0 j hj ha
  · rw [ec, eO]; exact h.cw j k hj hk ha
  · refine h.ti.less (Nat.le_refl _) (fun j b hb => .inl ?_) (fun j b hb => .inl ?_) (fun _ q => q)
    · rcases hb with hb | ⟨k, hk, rfl, hb⟩
      · exact .inl hb
      · rw [eO, ec] at hb
        exact .inr ⟨k, hk, rfl, hb.imp id fun z => ⟨z.1, fun q => z.2.1 ((em k).2 q), z.2.2⟩⟩
    · rcases hb with hb | ⟨k, hk, rfl, hb⟩
      · exact .inl hb
      · rw [eW, ec] at hb
        exact .inr ⟨k, hk, rfl, hb.imp id fun z => ⟨z.1, fun q => z.2.1 ((em k).2 q), z.2.2⟩⟩
/-- A go statement. -/
theorem NC.spawn (h : NC s n wp w t Act) {g2 child : Goroutine} {c : Nat} {out : List μ} {Oc Wc : Nat → Prop} (hWc : s.W c) (hcell : w.heap[c]? = some (.chan 0 #[] false 0 0 false)) (hch : s.ch c = none)
    (hOs : ∀ b, Oc b → s.O b) (hWs : ∀ b, Wc b → s.W b ∧ Oc b) (hOcc : ¬ Oc c) (x z : Value) (fn fn' : FuncId) (pos pos' : String) :
    NC ⟨g2, w, fun b => s.O b ∧ b ≠ c ∧ ¬ Wc b, fun b => s.W b ∧ b ≠ c ∧ ¬ Oc b, updc s.ch c (some out)⟩ (n + 1) (updw wp n ⟨child, w, Oc, Wc, c, out, 0, x, z⟩) w
      (t ++ #[{ g := 0, fn := fn, pos := pos, act := .go (n + 1) }, { g := n + 1, fn := fn', pos := pos', act := .start }]) (fun j => Act j ∨ j = n) := by
  have hclt : c < w.heap.size := h.lim0 c (h.sub0 c hWc)
  have hne : ∀ j, j < n → updw wp n ⟨child, w, Oc, Wc, c, out, 0, x, z⟩ j = wp j := fun j hj => updw_ne _ _ (by omega)
  have hsame : updw wp n ⟨child, w, Oc, Wc, c, out, 0, x, z⟩ n = ⟨child, w, Oc, Wc, c, out, 0, x, z⟩ := updw_same _ _ _
  generalize updw wp n ⟨child, w, Oc, Wc, c, out, 0, x, z⟩ = wq at *
  have hlt : ∀ j, j < n + 1 → j = n ∨ (j < n ∧ wq j = wp j) := fun j hj => by
    rcases Nat.lt_or_ge j n with q | q
    · exact .inr ⟨q, hne j q⟩
    · exact .inl (by omega)
  have hact : ∀ {j}, j < n → (Act j ∨ j = n) → Act j := fun {j} hj q => q.elim id fun e => by omega
  have hcne : ∀ j, j < n → Act j → (wp j).c ≠ c := fun j hj ha e => by
    have := (h.ch1 j hj ha).1
    rw [e, hch] at this; cases this
  refine ⟨Ry.refl _ _, fun j hj => ?_, fun j hj ha => ?_, fun d o q => ?_, fun j k hj hk ha hb => ?_, fun j hj ha => ?_, fun j hj ha q => ?_, fun b hb => h.lim0 b hb.1, fun j hj b hb => ?_, fun b hb => ⟨h.sub0 b hb.1, hb.2.1, fun q => hb.2.2 (hWs b q).2⟩, fun j hj b hb => ?_, fun j hj b hb q => ?_, fun j hj b hb q => ?_, fun j k hj hk hjk b hb q => ?_, fun j hj ha q => ?_, fun j k hj hk ha q => ?_, ?_⟩
  · rcases hlt j hj with rfl | ⟨q, e⟩
    · rw [hsame]; exact Ry.refl _ _
    · rw [e]; exact h.wr j q
  · rcases hlt j hj with rfl | ⟨q, e⟩
    · rw [hsame]; exact ⟨if_pos rfl, hclt, 0, hcell⟩
    · rw [e]
      obtain ⟨a, b, sn, c'⟩ := h.ch1 j q (hact q ha)
      exact ⟨(if_neg (hcne j q (hact q ha))).trans a, b, sn, c'⟩
  · by_cases e : d = c
    · subst e; exact ⟨n, Nat.lt_succ_self _, .inr rfl, by rw [hsame]⟩
    · have q' : s.ch d = some o := (if_neg e).symm.trans q
      obtain ⟨k, a, b, c'⟩ := h.ch2 d o q'
      exact ⟨k, by omega, .inl b, by rw [hne k a]; exact c'⟩
  · rcases hlt j hj with rfl | ⟨q, e⟩
    · rcases hlt k hk with rfl | ⟨q', e'⟩
      · intro _; rfl
      · rw [hsame, e']; intro z; exact absurd z.symm (hcne k q' (hact q' hb))
    · rcases hlt k hk with rfl | ⟨q', e'⟩
      · rw [hsame, e]; intro z; exact absurd z (hcne j q (hact q ha))
      · rw [e, e']; exact h.chd j k q q' (hact q ha) (hact q' hb)
  · rcases hlt j hj with rfl | ⟨q, e⟩
    · exact absurd (.inr rfl) ha
    · rw [e]; exact h.act j q fun z => ha (.inl z)
  · rcases hlt j hj with rfl | ⟨q', e⟩
    · rw [hsame] at q; cases q
    · rw [e] at q ⊢
      obtain ⟨a, b⟩ := h.cl j q' (hact q' ha) q
      refine ⟨a, b.app fun op ho hg => ?_⟩
      simp only [List.mem_toArray, List.mem_cons, List.not_mem_nil, or_false] at ho
      rcases ho with rfl | rfl <;> rfl
  · rcases hlt j hj with rfl | ⟨q, e⟩
    · rw [hsame] at hb; exact h.lim0 b (hOs b hb)
    · rw [e] at hb; exact h.limw j q b hb
  · rcases hlt j hj with rfl | ⟨q, e⟩
    · rw [hsame] at hb ⊢; exact (hWs b hb).2
    · rw [e] at hb ⊢; exact h.subw j q b hb
  · rcases hlt j hj with rfl | ⟨q', e⟩
    · rw [hsame] at q; exact hb.2.2 q
    · rw [e] at q; exact h.d0 j q' b hb.1 q
  · rcases hlt j hj with rfl | ⟨q', e⟩
    · rw [hsame] at hb; exact q.2.2 hb
    · rw [e] at hb; exact h.d1 j q' b hb q.1
  · rcases hlt j hj with rfl | ⟨q1, e⟩
    · rcases hlt k hk with rfl | ⟨q2, e'⟩
      · exact hjk rfl
      · rw [hsame] at hb; rw [e'] at q; exact h.d0 k q2 b (hWs b hb).1 q
    · rcases hlt k hk with rfl | ⟨q2, e'⟩
      · rw [e] at hb; rw [hsame] at q; exact h.d1 j q1 b hb (hOs b q)
      · rw [e] at hb; rw [e'] at q; exact h.d2 j k q1 q2 hjk b hb q
  · rcases hlt j hj with rfl | ⟨q1, e⟩
    · rw [hsame] at q; exact q.2.1 rfl
    · rw [e] at q; exact h.c0 j q1 (hact q1 ha) q.1
  · rcases hlt j hj with rfl | ⟨q1, e⟩
    · rw [hsame] at q
      rcases hlt k hk with rfl | ⟨q2, e'⟩
      · rw [hsame] at q; exact hOcc q
      · rw [e'] at q; exact h.d0 k q2 c hWc q
    · rw [e] at q
      rcases hlt k hk with rfl | ⟨q2, e'⟩
      · rw [hsame] at q; exact h.c0 j q1 (hact q1 ha) (hOs _ q)
      · rw [e'] at q; exact h.cw j k q1 q2 (hact q1 ha) q
  · have h1 := h.ti.spawn (n := n + 1) (fn := fn) (fn' := fn') (pos := pos) (pos' := pos') (O' := fun j b => OOf s n wp Act j b ∨ (j = n + 1 ∧ s.O b)) (W' := fun j b => WWf s n wp Act j b ∨ (j = n + 1 ∧ s.W b))
      (fun j b q => q.imp id fun z => ⟨z.1, .inl ⟨rfl, z.2⟩⟩) (fun j b q => q.imp id fun z => ⟨z.1, .inl ⟨rfl, z.2⟩⟩)
    refine h1.less (Nat.le_refl _) (fun j b hb => .inl ?_) (fun j b hb => .inl ?_) (fun g q => ?_)
    · rcases hb with ⟨rfl, hb⟩ | ⟨k, hk, rfl, hb⟩
      · exact .inl (.inl ⟨rfl, hb.1⟩)
      · rcases hlt k hk with rfl | ⟨q1, e⟩
        · rw [hsame] at hb
          refine .inr ⟨rfl, ?_⟩
          rcases hb with hb | ⟨_, _, rfl⟩
          · exact hOs b hb
          · exact h.sub0 _ hWc
        · rw [e] at hb
          exact .inl (.inr ⟨k, q1, rfl, hb.imp id fun z => ⟨hact q1 z.1, z.2⟩⟩)
    · rcases hb with ⟨rfl, hb⟩ | ⟨k, hk, rfl, hb⟩
      · exact .inl (.inl ⟨rfl, hb.1⟩)
      · rcases hlt k hk with rfl | ⟨q1, e⟩
        · rw [hsame] at hb
          refine .inr ⟨rfl, ?_⟩
          rcases hb with hb | ⟨_, _, rfl⟩
          · exact (hWs b hb).1
          · exact hWc
        · rw [e] at hb
          exact .inl (.inr ⟨k, q1, rfl, hb.imp id fun z => ⟨hact q1 z.1, z.2⟩⟩)
    · obtain ⟨k, hk, rfl, ha⟩ := q
      exact ⟨k, by omega, rfl, .inl ha⟩
end
end Go.Proofs.YtfbdgdphpdhcpaaDoor.Sm
