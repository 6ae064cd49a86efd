/-
  What is held of all together, behind a meeting, a close and its notice. No condition.
  The machine: scripts of workers and of goroutine 0 run to the end, whoever is picked. No condition.
  The machine: scripts of workers and of goroutine 0 run to the end, whoever is picked. No condition.
-/
import Derived.Test.YtfbdgdphpdhcpaaDoorNetX
import Derived.Conc.Pipeline3
import Derived.Conc.Starve
import Derived.Conc.Beside
namespace Go.Proofs.YtfbdgdphpdhcpaaDoor.Sm
open Go Go.Conc

section
variable {μ : Type} {s : MP μ} {n : Nat} {wp : Nat → WP μ} {w : World} {t : Trace} {Act : Nat → Prop}
theorem setChan_ne (w : World) {c c' cap : Nat} {buf : Array Value} {cl : Bool} {a b : Nat} {tm : Bool} (h : c' ≠ c) : (w.setChan c cap buf cl a b tm).heap[c']? = w.heap[c']? := by
  unfold World.setChan
  exact Array.getElem?_setIfInBounds_ne (Ne.symm h)
theorem setChan_self (w : World) {c cap : Nat} {buf : Array Value} {cl : Bool} {a b : Nat} {tm : Bool} (h : c < w.heap.size) : (w.setChan c cap buf cl a b tm).heap[c]? = some (.chan cap buf cl a b tm) := by
  unfold World.setChan
  exact Array.getElem?_setIfInBounds_self_of_lt h
theorem setChan_sz (w : World) {c cap : Nat} {buf : Array Value} {cl : Bool} {a b : Nat} {tm : Bool} : (w.setChan c cap buf cl a b tm).heap.size = w.heap.size := by
  unfold World.setChan
  exact Array.size_setIfInBounds
theorem ry_chan {O : Nat → Prop} {u : World} (h : Ry O u w) {c cap : Nat} {buf : Array Value} {cl : Bool} {a b : Nat} {tm : Bool} (hc : ¬ O c) : Ry O u (w.setChan c cap buf cl a b tm) :=
  ⟨by rw [setChan_sz]; exact h.1, fun d hd => by rw [setChan_ne _ (fun e => hc (by rw [← e]; exact hd))]; exact h.2.1 d hd, h.2.2.1, h.2.2.2⟩
theorem NC.rychan (h : NC s n wp w t Act) {i : Nat} (hi : i < n) (ha : Act i) {cap : Nat} {buf : Array Value} {cl : Bool} {a b : Nat} {tm : Bool} :
    Ry s.O s.w (w.setChan (wp i).c cap buf cl a b tm) ∧ ∀ j, j < n → Ry (wp j).O (wp j).w (w.setChan (wp i).c cap buf cl a b tm) :=
  ⟨ry_chan h.ry0 (h.c0 i hi ha), fun j hj => ry_chan (h.wr j hj) (h.cw i j hi hj ha)⟩
/-- A worker's value goes over. -/
theorem NC.meet (h : NC s n wp w t Act) {i : Nat} (hi : i < n) (ha : Act i) (hm : (wp i).md ≠ 2) {o : μ} {rest : List μ} (ho : (wp i).out = o :: rest) {Tr : Nat → Prop} (hT : ∀ b, Tr b → (wp i).W b) (g2 gi : Goroutine) (x z : Value) (sn : Nat) (cap : Nat) (fn fn' : FuncId) (pos pos' : String) :
    NC ⟨g2, w.setChan (wp i).c 0 #[] false (sn + 1) (sn + 1) false, fun b => s.O b ∨ Tr b, s.W, updc s.ch (wp i).c (some rest)⟩ n
      (updw wp i ⟨gi, w.setChan (wp i).c 0 #[] false (sn + 1) (sn + 1) false, (wp i).O, fun b => (wp i).W b ∧ ¬ Tr b, (wp i).c, rest, 0, x, z⟩) (w.setChan (wp i).c 0 #[] false (sn + 1) (sn + 1) false)
      (t ++ #[{ g := i + 1, fn := fn, pos := pos, act := .send (wp i).c sn }, { g := 0, fn := fn', pos := pos', act := .recv (wp i).c sn cap }, { g := i + 1, fn := fn, pos := pos, act := .sendDone (wp i).c sn }, { g := 0, fn := fn', pos := pos', act := .recvDone (wp i).c sn }]) Act := by
  obtain ⟨hry0, hryw⟩ := h.rychan hi ha (cap := 0) (buf := #[]) (cl := false) (a := sn + 1) (b := sn + 1) (tm := false)
  obtain ⟨hchi, hclt, _⟩ := h.ch1 i hi ha
  have hother : ∀ j, j < n → Act j → j ≠ i → (wp j).c ≠ (wp i).c := fun j hj hb e q => e (h.chd j i hj hi hb ha q)
  have hTO : ∀ b, Tr b → (wp i).O b := fun b hb => h.subw i hi b (hT b hb)
  generalize hw2 : w.setChan (wp i).c 0 #[] false (sn + 1) (sn + 1) false = w2 at *
  have hsz : w2.heap.size = w.heap.size := by rw [← hw2]; exact setChan_sz w
  have hcell : w2.heap[(wp i).c]? = some (.chan 0 #[] false (sn + 1) (sn + 1) false) := by rw [← hw2]; exact setChan_self w hclt
  have hoc : ∀ d, d ≠ (wp i).c → w2.heap[d]? = w.heap[d]? := fun d hd => by rw [← hw2]; exact setChan_ne w hd
  have hsame := updw_same wp i ⟨gi, w2, (wp i).O, fun b => (wp i).W b ∧ ¬ Tr b, (wp i).c, rest, 0, x, z⟩
  have hne : ∀ j, j ≠ i → updw wp i ⟨gi, w2, (wp i).O, fun b => (wp i).W b ∧ ¬ Tr b, (wp i).c, rest, 0, x, z⟩ j = wp j := fun j e => updw_ne _ _ e
  generalize updw wp i ⟨gi, w2, (wp i).O, fun b => (wp i).W b ∧ ¬ Tr b, (wp i).c, rest, 0, x, z⟩ = wq at *
  have ec : ∀ j, (wq j).c = (wp j).c := fun j => by
    by_cases e : j = i
    · subst e; rw [hsame]
    · rw [hne j e]
  have eO : ∀ j b, (wq j).O b → (wp j).O b := fun j b q => by
    by_cases e : j = i
    · subst e; rw [hsame] at q; exact q
    · rw [hne j e] at q; exact q
  have eW : ∀ j b, (wq j).W b → (wp j).W b := fun j b q => by
    by_cases e : j = i
    · subst e; rw [hsame] at q; exact q.1
    · rw [hne j e] at q; exact q
  have em : ∀ j, (wq j).md ≠ 2 → (wp j).md ≠ 2 := fun j q => by
    by_cases e : j = i
    · subst e; exact hm
    · rw [hne j e] at q; exact q
  refine ⟨Ry.refl _ _, fun j hj => ?_, fun j hj hb => ?_, fun d o' q => ?_, fun j k hj hk h1 h2 => ?_, fun j hj hb => ?_, fun j hj hb q => ?_, fun b hb => ?_, fun j hj b hb => ?_, fun b hb => .inl (h.sub0 b hb), fun j hj b hb => ?_, fun j hj b hb q => ?_, fun j hj b hb q => ?_, fun j k hj hk hjk b hb q => ?_, fun j hj hb q => ?_, fun j k hj hk hb q => ?_, ?_⟩
  · by_cases e : j = i
    · subst e; rw [hsame]; exact Ry.refl _ _
    · rw [hne j e]; exact hryw j hj
  · by_cases e : j = i
    · subst e; rw [hsame]; exact ⟨if_pos rfl, by rw [hsz]; exact hclt, sn + 1, hcell⟩
    · rw [hne j e]
      obtain ⟨a, b, m, c⟩ := h.ch1 j hj hb
      exact ⟨(if_neg (hother j hj hb e)).trans a, by rw [hsz]; exact b, m, by rw [hoc _ (hother j hj hb e)]; exact c⟩
  · by_cases e : d = (wp i).c
    · exact ⟨i, hi, ha, (ec i).trans e.symm⟩
    · have q' : s.ch d = some o' := (if_neg e).symm.trans q
      obtain ⟨k, a, b, c⟩ := h.ch2 d o' q'
      exact ⟨k, a, b, (ec k).trans c⟩
  · rw [ec, ec]; exact h.chd j k hj hk h1 h2
  · have : j ≠ i := fun e => hb (e ▸ ha)
    rw [hne j this]; exact h.act j hj hb
  · have : j ≠ i := fun e => by subst e; rw [hsame] at q; cases q
    rw [hne j this] at q ⊢
    obtain ⟨a, b⟩ := h.cl j hj hb q
    refine ⟨a, b.app fun op ho hg => ?_⟩
    simp only [List.mem_toArray, List.mem_cons, List.not_mem_nil, or_false] at ho
    rcases ho with rfl | rfl | rfl | rfl <;> rfl
  · rw [hsz]
    rcases hb with hb | hb
    · exact h.lim0 b hb
    · exact h.limw i hi b (hTO b hb)
  · rw [hsz]; exact h.limw j hj b (eO j b hb)
  · by_cases e : j = i
    · subst e; rw [hsame] at hb ⊢; exact h.subw j hj b hb.1
    · rw [hne j e] at hb ⊢; exact h.subw j hj b hb
  · exact h.d0 j hj b hb (eO j b q)
  · rcases q with q | q
    · exact h.d1 j hj b (eW j b hb) q
    · by_cases e : j = i
      · subst e; rw [hsame] at hb; exact hb.2 q
      · exact h.d2 j i hj hi e b (eW j b hb) (hTO b q)
  · exact h.d2 j k hj hk hjk b (eW j b hb) (eO k b q)
  · rw [ec] at q
    rcases q with q | q
    · exact h.c0 j hj hb q
    · exact h.cw j i hj hi hb (hTO _ q)
  · rw [ec] at q
    exact h.cw j k hj hk hb (eO k _ q)
  · rw [hsz]
    have h1 := h.ti.meet (i := i + 1) (c := (wp i).c) (s := sn) (cap := cap) (fn := fn) (fn' := fn') (pos := pos) (pos' := pos') hclt
      (O' := fun j b => OOf s n wp Act j b ∨ (j = 0 ∧ Tr b)) (W' := fun j b => WWf s n wp Act j b)
      (fun j b q => q.imp id fun z => ⟨z.1, .inr ⟨i, hi, rfl, .inl (hT b z.2)⟩⟩) (fun j b q => .inl q)
    refine h1.less (Nat.le_refl _) (fun j b hb => .inl ?_) (fun j b hb => .inl ?_) (fun _ q => q)
    · rcases hb with ⟨rfl, hb⟩ | ⟨k, hk, rfl, hb⟩
      · exact hb.imp (fun z => .inl ⟨rfl, z⟩) fun z => ⟨rfl, z⟩
      · rw [ec] at hb
        exact .inl (.inr ⟨k, hk, rfl, hb.imp (eO k b) fun z => ⟨z.1, em k z.2.1, z.2.2⟩⟩)
    · rcases hb with ⟨rfl, hb⟩ | ⟨k, hk, rfl, hb⟩
      · exact .inl ⟨rfl, hb⟩
      · rw [ec] at hb
        exact .inr ⟨k, hk, rfl, hb.imp (eW k b) fun z => ⟨z.1, em k z.2.1, z.2.2⟩⟩
/-- A worker closes its channel. -/
theorem NC.close (h : NC s n wp w t Act) {i : Nat} (hi : i < n) (ha : Act i) (hm : (wp i).md = 0) (ho : (wp i).out = []) (gi : Goroutine) (u : World) (hu : u.heap.size ≤ w.heap.size ∧ w.os = u.os ∧ w.output = u.output) (sn : Nat) (fn : FuncId) (pos : String) :
    NC s n (updw wp i { wp i with g := gi, w := u, O := fun _ => False, W := fun _ => False, md := 2 }) (w.setChan (wp i).c 0 #[] true sn sn false) (t ++ MemOp.ofEvents (i + 1) fn pos (closeEs (wp i).c)) Act := by
  obtain ⟨hry0, hryw⟩ := h.rychan hi ha (cap := 0) (buf := #[]) (cl := true) (a := sn) (b := sn) (tm := false)
  obtain ⟨hchi, hclt, _⟩ := h.ch1 i hi ha
  have hother : ∀ j, j < n → Act j → j ≠ i → (wp j).c ≠ (wp i).c := fun j hj hb e q => e (h.chd j i hj hi hb ha q)
  obtain ⟨hti, hcl⟩ := h.ti.close (i := i + 1) (c := (wp i).c) (fn := fn) (pos := pos) hclt (.inr ⟨i, hi, rfl, .inr ⟨ha, by rw [hm]; decide, rfl⟩⟩)
    (fun j hj q => by
      rcases q with ⟨rfl, q⟩ | ⟨k, hk, rfl, q⟩
      · exact h.c0 i hi ha (h.sub0 _ q)
      · have hki : k ≠ i := fun e => hj (by rw [e])
        rcases q with q | ⟨hb, _, e⟩
        · exact h.cw i k hi hk ha (h.subw k hk _ q)
        · exact hother k hk hb hki e.symm) ⟨i, hi, rfl, ha⟩
  have hops : ∀ op ∈ MemOp.ofEvents (i + 1) fn pos (closeEs (wp i).c), op.g = i + 1 := fun op hop => by
    obtain ⟨e, _, rfl⟩ := Go.Conc.mem_ofEvents hop
    rfl
  change TI (t ++ MemOp.ofEvents (i + 1) fn pos (closeEs (wp i).c)) _ _ _ _ at hti
  change ClosedBy (t ++ MemOp.ofEvents (i + 1) fn pos (closeEs (wp i).c)) _ _ at hcl
  generalize MemOp.ofEvents (i + 1) fn pos (closeEs (wp i).c) = ops at *
  generalize hw2 : w.setChan (wp i).c 0 #[] true sn sn false = w2 at *
  have hsz : w2.heap.size = w.heap.size := by rw [← hw2]; exact setChan_sz w
  have hcell : w2.heap[(wp i).c]? = some (.chan 0 #[] true sn sn false) := by rw [← hw2]; exact setChan_self w hclt
  have hoc : ∀ d, d ≠ (wp i).c → w2.heap[d]? = w.heap[d]? := fun d hd => by rw [← hw2]; exact setChan_ne w hd
  have hos : w2.os = w.os ∧ w2.output = w.output := by rw [← hw2]; exact ⟨rfl, rfl⟩
  have hsame := updw_same wp i { wp i with g := gi, w := u, O := fun _ => False, W := fun _ => False, md := 2 }
  have hne : ∀ j, j ≠ i → updw wp i { wp i with g := gi, w := u, O := fun _ => False, W := fun _ => False, md := 2 } j = wp j := fun j e => updw_ne _ _ e
  generalize updw wp i { wp i with g := gi, w := u, O := fun _ => False, W := fun _ => False, md := 2 } = wq at *
  have ec : ∀ j, (wq j).c = (wp j).c := fun j => by
    by_cases e : j = i
    · subst e; rw [hsame]
    · rw [hne j e]
  have eO : ∀ j b, (wq j).O b → (wp j).O b ∧ j ≠ i := fun j b q => by
    by_cases e : j = i
    · subst e; rw [hsame] at q; exact q.elim
    · rw [hne j e] at q; exact ⟨q, e⟩
  have eW : ∀ j b, (wq j).W b → (wp j).W b ∧ j ≠ i := fun j b q => by
    by_cases e : j = i
    · subst e; rw [hsame] at q; exact q.elim
    · rw [hne j e] at q; exact ⟨q, e⟩
  have em : ∀ j, (wq j).md ≠ 2 → (wp j).md ≠ 2 ∧ j ≠ i := fun j q => by
    by_cases e : j = i
    · subst e; rw [hsame] at q; exact absurd rfl q
    · rw [hne j e] at q; exact ⟨q, e⟩
  refine ⟨hry0, fun j hj => ?_, fun j hj hb => ?_, fun d o' q => ?_, fun j k hj hk h1 h2 => ?_, fun j hj hb => ?_, fun j hj hb q => ?_, fun b hb => ?_, fun j hj b hb => ?_, h.sub0, fun j hj b hb => ?_, fun j hj b hb q => ?_, fun j hj b hb q => ?_, fun j k hj hk hjk b hb q => ?_, fun j hj hb q => ?_, fun j k hj hk hb q => ?_, ?_⟩
  · by_cases e : j = i
    · subst e; rw [hsame]; exact ⟨by rw [hsz]; exact hu.1, fun _ q => q.elim, hos.1.trans hu.2.1, hos.2.trans hu.2.2⟩
    · rw [hne j e]; exact hryw j hj
  · by_cases e : j = i
    · subst e; rw [hsame]; exact ⟨hchi, by rw [hsz]; exact hclt, sn, hcell⟩
    · rw [hne j e]
      obtain ⟨a, b, m, c⟩ := h.ch1 j hj hb
      exact ⟨a, by rw [hsz]; exact b, m, by rw [hoc _ (hother j hj hb e)]; exact c⟩
  · obtain ⟨k, a, b, c⟩ := h.ch2 d o' q
    exact ⟨k, a, b, (ec k).trans c⟩
  · rw [ec, ec]; exact h.chd j k hj hk h1 h2
  · have : j ≠ i := fun e => hb (e ▸ ha)
    rw [hne j this]; exact h.act j hj hb
  · by_cases e : j = i
    · subst e; rw [hsame]; exact ⟨ho, hcl⟩
    · rw [hne j e] at q ⊢
      obtain ⟨a, b⟩ := h.cl j hj hb q
      exact ⟨a, b.app fun op hop hg => by rw [hops op hop] at hg; omega⟩
  · rw [hsz]; exact h.lim0 b hb
  · rw [hsz]; exact h.limw j hj b (eO j b hb).1
  · have := eW j b hb
    rw [hne j this.2]; exact h.subw j hj b this.1
  · exact h.d0 j hj b hb (eO j b q).1
  · exact h.d1 j hj b (eW j b hb).1 q
  · exact h.d2 j k hj hk hjk b (eW j b hb).1 (eO k b q).1
  · rw [ec] at q; exact h.c0 j hj hb q
  · rw [ec] at q; exact h.cw j k hj hk hb (eO k _ q).1
  · rw [hsz]
    refine hti.less (Nat.le_refl _) (fun j b hb => .inl ?_) (fun j b hb => .inl ?_) (fun _ q => q)
    · rcases hb with ⟨rfl, hb⟩ | ⟨k, hk, rfl, hb⟩
      · exact ⟨(Nat.succ_ne_zero i).symm, .inl ⟨rfl, hb⟩⟩
      · rw [ec] at hb
        rcases hb with hb | ⟨z1, z2, z3⟩
        · exact ⟨fun e => (eO k b hb).2 (by omega), .inr ⟨k, hk, rfl, .inl (eO k b hb).1⟩⟩
        · exact ⟨fun e => (em k z2).2 (by omega), .inr ⟨k, hk, rfl, .inr ⟨z1, (em k z2).1, z3⟩⟩⟩
    · rcases hb with ⟨rfl, hb⟩ | ⟨k, hk, rfl, hb⟩
      · exact ⟨(Nat.succ_ne_zero i).symm, .inl ⟨rfl, hb⟩⟩
      · rw [ec] at hb
        rcases hb with hb | ⟨z1, z2, z3⟩
        · exact ⟨fun e => (eW k b hb).2 (by omega), .inr ⟨k, hk, rfl, .inl (eW k b hb).1⟩⟩
        · exact ⟨fun e => (em k z2).2 (by omega), .inr ⟨k, hk, rfl, .inr ⟨z1, (em k z2).1, z3⟩⟩⟩
/-- Goroutine 0 notices the close. -/
theorem NC.noticed (h : NC s n wp w t Act) {i : Nat} (hi : i < n) (ha : Act i) (hm : (wp i).md = 2) (g2 : Goroutine) (fn : FuncId) (pos : String) :
    NC ⟨g2, w, s.O, s.W, updc s.ch (wp i).c none⟩ n wp w (t ++ #[{ g := 0, fn := fn, pos := pos, act := .recvClosed (wp i).c }]) (fun j => Act j ∧ j ≠ i) := by
  obtain ⟨hchi, hclt, _⟩ := h.ch1 i hi ha
  have hother : ∀ j, j < n → Act j → j ≠ i → (wp j).c ≠ (wp i).c := fun j hj hb e q => e (h.chd j i hj hi hb ha q)
  refine ⟨Ry.refl _ _, h.wr, fun j hj hb => ?_, fun d o' q => ?_, fun j k hj hk h1 h2 => h.chd j k hj hk h1.1 h2.1, fun j hj hb => ?_, fun j hj hb q => ?_, h.lim0, h.limw, h.sub0, h.subw, h.d0, h.d1, h.d2, fun j hj hb => h.c0 j hj hb.1, fun j k hj hk hb => h.cw j k hj hk hb.1, ?_⟩
  · obtain ⟨a, b⟩ := h.ch1 j hj hb.1
    exact ⟨(if_neg (hother j hj hb.1 hb.2)).trans a, b⟩
  · by_cases e : d = (wp i).c
    · have : updc s.ch (wp i).c none d = none := if_pos e
      have := this.symm.trans q
      cases this
    · have q' : s.ch d = some o' := (if_neg e).symm.trans q
      obtain ⟨k, a, b, c⟩ := h.ch2 d o' q'
      exact ⟨k, a, ⟨b, fun z => e (by rw [← c, z])⟩, c⟩
  · by_cases e : j = i
    · subst e; exact hm
    · exact h.act j hj fun z => hb ⟨z, e⟩
  · obtain ⟨a, b⟩ := h.cl j hj hb.1 q
    refine ⟨a, b.app fun op ho hg => ?_⟩
    simp only [List.mem_toArray, List.mem_cons, List.not_mem_nil, or_false] at ho
    subst ho; rfl
  · have h1 := h.ti.noticed (i := i + 1) (fn := fn) (pos := pos) hclt (h.cl i hi ha hm).2
    refine h1.less (Nat.le_refl _) (fun j b hb => .inl ?_) (fun j b hb => .inl ?_) (fun g q => ?_)
    · rcases hb with hb | ⟨k, hk, rfl, hb⟩
      · exact .inl hb
      · exact .inr ⟨k, hk, rfl, hb.imp id fun z => ⟨z.1.1, z.2⟩⟩
    · rcases hb with hb | ⟨k, hk, rfl, hb⟩
      · exact .inl hb
      · exact .inr ⟨k, hk, rfl, hb.imp id fun z => ⟨z.1.1, z.2⟩⟩
    · obtain ⟨⟨k, hk, rfl, hb⟩, hne⟩ := q
      exact ⟨k, hk, rfl, hb, fun e => hne (by rw [e])⟩
end
end Go.Proofs.YtfbdgdphpdhcpaaDoor.Sm
namespace Go.Proofs.YtfbdgdphpdhcpaaDoor.Sm
open Go Go.Conc

section
variable {μ : Type} {P : Program}
/-- The run from here ends well. -/
def Win (P : Program) (Fin : Value → World → Prop) (m : Machine) (t : Trace) : Prop :=
  ∃ n last o w t', runNT P (n + 1) m t = (.ended o w, t') ∧ runN P n m = .next last ∧ step P last = .ended o w ∧ Go.Conc.Good P Fin last o w t'
theorem Win.next {Fin : Value → World → Prop} {m m' : Machine} {t ops : Trace} (hs : stepT P m = (.next m', ops)) (h : Win P Fin m' (t ++ ops)) : Win P Fin m t := by
  obtain ⟨n, last, o, w, t', h1, h2, h3, h4⟩ := h
  exact ⟨n + 1, last, o, w, t', by rw [runNT_succ_next hs]; exact h1, by rw [runN_succ_next hs]; exact h2, h3, h4⟩
theorem Win.last {Fin : Value → World → Prop} {m : Machine} {t ops : Trace} {o : Outcome} {w : World} (hs : stepT P m = (.ended o w, ops)) (hq : Go.Conc.Good P Fin m o w (t ++ ops)) : Win P Fin m t :=
  ⟨0, m, o, w, t ++ ops, by simp [runNT, hs], rfl, by simp [step, hs], hq⟩
/-- A worker's record in the machine. -/
def wrec (p : WP μ) : Goroutine := if p.md = 1 then parked p.g #[scase p.c p.x p.z] .send else p.g
def WOk (p : WP μ) : Prop := (p.md = 0 ∧ p.g.status = .running) ∨ p.md = 1 ∨ (p.md = 2 ∧ (p.g.status = .finished ∨ p.g.status = .running))
theorem WSF.ok {Msg : World → (Nat → Prop) → Value → μ → Prop} {X : WP μ → Prop} {p : WP μ} (h : WSF P Msg X p) : WOk p := by
  rcases h with ⟨a, b, _⟩ | ⟨a, _⟩ | ⟨a, _, b⟩
  · exact .inl ⟨a, b⟩
  · exact .inr (.inl a)
  · exact .inr (.inr ⟨a, b.imp id (·.1)⟩)
theorem WS.ok {Msg : World → (Nat → Prop) → Value → μ → Prop} {p : WP μ} (h : WS P Msg p) : WOk p := (Lfp.out WSF.mono h).ok
theorem wrec_run {p : WP μ} (h : p.md ≠ 1) : wrec p = p.g := if_neg h
theorem wrec_parked {p : WP μ} (h : p.md = 1) : wrec p = parked p.g #[scase p.c p.x p.z] .send := if_pos h
theorem WOk.noRecv {p : WP μ} (h : WOk p) (r : Nat) : offersAt (wrec p) r false = [] := by
  rcases h with ⟨a, b⟩ | a | ⟨a, b⟩
  · rw [wrec_run (by omega)]; exact offersAt_of_not_blocked (by rw [b]; simp) _ _
  · rw [wrec_parked a]; exact offersAt_parked_send' _ _ _ _ _ _
  · rw [wrec_run (by omega)]; exact offersAt_of_not_blocked (by rcases b with b | b <;> rw [b] <;> simp) _ _
theorem WOk.noSend {p : WP μ} (h : WOk p) {r : Nat} (hr : p.md = 1 → p.c ≠ r) : offersAt (wrec p) r true = [] := by
  rcases h with ⟨a, b⟩ | a | ⟨a, b⟩
  · rw [wrec_run (by omega)]; exact offersAt_of_not_blocked (by rw [b]; simp) _ _
  · rw [wrec_parked a, offersAt_parked_send, if_neg (hr a)]
  · rw [wrec_run (by omega)]; exact offersAt_of_not_blocked (by rcases b with b | b <;> rw [b] <;> simp) _ _
theorem WOk.awake {p : WP μ} (h : WOk p) : awake (wrec p) := by
  intro z
  rcases h with ⟨a, b⟩ | a | ⟨a, b⟩
  · rw [wrec_run (by omega), b]; simp
  · rw [wrec_parked a]; simp [parked]
  · rw [wrec_run (by omega)]; rcases b with b | b <;> rw [b] <;> simp
/-- The machine's goroutines. -/
structure GS (g0 : Goroutine) (n : Nat) (wp : Nat → WP μ) (gs : Array Goroutine) : Prop where
  size : gs.size = n + 1
  zero : gs[0]? = some g0
  rest : ∀ i, i < n → gs[i + 1]? = some (wrec (wp i))
variable {g0 : Goroutine} {n : Nat} {wp : Nat → WP μ} {gs : Array Goroutine}
theorem GS.cases (h : GS g0 n wp gs) {j : Nat} {x : Goroutine} (hj : gs[j]? = some x) : (j = 0 ∧ x = g0) ∨ ∃ i, i < n ∧ j = i + 1 ∧ x = wrec (wp i) := by
  match j, hj with
  | 0, hj => exact .inl ⟨rfl, Option.some.inj (hj.symm.trans h.zero)⟩
  | j + 1, hj =>
    have hlt : j < n := by
      obtain ⟨q, _⟩ := Array.getElem?_eq_some_iff.1 hj
      have := h.size
      omega
    exact .inr ⟨j, hlt, rfl, Option.some.inj (hj.symm.trans (h.rest j hlt))⟩
theorem GS.go_w (h : GS g0 n wp gs) {i : Nat} (hi : i < n) {f : Goroutine → Goroutine} (hf : ∀ j, j < n → j ≠ i → f (wrec (wp j)) = wrec (wp j)) {y : WP μ} {g : Goroutine} (hg : g = wrec y) :
    GS (f g0) n (updw wp i y) ((gs.map f).setIfInBounds (i + 1) g) := by
  refine ⟨by simp [h.size], ?_, fun j hj => ?_⟩
  · rw [Array.getElem?_setIfInBounds_ne (by omega), Array.getElem?_map, h.zero]; rfl
  · by_cases e : j = i
    · subst e
      rw [Array.getElem?_setIfInBounds_self_of_lt (by rw [Array.size_map, h.size]; omega), updw_same, hg]
    · rw [Array.getElem?_setIfInBounds_ne (by omega), Array.getElem?_map, h.rest j hj, updw_ne _ _ e]
      simp [hf j hj e]
theorem GS.go_0 (h : GS g0 n wp gs) {f : Goroutine → Goroutine} (hf : ∀ j, j < n → f (wrec (wp j)) = wrec (wp j)) (g : Goroutine) : GS g n wp ((gs.map f).setIfInBounds 0 g) := by
  refine ⟨by simp [h.size], ?_, fun j hj => ?_⟩
  · rw [Array.getElem?_setIfInBounds_self_of_lt (by rw [Array.size_map, h.size]; omega)]
  · rw [Array.getElem?_setIfInBounds_ne (by omega), Array.getElem?_map, h.rest j hj]
    simp [hf j hj]
theorem GS.set_w (h : GS g0 n wp gs) {i : Nat} (hi : i < n) {y : WP μ} {g : Goroutine} (hg : g = wrec y) : GS g0 n (updw wp i y) (gs.setIfInBounds (i + 1) g) := by
  have := h.go_w hi (f := id) (fun _ _ _ => rfl) hg
  rw [Array.map_id] at this
  exact this
theorem GS.set_0 (h : GS g0 n wp gs) (g : Goroutine) : GS g n wp (gs.setIfInBounds 0 g) := by
  have := h.go_0 (f := id) (fun _ _ => rfl) g
  rw [Array.map_id] at this
  exact this
theorem GS.push (h : GS g0 n wp gs) (y : WP μ) {g : Goroutine} (hg : g = wrec y) : GS g0 (n + 1) (updw wp n y) (gs.push g) := by
  refine ⟨by simp [h.size], ?_, fun j hj => ?_⟩
  · rw [Array.getElem?_push_lt (by rw [h.size]; omega)]
    have := h.zero
    rw [Array.getElem?_eq_getElem (by rw [h.size]; omega)] at this
    exact this
  · rcases Nat.lt_or_ge j n with q | q
    · rw [Array.getElem?_push_lt (by rw [h.size]; omega), updw_ne _ _ (by omega)]
      have := h.rest j q
      rw [Array.getElem?_eq_getElem (by rw [h.size]; omega)] at this
      exact this
    · have e : j = n := by omega
      subst e
      rw [updw_same, ← hg, ← h.size, Array.getElem?_push_size]
theorem GS.noRecv (h : GS g0 n wp gs) (hok : ∀ i, i < n → WOk (wp i)) {i r : Nat} (h0 : offersAt g0 r false = []) : partners (gs.setIfInBounds i ph) r false = [] := by
  refine partners_nil fun j g hj => ?_
  rcases getElem?_stand gs i j g hj with ⟨_, rfl⟩ | ⟨_, hj⟩
  · rfl
  · rcases h.cases hj with ⟨_, rfl⟩ | ⟨k, hk, _, rfl⟩
    · exact h0
    · exact (hok k hk).noRecv r
/-- Whoever is let try again stands as it stood. -/
theorem wake_w {s : MP μ} {w : World} {t : Trace} {Act : Nat → Prop} (h : NC s n wp w t Act) {a a' : Goroutine} {j : Nat} (hj : j < n) (hok : WOk (wp j)) : woken P a a' w (wrec (wp j)) = wrec (wp j) := by
  rcases hok with ⟨q, q'⟩ | q | ⟨q, q'⟩
  · rw [wrec_run (by omega)]; exact woken_run q'
  · have ha : Act j := Classical.byContradiction fun z => by have := h.act j hj z; omega
    obtain ⟨_, _, sn, hc⟩ := h.ch1 j hj ha
    rw [wrec_parked q]
    have e : decide ((wp j).md = 2) = false := by rw [q]; rfl
    rw [e] at hc
    exact woken_send_open _ _ hc
  · rw [wrec_run (by omega)]
    unfold Go.Conc.woken
    split
    · exact again_running _ q'.symm
    · rfl
/-- A worker on its way out goes. -/
theorem WS.quits {Msg : World → (Nat → Prop) → Value → μ → Prop} {p : WP μ} (h : WS P Msg p) (hm : p.md = 2) : ∃ k, QuitsIn P k p.g := by
  refine Lfp.ind WSF.mono (C := fun p => p.md = 2 → ∃ k, QuitsIn P k p.g) (fun p q hm => ?_) h hm
  rcases q with ⟨q, _⟩ | ⟨q, _⟩ | ⟨_, _, q | ⟨q1, g2, q2, q3, q4, q5⟩⟩
  · omega
  · omega
  · exact ⟨0, q⟩
  · obtain ⟨k, hk⟩ := q5 hm
    exact ⟨k + 1, .inr ⟨q1, g2, q2, hk⟩⟩
end
end Go.Proofs.YtfbdgdphpdhcpaaDoor.Sm
namespace Go.Proofs.YtfbdgdphpdhcpaaDoor.Sm
open Go Go.Conc

section
variable {μ : Type} {P : Program} {Msg : World → (Nat → Prop) → Value → μ → Prop} {Fin : Value → World → Prop}
def SA (s : MP μ) (g0 : Goroutine) : Prop := g0.frame = s.g.frame ∧ g0.callers = s.g.callers ∧ g0.dying = s.g.dying ∧ g0.status = .running
/-- Goroutine 0 runs. -/
def NIa (s : MP μ) (n : Nat) (wp : Nat → WP μ) (gs : Array Goroutine) (w : World) (t : Trace) : Prop := ∃ Act g0, NC s n wp w t Act ∧ GS g0 n wp gs ∧ SA s g0
/-- Goroutine 0 waits at the channel of a worker that runs. -/
def NIb (P : Program) (s : MP μ) (n : Nat) (wp : Nat → WP μ) (gs : Array Goroutine) (w : World) (t : Trace) : Prop :=
  ∃ Act k z, NC s n wp w t Act ∧ GS (parked (Go.Conc.core s.g) #[rcase (wp k).c z] (.recv true)) n wp gs ∧ k < n ∧ Act k ∧ (wp k).md = 0 ∧ ∀ w1, Ry s.O s.w w1 → stepG P true s.g w1 = .comm (Go.Conc.core s.g) #[rcase (wp k).c z] true (.recv true) w1 #[]
def CW (P : Program) (Msg : World → (Nat → Prop) → Value → μ → Prop) (Fin : Value → World → Prop) (s : MP μ) : Prop :=
  ∀ n wp, (∀ i, i < n → WS P Msg (wp i)) → ∀ gs w sl t, NIa s n wp gs w t ∨ NIb P s n wp gs w t → Win P Fin (crowd gs w sl) t
theorem ofE_none (g : Nat) (fn : FuncId) (pos : String) : MemOp.ofEvents g fn pos #[] = #[] := rfl
/-- How goroutine 0 stands while a worker goes: it runs, or it waits at worker k's channel. -/
def Z0 (s : MP μ) (n : Nat) (wp : Nat → WP μ) (Act : Nat → Prop) (g0 : Goroutine) : Prop :=
  SA s g0 ∨ ∃ k z, g0 = parked (Go.Conc.core s.g) #[rcase (wp k).c z] (.recv true) ∧ k < n ∧ Act k ∧ (wp k).md = 0
variable {s : MP μ} {n : Nat} {wp : Nat → WP μ} {w : World} {t : Trace} {Act : Nat → Prop} {g0 : Goroutine}
/-- What a worker's step makes of goroutine 0's record. -/
theorem Z0.wake (hz : Z0 s n wp Act g0) (hk : NC s n wp w t Act) {a a' : Goroutine} : woken P a a' w g0 = g0 := by
  rcases hz with q | ⟨k, z, rfl, hkn, hka, hkm⟩
  · exact woken_run q.2.2.2
  · obtain ⟨_, _, sn, hc⟩ := hk.ch1 k hkn hka
    rw [hkm] at hc
    exact woken_recv_open _ _ hc
theorem wake_shut {g a a' : Goroutine} {c sn : Nat} {z : Value} (hc : w.heap[c]? = some (.chan 0 #[] true sn sn false)) (hm : mayWake P a = true) (hs : a'.status = .running) :
    woken P a a' w (parked g #[rcase c z] (.recv true)) = { parked g #[rcase c z] (.recv true) with status := .running } := by
  unfold Go.Conc.woken
  rw [if_pos (by simp [hm, hs])]
  exact again_recv_closed hc
end
section
variable {μ : Type} {P : Program} {Msg : World → (Nat → Prop) → Value → μ → Prop} {Fin : Value → World → Prop} {s : MP μ} {n : Nat} {wp : Nat → WP μ}
/-- A worker is picked. -/
theorem worker_goes (hnode : MSF P Msg Fin (fun _ => False) (fun s => MS P Msg Fin (fun _ => False) s ∧ CW P Msg Fin s) s) (hT : ∀ i, i < n → WS P Msg (wp i))
    (hF : ∀ i, i < n → WSF P Msg (fun y => WS P Msg y ∧ ∀ gs w sl t, NIa s n (updw wp i y) gs w t ∨ NIb P s n (updw wp i y) gs w t → Win P Fin (crowd gs w sl) t) (wp i))
    {gs : Array Goroutine} {w : World} {sl : Option (Nat × Nat)} {t : Trace} {Act : Nat → Prop} {g0 : Goroutine} (hN : NC s n wp w t Act) (hG : GS g0 n wp gs)
    (hz : SA s g0 ∨ ∃ k z, g0 = parked (Go.Conc.core s.g) #[rcase (wp k).c z] (.recv true) ∧ k < n ∧ Act k ∧ (wp k).md = 0 ∧ ∀ w1, Ry s.O s.w w1 → stepG P true s.g w1 = .comm (Go.Conc.core s.g) #[rcase (wp k).c z] true (.recv true) w1 #[])
    {i : Nat} (hi : i < n) {g : Goroutine} (hg : gs[i + 1]? = some g) (hrun : g.status = .running) :
    ∃ m' ops, runT P (crowd gs w sl) (i + 1) = (.next m', ops) ∧ Win P Fin m' (t ++ ops) := by
  have hok : ∀ j, j < n → WOk (wp j) := fun j hj => (hT j hj).ok
  obtain rfl : g = wrec (wp i) := Option.some.inj (hg.symm.trans (hG.rest i hi))
  have hb : (i + 1 == 0) = false := rfl
  have hz0 : Z0 s n wp Act g0 := hz.imp id fun ⟨k, z, a, b, c, d, _⟩ => ⟨k, z, a, b, c, d⟩
  have hry := hN.wr i hi
  -- the same for the state behind: goroutine 0 as it stands
  have back : ∀ (y : WP μ) (gs' : Array Goroutine) (w' : World) (t' : Trace), y.c = (wp i).c → (∀ k z, (wp k).md = 0 → g0 = parked (Go.Conc.core s.g) #[rcase (wp k).c z] (.recv true) → k = i → y.md = 0) → NC s n (updw wp i y) w' t' Act → GS g0 n (updw wp i y) gs' → NIa s n (updw wp i y) gs' w' t' ∨ NIb P s n (updw wp i y) gs' w' t' := by
    intro y gs' w' t' hc hm h1 h2
    rcases hz with q | ⟨k, z, e, hkn, hka, hkm, hst⟩
    · exact .inl ⟨Act, g0, h1, h2, q⟩
    · have ec : (updw wp i y k).c = (wp k).c := by
        by_cases e' : k = i
        · subst e'; rw [updw_same]; exact hc
        · rw [updw_ne _ _ e']
      have em : (updw wp i y k).md = 0 := by
        by_cases e' : k = i
        · rw [e', updw_same]; exact hm k z hkm e e'
        · rw [updw_ne _ _ e']; exact hkm
      refine .inr ⟨Act, k, z, h1, ?_, hkn, hka, em, ?_⟩
      · rw [ec, ← e]; exact h2
      · rw [ec]; exact hst
  rcases hF i hi with ⟨q0, q1, q2, q⟩ | ⟨q0, _⟩ | ⟨q0, q1, q⟩
  · have hA : Act i := Classical.byContradiction fun z => by have := hN.act i hi z; omega
    have hwr : wrec (wp i) = (wp i).g := wrec_run (by omega)
    rw [hwr] at hg hrun
    obtain ⟨hchi, hclt, sn, hcell⟩ := hN.ch1 i hi hA
    rw [q0] at hcell
    rcases q with q | q | ⟨q3, q4, q⟩
    · -- a step of its own
      obtain ⟨g2, w2, es, O2, W2, hst, hgd, hof, hrn, hX, hC⟩ := q w hry
      have hrT := runT_crowd_go (P := P) (sl := sl) (i := i + 1) hg (by rw [hb]; exact hst)
      have hN2 := hN.ownw hi hA q0 (g2 := g2) hgd (wp i).g.frame.fn (wp i).g.frame.place
      refine ⟨_, _, hrT, hC _ _ _ _ (back _ _ _ _ rfl (fun _ _ _ _ _ => q0) hN2 ?_)⟩
      have hz2 : Z0 s n (updw wp i { wp i with g := g2, w := w2, O := O2, W := W2 }) Act g0 := hz0.imp id fun ⟨k, z, a, b, c, d⟩ => ⟨k, z, by
        by_cases e : k = i
        · subst e; rw [updw_same]; exact a
        · rw [updw_ne _ _ e]; exact a, b, c, by
        by_cases e : k = i
        · rw [e, updw_same]; exact q0
        · rw [updw_ne _ _ e]; exact d⟩
      have hw0 := hz2.wake (P := P) hN2 (a := (wp i).g) (a' := g2)
      have := hG.go_w hi (f := woken P (wp i).g g2 w2) (fun j hj e => by
        have h3 := wake_w (P := P) hN2 (a := (wp i).g) (a' := g2) hj (by rw [updw_ne _ _ e]; exact hok j hj)
        rw [updw_ne _ _ e] at h3
        exact h3) (y := { wp i with g := g2, w := w2, O := O2, W := W2 }) (g := g2) (wrec_run (p := { wp i with g := g2, w := w2, O := O2, W := W2 }) (by show (wp i).md ≠ 1; omega)).symm
      rw [hw0] at this
      exact this
    · -- it sends
      obtain ⟨g2, x, z, hst, hX, hC⟩ := q w hry
      have hst' : stepG P (i + 1 == 0) (wp i).g w = .comm g2 #[scase (wp i).c x z] true .send w #[] := by rw [hb]; exact hst
      by_cases hmeet : ∃ zc, g0 = parked (Go.Conc.core s.g) #[rcase (wp i).c zc] (.recv true)
      · -- goroutine 0 waits there
        obtain ⟨zc, rfl⟩ := hmeet
        rcases hz with hz | ⟨k, z', e, hkn, hka, hkm, hrecv⟩
        · exact absurd hz.2.2.2 (by simp [parked])
        have ek : k = i := by
          have e1 : (wp i).c = (wp k).c := by
            have := congrArg Goroutine.offers e
            simp only [parked, rcase, Option.some.injEq, Prod.mk.injEq, Array.mk.injEq, List.cons.injEq, CommCase.mk.injEq, Value.chan.injEq, and_true, true_and] at this
            exact this.1
          exact hN.chd k i hkn hi hka hA e1.symm
        subst ek
        have hpart : partners (gs.setIfInBounds (k + 1) ph) (wp k).c false = [(0, 0)] := by
          rw [partners_one (j := 0) (g := parked (Go.Conc.core s.g) #[rcase (wp k).c zc] (.recv true)) (stand_get (by omega) hG.zero) fun j y hj hy => ?_]
          · rw [offersAt_parked_recv, if_pos rfl]; rfl
          · rcases getElem?_stand gs _ j y hy with ⟨_, rfl⟩ | ⟨_, hy⟩
            · rfl
            · rcases hG.cases hy with ⟨e', _⟩ | ⟨l, hl, _, rfl⟩
              · exact absurd e' hj
              · exact (hok l hl).noRecv _
        have hrT := crowd_send_meets (P := P) (sl := sl) hg hst' hcell (by omega) hG.zero hpart
        rw [finishComm_send, finishComm_recv, ofE_none, Array.empty_append] at hrT
        -- the worker's script behind it
        obtain ⟨r0, _⟩ | ⟨r0, o, rest, Tr, r1, r2, r3⟩ | ⟨r0, _⟩ := Lfp.out WSF.mono hX
        · cases r0
        · have hry2 := (hN.rychan hi hA (cap := 0) (buf := #[]) (cl := false) (a := sn + 1) (b := sn + 1) (tm := false))
          obtain ⟨hmsg, hWS⟩ := r3 (w.setChan (wp k).c 0 #[] false (sn + 1) (sn + 1) false) (ry_chan (Ry.refl _ _) (hN.cw k k hi hi hA))
          have hN2 := hN.meet hi hA (by omega) r1 r2 (Go.Conc.served (Go.Conc.core s.g) (recvd true x true)) (Go.Conc.served g2 undef) x z sn 0 g2.frame.fn (Go.Conc.core s.g).frame.fn g2.frame.place (Go.Conc.core s.g).frame.place
          -- goroutine 0's node is a receive
          rcases hnode with hno | ⟨hn0, hno | hno | ⟨c', out, z2, hc', hcm, hnx, _⟩ | ⟨_, hno⟩⟩
          · exact (hno s.w (Ry.refl _ _)).elim
          · obtain ⟨_, _, _, _, _, hh, _⟩ := hno s.w (Ry.refl _ _); rw [hrecv _ (Ry.refl _ _)] at hh; cases hh
          · obtain ⟨_, _, _, _, _, _, hh, _⟩ := hno s.w (Ry.refl _ _); rw [hrecv _ (Ry.refl _ _)] at hh; cases hh
          · have hcm' := hcm s.w (Ry.refl _ _)
            rw [hrecv _ (Ry.refl _ _)] at hcm'
            have ec : c' = (wp k).c := by
              simp only [rcase, GStep.comm.injEq, Array.mk.injEq, List.cons.injEq, CommCase.mk.injEq, Value.chan.injEq, Option.some.injEq, and_true, true_and] at hcm'
              exact hcm'.1.symm
            subst ec
            have eo : out = (wp k).out := Option.some.inj (hc'.symm.trans hchi)
            have hX0 := hnx o rest (eo.trans r1) _ x Tr hry2.1 hmsg (fun b hb => ⟨hN.d1 k hi b (r2 b hb), by rw [setChan_sz]; exact hN.limw k hi b (hN.subw k hi b (r2 b hb))⟩)
            refine ⟨_, _, hrT, hX0.2 n _ (fun j hj => ?_) _ _ _ _ (.inl ⟨Act, _, hN2, ?_, rfl, rfl, rfl, rfl⟩)⟩
            · by_cases e' : j = k
              · subst e'; rw [updw_same]; exact hWS
              · rw [updw_ne _ _ e']; exact hT j hj
            · exact (hG.set_0 _).set_w hi rfl
          · obtain ⟨_, _, hh, _⟩ := hno s.w (Ry.refl _ _); rw [hrecv _ (Ry.refl _ _)] at hh; cases hh
        · cases r0
      · -- nobody waits there
        have h0 : offersAt g0 (wp i).c false = [] := by
          rcases hz with hz | ⟨k, z', e, hkn, hka, hkm, hrecv⟩
          · exact offersAt_of_not_blocked (by rw [hz.2.2.2]; simp) _ _
          · rw [e, offersAt_parked_recv, if_neg fun e' => hmeet ⟨z', by rw [e, e']⟩]
        have hrT := crowd_waits (P := P) (sl := sl) hg hst' (fun cc hcc => by
          have : cc = scase (wp i).c x z := by simpa using hcc
          subst this
          exact ways_send_none hcell (Nat.zero_le _) (hG.noRecv hok h0))
        rw [ofE_none] at hrT
        refine ⟨_, _, hrT, hC _ _ _ _ (back _ _ _ _ rfl (fun k z' _ e e' => absurd ⟨z', e' ▸ e⟩ hmeet) ?_ ?_)⟩
        · rw [Array.append_empty]
          exact hN.like hi _ rfl rfl rfl rfl (by show (1 : Nat) = 2 ↔ _; rw [q0]; decide) (Ry.refl _ _)
        · exact hG.set_w hi (wrec_parked (p := { wp i with g := g2, w := w, md := 1, x := x, z := z }) rfl).symm
    · -- it closes its channel
      obtain ⟨g2, hst, hrn, hof, hX, hC⟩ := q w sn hry hcell
      have hrT := runT_crowd_go (P := P) (sl := sl) (i := i + 1) hg (by rw [hb]; exact hst)
      have hN2 := hN.close hi hA q0 q3 g2 w ⟨Nat.le_refl _, rfl, rfl⟩ sn (wp i).g.frame.fn (wp i).g.frame.place
      have hGS := hG.go_w hi (f := woken P (wp i).g g2 (w.setChan (wp i).c 0 #[] true sn sn false)) (fun j hj e => by
        have h3 := wake_w (P := P) hN2 (a := (wp i).g) (a' := g2) hj (by rw [updw_ne _ _ e]; exact hok j hj)
        rw [updw_ne _ _ e] at h3
        exact h3) (y := { wp i with g := g2, w := w, O := fun _ => False, W := fun _ => False, md := 2 }) (g := g2) (wrec_run (p := { wp i with g := g2, w := w, O := fun _ => False, W := fun _ => False, md := 2 }) (by show (2 : Nat) ≠ 1; omega)).symm
      by_cases hmeet : ∃ zc, g0 = parked (Go.Conc.core s.g) #[rcase (wp i).c zc] (.recv true)
      · obtain ⟨zc, rfl⟩ := hmeet
        rw [wake_shut (setChan_self w hclt) q4 hrn] at hGS
        exact ⟨_, _, hrT, hC _ _ _ _ (.inl ⟨Act, _, hN2, hGS, rfl, rfl, rfl, rfl⟩)⟩
      · have hw0 : woken P (wp i).g g2 (w.setChan (wp i).c 0 #[] true sn sn false) g0 = g0 := by
          rcases hz with hz | ⟨k, z', e, hkn, hka, hkm, hrecv⟩
          · exact woken_run hz.2.2.2
          · have ek : k ≠ i := fun e' => hmeet ⟨z', e' ▸ e⟩
            obtain ⟨_, _, sn', hc⟩ := hN2.ch1 k hkn hka
            rw [updw_ne _ _ ek, hkm] at hc
            rw [e]
            exact woken_recv_open _ _ hc
        rw [hw0] at hGS
        exact ⟨_, _, hrT, hC _ _ _ _ (back _ _ _ _ rfl (fun k z' _ e e' => absurd ⟨z', e' ▸ e⟩ hmeet) hN2 hGS)⟩
  · -- it waits: it cannot be picked
    rw [wrec_parked q0] at hrun
    exact absurd hrun (by simp [parked])
  · -- it leaves
    have hwr : wrec (wp i) = (wp i).g := wrec_run (by omega)
    rw [hwr] at hg hrun
    rcases q with q | ⟨q2, g2, q3, q4, q5, q6⟩
    · rw [q] at hrun; cases hrun
    · have hrT := runT_crowd_go (P := P) (sl := sl) (i := i + 1) hg (by rw [hb]; exact q3 w)
      rw [ofE_none] at hrT
      have hN2 : NC s n (updw wp i { wp i with g := g2 }) w t Act := hN.like hi _ rfl rfl rfl rfl Iff.rfl hry
      have hGS := hG.go_w hi (f := woken P (wp i).g g2 w) (fun j hj e => wake_w (P := P) hN hj (hok j hj)) (y := { wp i with g := g2 }) (g := g2) (wrec_run (p := { wp i with g := g2 }) (by show (wp i).md ≠ 1; omega)).symm
      rw [hz0.wake hN] at hGS
      exact ⟨_, _, hrT, q6 _ _ _ _ (back _ _ _ _ rfl (fun k z' e0 _ e' => by rw [e'] at e0; omega) (by rw [Array.append_empty]; exact hN2) hGS)⟩
end
end Go.Proofs.YtfbdgdphpdhcpaaDoor.Sm
