/-
  What is held of all together, behind a go statement, a meeting, a close and its notice. No condition.
  What is held of all together, behind a meeting, a close and its notice. No condition.
-/
import Derived.Test.YtfbdgdphpdhcpaaDoorNetW
namespace Go.Proofs.YtfbdgdphpdhcpaaDoor.Sm
open Go Go.Conc

section
variable {μ : Type} {s : MP μ} {n : Nat} {wp : Nat → WP μ} {w : World} {t : Trace} {Act : Nat → Prop}
theorem NC.at (h : NC s n wp w t Act) (d : Nat) : NC s n wp (w.at d) t Act :=
  ⟨h.ry0, h.wr, h.ch1, h.ch2, h.chd, h.act, h.cl, h.lim0, h.limw, h.sub0, h.subw, h.d0, h.d1, h.d2, h.c0, h.cw, h.ti⟩
theorem NC.g0 (h : NC s n wp w t Act) (g2 : Goroutine) : NC { s with g := g2 } n wp w t Act :=
  ⟨h.ry0, h.wr, h.ch1, h.ch2, h.chd, h.act, h.cl, h.lim0, h.limw, h.sub0, h.subw, h.d0, h.d1, h.d2, h.c0, h.cw, h.ti⟩
/-- A worker waits, or goes a step on its way out. -/
theorem NC.like (h : NC s n wp w t Act) {i : Nat} (hi : i < n) (y : WP μ) (e1 : y.O = (wp i).O) (e2 : y.W = (wp i).W) (e3 : y.c = (wp i).c) (e4 : y.out = (wp i).out) (hm : y.md = 2 ↔ (wp i).md = 2) (hw : Ry y.O y.w w) : NC s n (updw wp i y) w t Act := by
  have eO : ∀ j, (updw wp i y j).O = (wp j).O := fun j => by
    by_cases e : j = i
    · subst e; rw [updw_same]; exact e1
    · rw [updw_ne _ _ e]
  have eW : ∀ j, (updw wp i y j).W = (wp j).W := fun j => by
    by_cases e : j = i
    · subst e; rw [updw_same]; exact e2
    · rw [updw_ne _ _ e]
  have ec : ∀ j, (updw wp i y j).c = (wp j).c := fun j => by
    by_cases e : j = i
    · subst e; rw [updw_same]; exact e3
    · rw [updw_ne _ _ e]
  have eo : ∀ j, (updw wp i y j).out = (wp j).out := fun j => by
    by_cases e : j = i
    · subst e; rw [updw_same]; exact e4
    · rw [updw_ne _ _ e]
  have em : ∀ j, (updw wp i y j).md = 2 ↔ (wp j).md = 2 := fun j => by
    by_cases e : j = i
    · subst e; rw [updw_same]; exact hm
    · rw [updw_ne _ _ e]
  have er : ∀ j, j < n → Ry (updw wp i y j).O (updw wp i y j).w w := fun j hj => by
    by_cases e : j = i
    · subst e; rw [updw_same]; exact hw
    · rw [updw_ne _ _ e]; exact h.wr j hj
  generalize updw wp i y = wq at *
  refine ⟨h.ry0, er, fun j hj ha => ?_, fun c out q => ?_, fun j k hj hk ha hb => ?_, fun j hj ha => (em j).2 (h.act j hj ha), fun j hj ha q => ?_, h.lim0, fun j hj b hb => ?_, h.sub0, fun j hj b hb => ?_, fun j hj b hb => ?_, fun j hj b hb => ?_, fun j k hj hk hjk b hb => ?_, fun j hj ha => ?_, fun j k hj hk ha => ?_, ?_⟩
  · obtain ⟨a, b, sn, c⟩ := h.ch1 j hj ha
    rw [ec, eo, show decide ((wq j).md = 2) = decide ((wp j).md = 2) from decide_eq_decide.2 (em j)]
    exact ⟨a, b, sn, c⟩
  · obtain ⟨k, a, b, c'⟩ := h.ch2 c out q
    exact ⟨k, a, b, (ec k).trans c'⟩
  · rw [ec, ec]; exact h.chd j k hj hk ha hb
  · rw [eo, ec]; exact h.cl j hj ha ((em j).1 q)
  · rw [eO] at hb; exact h.limw j hj b hb
  · rw [eW] at hb; rw [eO]; exact h.subw j hj b hb
  · rw [eO]; exact h.d0 j hj b hb
  · rw [eW] at hb; exact h.d1 j hj b hb
  · rw [eW] at hb; rw [eO]; exact h.d2 j k hj hk hjk b hb
  · rw [ec]; exact h.c0 j hj ha
  · rw [ec, eO]; exact h.cw j k hj hk ha
  · refine h.ti.less (Nat.le_refl _) (fun j b hb => .inl ?_) (fun j b hb => .inl ?_) (fun _ q => q)
    · rcases hb with hb | ⟨k, hk, rfl, hb⟩
      · exact .inl hb
      · rw [eO, ec] at hb
        exact .inr ⟨k, hk, rfl, hb.imp id fun z => ⟨z.1, fun q => z.2.1 ((em k).2 q), z.2.2⟩⟩
    · rcases hb with hb | ⟨k, hk, rfl, hb⟩
      · exact .inl hb
      · rw [eW, ec] at hb
        exact .inr ⟨k, hk, rfl, hb.imp id fun z => ⟨z.1, fun q => z.2.1 ((em k).2 q), z.2.2⟩⟩
/-- A go statement. -/
theorem NC.spawn (h : NC s n wp w t Act) {g2 child : Goroutine} {c : Nat} {out : List μ} {Oc Wc : Nat → Prop} (hWc : s.W c) (hcell : w.heap[c]? = some (.chan 0 #[] false 0 0 false)) (hch : s.ch c = none)
    (hOs : ∀ b, Oc b → s.O b) (hWs : ∀ b, Wc b → s.W b ∧ Oc b) (hOcc : ¬ Oc c) (x z : Value) (fn fn' : FuncId) (pos pos' : String) :
    NC ⟨g2, w, fun b => s.O b ∧ b ≠ c ∧ ¬ Wc b, fun b => s.W b ∧ b ≠ c ∧ ¬ Oc b, updc s.ch c (some out)⟩ (n + 1) (updw wp n ⟨child, w, Oc, Wc, c, out, 0, x, z⟩) w
      (t ++ #[{ g := 0, fn := fn, pos := pos, act := .go (n + 1) }, { g := n + 1, fn := fn', pos := pos', act := .start }]) (fun j => Act j ∨ j = n) := by
  have hclt : c < w.heap.size := h.lim0 c (h.sub0 c hWc)
  have hne : ∀ j, j < n → updw wp n ⟨child, w, Oc, Wc, c, out, 0, x, z⟩ j = wp j := fun j hj => updw_ne _ _ (by omega)
  have hsame : updw wp n ⟨child, w, Oc, Wc, c, out, 0, x, z⟩ n = ⟨child, w, Oc, Wc, c, out, 0, x, z⟩ := updw_same _ _ _
  generalize updw wp n ⟨child, w, Oc, Wc, c, out, 0, x, z⟩ = wq at *
  have hlt : ∀ j, j < n + 1 → j = n ∨ (j < n ∧ wq j = wp j) := fun j hj => by
    rcases Nat.lt_or_ge j n with q | q
    · exact .inr ⟨q, hne j q⟩
    · exact .inl (by omega)
  have hact : ∀ {j}, j < n → (Act j ∨ j = n) → Act j := fun {j} hj q => q.elim id fun e => by omega
  have hcne : ∀ j, j < n → Act j → (wp j).c ≠ c := fun j hj ha e => by
    have := (h.ch1 j hj ha).1
    rw [e, hch] at this; cases this
  refine ⟨Ry.refl _ _, fun j hj => ?_, fun j hj ha => ?_, fun d o q => ?_, fun j k hj hk ha hb => ?_, fun j hj ha => ?_, fun j hj ha q => ?_, fun b hb => h.lim0 b hb.1, fun j hj b hb => ?_, fun b hb => ⟨h.sub0 b hb.1, hb.2.1, fun q => hb.2.2 (hWs b q).2⟩, fun j hj b hb => ?_, fun j hj b hb q => ?_, fun j hj b hb q => ?_, fun j k hj hk hjk b hb q => ?_, fun j hj ha q => ?_, fun j k hj hk ha q => ?_, ?_⟩
  · rcases hlt j hj with rfl | ⟨q, e⟩
    · rw [hsame]; exact Ry.refl _ _
    · rw [e]; exact h.wr j q
  · rcases hlt j hj with rfl | ⟨q, e⟩
    · rw [hsame]; exact ⟨if_pos rfl, hclt, 0, hcell⟩
    · rw [e]
      obtain ⟨a, b, sn, c'⟩ := h.ch1 j q (hact q ha)
      exact ⟨(if_neg (hcne j q (hact q ha))).trans a, b, sn, c'⟩
  · by_cases e : d = c
    · subst e; exact ⟨n, Nat.lt_succ_self _, .inr rfl, by rw [hsame]⟩
    · have q' : s.ch d = some o := (if_neg e).symm.trans q
      obtain ⟨k, a, b, c'⟩ := h.ch2 d o q'
      exact ⟨k, by omega, .inl b, by rw [hne k a]; exact c'⟩
  · rcases hlt j hj with rfl | ⟨q, e⟩
    · rcases hlt k hk with rfl | ⟨q', e'⟩
      · intro _; rfl
      · rw [hsame, e']; intro z; exact absurd z.symm (hcne k q' (hact q' hb))
    · rcases hlt k hk with rfl | ⟨q', e'⟩
      · rw [hsame, e]; intro z; exact absurd z (hcne j q (hact q ha))
      · rw [e, e']; exact h.chd j k q q' (hact q ha) (hact q' hb)
  · rcases hlt j hj with rfl | ⟨q, e⟩
    · exact absurd (.inr rfl) ha
    · rw [e]; exact h.act j q fun z => ha (.inl z)
  · rcases hlt j hj with rfl | ⟨q', e⟩
    · rw [hsame] at q; cases q
    · rw [e] at q ⊢
      obtain ⟨a, b⟩ := h.cl j q' (hact q' ha) q
      refine ⟨a, b.app fun op ho hg => ?_⟩
      simp only [List.mem_toArray, List.mem_cons, List.not_mem_nil, or_false] at ho
      rcases ho with rfl | rfl <;> rfl
  · rcases hlt j hj with rfl | ⟨q, e⟩
    · rw [hsame] at hb; exact h.lim0 b (hOs b hb)
    · rw [e] at hb; exact h.limw j q b hb
  · rcases hlt j hj with rfl | ⟨q, e⟩
    · rw [hsame] at hb ⊢; exact (hWs b hb).2
    · rw [e] at hb ⊢; exact h.subw j q b hb
  · rcases hlt j hj with rfl | ⟨q', e⟩
    · rw [hsame] at q; exact hb.2.2 q
    · rw [e] at q; exact h.d0 j q' b hb.1 q
  · rcases hlt j hj with rfl | ⟨q', e⟩
    · rw [hsame] at hb; exact q.2.2 hb
    · rw [e] at hb; exact h.d1 j q' b hb q.1
  · rcases hlt j hj with rfl | ⟨q1, e⟩
    · rcases hlt k hk with rfl | ⟨q2, e'⟩
      · exact hjk rfl
      · rw [hsame] at hb; rw [e'] at q; exact h.d0 k q2 b (hWs b hb).1 q
    · rcases hlt k hk with rfl | ⟨q2, e'⟩
      · rw [e] at hb; rw [hsame] at q; exact h.d1 j q1 b hb (hOs b q)
      · rw [e] at hb; rw [e'] at q; exact h.d2 j k q1 q2 hjk b hb q
  · rcases hlt j hj with rfl | ⟨q1, e⟩
    · rw [hsame] at q; exact q.2.1 rfl
    · rw [e] at q; exact h.c0 j q1 (hact q1 ha) q.1
  · rcases hlt j hj with rfl | ⟨q1, e⟩
    · rw [hsame] at q
      rcases hlt k hk with rfl | ⟨q2, e'⟩
      · rw [hsame] at q; exact hOcc q
      · rw [e'] at q; exact h.d0 k q2 c hWc q
    · rw [e] at q
      rcases hlt k hk with rfl | ⟨q2, e'⟩
      · rw [hsame] at q; exact h.c0 j q1 (hact q1 ha) (hOs _ q)
      · rw [e'] at q; exact h.cw j k q1 q2 (hact q1 ha) q
  · have h1 := h.ti.spawn (n := n + 1) (fn := fn) (fn' := fn') (pos := pos) (pos' := pos') (O' := fun j b => OOf s n wp Act j b ∨ (j = n + 1 ∧ s.O b)) (W' := fun j b => WWf s n wp Act j b ∨ (j = n + 1 ∧ s.W b))
      (fun j b q => q.imp id fun z => ⟨z.1, .inl ⟨rfl, z.2⟩⟩) (fun j b q => q.imp id fun z => ⟨z.1, .inl ⟨rfl, z.2⟩⟩)
    refine h1.less (Nat.le_refl _) (fun j b hb => .inl ?_) (fun j b hb => .inl ?_) (fun g q => ?_)
    · rcases hb with ⟨rfl, hb⟩ | ⟨k, hk, rfl, hb⟩
      · exact .inl (.inl ⟨rfl, hb.1⟩)
      · rcases hlt k hk with rfl | ⟨q1, e⟩
        · rw [hsame] at hb
          refine .inr ⟨rfl, ?_⟩
          rcases hb with hb | ⟨_, _, rfl⟩
          · exact hOs b hb
          · exact h.sub0 _ hWc
        · rw [e] at hb
          exact .inl (.inr ⟨k, q1, rfl, hb.imp id fun z => ⟨hact q1 z.1, z.2⟩⟩)
    · rcases hb with ⟨rfl, hb⟩ | ⟨k, hk, rfl, hb⟩
      · exact .inl (.inl ⟨rfl, hb.1⟩)
      · rcases hlt k hk with rfl | ⟨q1, e⟩
        · rw [hsame] at hb
          refine .inr ⟨rfl, ?_⟩
          rcases hb with hb | ⟨_, _, rfl⟩
          · exact (hWs b hb).1
          · exact hWc
        · rw [e] at hb
          exact .inl (.inr ⟨k, q1, rfl, hb.imp id fun z => ⟨hact q1 z.1, z.2⟩⟩)
    · obtain ⟨k, hk, rfl, ha⟩ := q
      exact ⟨k, by omega, rfl, .inl ha⟩
end
end Go.Proofs.YtfbdgdphpdhcpaaDoor.Sm
namespace Go.Proofs.YtfbdgdphpdhcpaaDoor.Sm
open Go Go.Conc

section
variable {μ : Type} {s : MP μ} {n : Nat} {wp : Nat → WP μ} {w : World} {t : Trace} {Act : Nat → Prop}
theorem setChan_ne (w : World) {c c' cap : Nat} {buf : Array Value} {cl : Bool} {a b : Nat} {tm : Bool} (h : c' ≠ c) : (w.setChan c cap buf cl a b tm).heap[c']? = w.heap[c']? := by
  unfold World.setChan
  exact Array.getElem?_setIfInBounds_ne (Ne.symm h)
theorem setChan_self (w : World) {c cap : Nat} {buf : Array Value} {cl : Bool} {a b : Nat} {tm : Bool} (h : c < w.heap.size) : (w.setChan c cap buf cl a b tm).heap[c]? = some (.chan cap buf cl a b tm) := by
  unfold World.setChan
  exact Array.getElem?_setIfInBounds_self_of_lt h
theorem setChan_sz (w : World) {c cap : Nat} {buf : Array Value} {cl : Bool} {a b : Nat} {tm : Bool} : (w.setChan c cap buf cl a b tm).heap.size = w.heap.size := by
  unfold World.setChan
  exact Array.size_setIfInBounds
theorem ry_chan {O : Nat → Prop} {u : World} (h : Ry O u w) {c cap : Nat} {buf : Array Value} {cl : Bool} {a b : Nat} {tm : Bool} (hc : ¬ O c) : Ry O u (w.setChan c cap buf cl a b tm) :=
  ⟨by rw [setChan_sz]; exact h.1, fun d hd => by rw [setChan_ne _ (fun e => hc (by rw [← e]; exact hd))]; exact h.2.1 d hd, h.2.2.1, h.2.2.2⟩
theorem NC.rychan (h : NC s n wp w t Act) {i : Nat} (hi : i < n) (ha : Act i) {cap : Nat} {buf : Array Value} {cl : Bool} {a b : Nat} {tm : Bool} :
    Ry s.O s.w (w.setChan (wp i).c cap buf cl a b tm) ∧ ∀ j, j < n → Ry (wp j).O (wp j).w (w.setChan (wp i).c cap buf cl a b tm) :=
  ⟨ry_chan h.ry0 (h.c0 i hi ha), fun j hj => ry_chan (h.wr j hj) (h.cw i j hi hj ha)⟩
/-- A worker's value goes over. -/
theorem NC.meet (h : NC s n wp w t Act) {i : Nat} (hi : i < n) (ha : Act i) (hm : (wp i).md ≠ 2) {o : μ} {rest : List μ} (ho : (wp i).out = o :: rest) {Tr : Nat → Prop} (hT : ∀ b, Tr b → (wp i).W b) (g2 gi : Goroutine) (x z : Value) (sn : Nat) (cap : Nat) (fn fn' : FuncId) (pos pos' : String) :
    NC ⟨g2, w.setChan (wp i).c 0 #[] false (sn + 1) (sn + 1) false, fun b => s.O b ∨ Tr b, s.W, updc s.ch (wp i).c (some rest)⟩ n
      (updw wp i ⟨gi, w.setChan (wp i).c 0 #[] false (sn + 1) (sn + 1) false, (wp i).O, fun b => (wp i).W b ∧ ¬ Tr b, (wp i).c, rest, 0, x, z⟩) (w.setChan (wp i).c 0 #[] false (sn + 1) (sn + 1) false)
      (t ++ #[{ g := i + 1, fn := fn, pos := pos, act := .send (wp i).c sn }, { g := 0, fn := fn', pos := pos', act := .recv (wp i).c sn cap }, { g := i + 1, fn := fn, pos := pos, act := .sendDone (wp i).c sn }, { g := 0, fn := fn', pos := pos', act := .recvDone (wp i).c sn }]) Act := by
  obtain ⟨hry0, hryw⟩ := h.rychan hi ha (cap := 0) (buf := #[]) (cl := false) (a := sn + 1) (b := sn + 1) (tm := false)
  obtain ⟨hchi, hclt, _⟩ := h.ch1 i hi ha
  have hother : ∀ j, j < n → Act j → j ≠ i → (wp j).c ≠ (wp i).c := fun j hj hb e q => e (h.chd j i hj hi hb ha q)
  have hTO : ∀ b, Tr b → (wp i).O b := fun b hb => h.subw i hi b (hT b hb)
  generalize hw2 : w.setChan (wp i).c 0 #[] false (sn + 1) (sn + 1) false = w2 at *
  have hsz : w2.heap.size = w.heap.size := by rw [← hw2]; exact setChan_sz w
  have hcell : w2.heap[(wp i).c]? = some (.chan 0 #[] false (sn + 1) (sn + 1) false) := by rw [← hw2]; exact setChan_self w hclt
  have hoc : ∀ d, d ≠ (wp i).c → w2.heap[d]? = w.heap[d]? := fun d hd => by rw [← hw2]; exact setChan_ne w hd
  have hsame := updw_same wp i ⟨gi, w2, (wp i).O, fun b => (wp i).W b ∧ ¬ Tr b, (wp i).c, rest, 0, x, z⟩
  have hne : ∀ j, j ≠ i → updw wp i ⟨gi, w2, (wp i).O, fun b => (wp i).W b ∧ ¬ Tr b, (wp i).c, rest, 0, x, z⟩ j = wp j := fun j e => updw_ne _ _ e
  generalize updw wp i ⟨gi, w2, (wp i).O, fun b => (wp i).W b ∧ ¬ Tr b, (wp i).c, rest, 0, x, z⟩ = wq at *
  have ec : ∀ j, (wq j).c = (wp j).c := fun j => by
    by_cases e : j = i
    · subst e; rw [hsame]
    · rw [hne j e]
  have eO : ∀ j b, (wq j).O b → (wp j).O b := fun j b q => by
    by_cases e : j = i
    · subst e; rw [hsame] at q; exact q
    · rw [hne j e] at q; exact q
  have eW : ∀ j b, (wq j).W b → (wp j).W b := fun j b q => by
    by_cases e : j = i
    · subst e; rw [hsame] at q; exact q.1
    · rw [hne j e] at q; exact q
  have em : ∀ j, (wq j).md ≠ 2 → (wp j).md ≠ 2 := fun j q => by
    by_cases e : j = i
    · subst e; exact hm
    · rw [hne j e] at q; exact q
  refine ⟨Ry.refl _ _, fun j hj => ?_, fun j hj hb => ?_, fun d o' q => ?_, fun j k hj hk h1 h2 => ?_, fun j hj hb => ?_, fun j hj hb q => ?_, fun b hb => ?_, fun j hj b hb => ?_, fun b hb => .inl (h.sub0 b hb), fun j hj b hb => ?_, fun j hj b hb q => ?_, fun j hj b hb q => ?_, fun j k hj hk hjk b hb q => ?_, fun j hj hb q => ?_, fun j k hj hk hb q => ?_, ?_⟩
  · by_cases e : j = i
    · subst e; rw [hsame]; exact Ry.refl _ _
    · rw [hne j e]; exact hryw j hj
  · by_cases e : j = i
    · subst e; rw [hsame]; exact ⟨if_pos rfl, by rw [hsz]; exact hclt, sn + 1, hcell⟩
    · rw [hne j e]
      obtain ⟨a, b, m, c⟩ := h.ch1 j hj hb
      exact ⟨(if_neg (hother j hj hb e)).trans a, by rw [hsz]; exact b, m, by rw [hoc _ (hother j hj hb e)]; exact c⟩
  · by_cases e : d = (wp i).c
    · exact ⟨i, hi, ha, (ec i).trans e.symm⟩
    · have q' : s.ch d = some o' := (if_neg e).symm.trans q
      obtain ⟨k, a, b, c⟩ := h.ch2 d o' q'
      exact ⟨k, a, b, (ec k).trans c⟩
  · rw [ec, ec]; exact h.chd j k hj hk h1 h2
  · have : j ≠ i := fun e => hb (e ▸ ha)
    rw [hne j this]; exact h.act j hj hb
  · have : j ≠ i := fun e => by subst e; rw [hsame] at q; cases q
    rw [hne j this] at q ⊢
    obtain ⟨a, b⟩ := h.cl j hj hb q
    refine ⟨a, b.app fun op ho hg => ?_⟩
    simp only [List.mem_toArray, List.mem_cons, List.not_mem_nil, or_false] at ho
    rcases ho with rfl | rfl | rfl | rfl <;> rfl
  · rw [hsz]
    rcases hb with hb | hb
    · exact h.lim0 b hb
    · exact h.limw i hi b (hTO b hb)
  · rw [hsz]; exact h.limw j hj b (eO j b hb)
  · by_cases e : j = i
    · subst e; rw [hsame] at hb ⊢; exact h.subw j hj b hb.1
    · rw [hne j e] at hb ⊢; exact h.subw j hj b hb
  · exact h.d0 j hj b hb (eO j b q)
  · rcases q with q | q
    · exact h.d1 j hj b (eW j b hb) q
    · by_cases e : j = i
      · subst e; rw [hsame] at hb; exact hb.2 q
      · exact h.d2 j i hj hi e b (eW j b hb) (hTO b q)
  · exact h.d2 j k hj hk hjk b (eW j b hb) (eO k b q)
  · rw [ec] at q
    rcases q with q | q
    · exact h.c0 j hj hb q
    · exact h.cw j i hj hi hb (hTO _ q)
  · rw [ec] at q
    exact h.cw j k hj hk hb (eO k _ q)
  · rw [hsz]
    have h1 := h.ti.meet (i := i + 1) (c := (wp i).c) (s := sn) (cap := cap) (fn := fn) (fn' := fn') (pos := pos) (pos' := pos') hclt
      (O' := fun j b => OOf s n wp Act j b ∨ (j = 0 ∧ Tr b)) (W' := fun j b => WWf s n wp Act j b)
      (fun j b q => q.imp id fun z => ⟨z.1, .inr ⟨i, hi, rfl, .inl (hT b z.2)⟩⟩) (fun j b q => .inl q)
    refine h1.less (Nat.le_refl _) (fun j b hb => .inl ?_) (fun j b hb => .inl ?_) (fun _ q => q)
    · rcases hb with ⟨rfl, hb⟩ | ⟨k, hk, rfl, hb⟩
      · exact hb.imp (fun z => .inl ⟨rfl, z⟩) fun z => ⟨rfl, z⟩
      · rw [ec] at hb
        exact .inl (.inr ⟨k, hk, rfl, hb.imp (eO k b) fun z => ⟨z.1, em k z.2.1, z.2.2⟩⟩)
    · rcases hb with ⟨rfl, hb⟩ | ⟨k, hk, rfl, hb⟩
      · exact .inl ⟨rfl, hb⟩
      · rw [ec] at hb
        exact .inr ⟨k, hk, rfl, hb.imp (eW k b) fun z => ⟨z.1, em k z.2.1, z.2.2⟩⟩
/-- A worker closes its channel. -/
theorem NC.close (h : NC s n wp w t Act) {i : Nat} (hi : i < n) (ha : Act i) (hm : (wp i).md = 0) (ho : (wp i).out = []) (gi : Goroutine) (u : World) (hu : u.heap.size ≤ w.heap.size ∧ w.os = u.os ∧ w.output = u.output) (sn : Nat) (fn : FuncId) (pos : String) :
    NC s n (updw wp i { wp i with g := gi, w := u, O := fun _ => False, W := fun _ => False, md := 2 }) (w.setChan (wp i).c 0 #[] true sn sn false) (t ++ MemOp.ofEvents (i + 1) fn pos (closeEs (wp i).c)) Act := by
  obtain ⟨hry0, hryw⟩ := h.rychan hi ha (cap := 0) (buf := #[]) (cl := true) (a := sn) (b := sn) (tm := false)
  obtain ⟨hchi, hclt, _⟩ := h.ch1 i hi ha
  have hother : ∀ j, j < n → Act j → j ≠ i → (wp j).c ≠ (wp i).c := fun j hj hb e q => e (h.chd j i hj hi hb ha q)
  obtain ⟨hti, hcl⟩ := h.ti.close (i := i + 1) (c := (wp i).c) (fn := fn) (pos := pos) hclt (.inr ⟨i, hi, rfl, .inr ⟨ha, by rw [hm]; decide, rfl⟩⟩)
    (fun j hj q => by
      rcases q with ⟨rfl, q⟩ | ⟨k, hk, rfl, q⟩
      · exact h.c0 i hi ha (h.sub0 _ q)
      · have hki : k ≠ i := fun e => hj (by rw [e])
        rcases q with q | ⟨hb, _, e⟩
        · exact h.cw i k hi hk ha (h.subw k hk _ q)
        · exact hother k hk hb hki e.symm) ⟨i, hi, rfl, ha⟩
  have hops : ∀ op ∈ MemOp.ofEvents (i + 1) fn pos (closeEs (wp i).c), op.g = i + 1 := fun op hop => by
    obtain ⟨e, _, rfl⟩ := Go.Conc.mem_ofEvents hop
    rfl
  change TI (t ++ MemOp.ofEvents (i + 1) fn pos (closeEs (wp i).c)) _ _ _ _ at hti
  change ClosedBy (t ++ MemOp.ofEvents (i + 1) fn pos (closeEs (wp i).c)) _ _ at hcl
  generalize MemOp.ofEvents (i + 1) fn pos (closeEs (wp i).c) = ops at *
  generalize hw2 : w.setChan (wp i).c 0 #[] true sn sn false = w2 at *
  have hsz : w2.heap.size = w.heap.size := by rw [← hw2]; exact setChan_sz w
  have hcell : w2.heap[(wp i).c]? = some (.chan 0 #[] true sn sn false) := by rw [← hw2]; exact setChan_self w hclt
  have hoc : ∀ d, d ≠ (wp i).c → w2.heap[d]? = w.heap[d]? := fun d hd => by rw [← hw2]; exact setChan_ne w hd
  have hos : w2.os = w.os ∧ w2.output = w.output := by rw [← hw2]; exact ⟨rfl, rfl⟩
  have hsame := updw_same wp i { wp i with g := gi, w := u, O := fun _ => False, W := fun _ => False, md := 2 }
  have hne : ∀ j, j ≠ i → updw wp i { wp i with g := gi, w := u, O := fun _ => False, W := fun _ => False, md := 2 } j = wp j := fun j e => updw_ne _ _ e
  generalize updw wp i { wp i with g := gi, w := u, O := fun _ => False, W := fun _ => False, md := 2 } = wq at *
  have ec : ∀ j, (wq j).c = (wp j).c := fun j => by
    by_cases e : j = i
    · subst e; rw [hsame]
    · rw [hne j e]
  have eO : ∀ j b, (wq j).O b → (wp j).O b ∧ j ≠ i := fun j b q => by
    by_cases e : j = i
    · subst e; rw [hsame] at q; exact q.elim
    · rw [hne j e] at q; exact ⟨q, e⟩
  have eW : ∀ j b, (wq j).W b → (wp j).W b ∧ j ≠ i := fun j b q => by
    by_cases e : j = i
    · subst e; rw [hsame] at q; exact q.elim
    · rw [hne j e] at q; exact ⟨q, e⟩
  have em : ∀ j, (wq j).md ≠ 2 → (wp j).md ≠ 2 ∧ j ≠ i := fun j q => by
    by_cases e : j = i
    · subst e; rw [hsame] at q; exact absurd rfl q
    · rw [hne j e] at q; exact ⟨q, e⟩
  refine ⟨hry0, fun j hj => ?_, fun j hj hb => ?_, fun d o' q => ?_, fun j k hj hk h1 h2 => ?_, fun j hj hb => ?_, fun j hj hb q => ?_, fun b hb => ?_, fun j hj b hb => ?_, h.sub0, fun j hj b hb => ?_, fun j hj b hb q => ?_, fun j hj b hb q => ?_, fun j k hj hk hjk b hb q => ?_, fun j hj hb q => ?_, fun j k hj hk hb q => ?_, ?_⟩
  · by_cases e : j = i
    · subst e; rw [hsame]; exact ⟨by rw [hsz]; exact hu.1, fun _ q => q.elim, hos.1.trans hu.2.1, hos.2.trans hu.2.2⟩
    · rw [hne j e]; exact hryw j hj
  · by_cases e : j = i
    · subst e; rw [hsame]; exact ⟨hchi, by rw [hsz]; exact hclt, sn, hcell⟩
    · rw [hne j e]
      obtain ⟨a, b, m, c⟩ := h.ch1 j hj hb
      exact ⟨a, by rw [hsz]; exact b, m, by rw [hoc _ (hother j hj hb e)]; exact c⟩
  · obtain ⟨k, a, b, c⟩ := h.ch2 d o' q
    exact ⟨k, a, b, (ec k).trans c⟩
  · rw [ec, ec]; exact h.chd j k hj hk h1 h2
  · have : j ≠ i := fun e => hb (e ▸ ha)
    rw [hne j this]; exact h.act j hj hb
  · by_cases e : j = i
    · subst e; rw [hsame]; exact ⟨ho, hcl⟩
    · rw [hne j e] at q ⊢
      obtain ⟨a, b⟩ := h.cl j hj hb q
      exact ⟨a, b.app fun op hop hg => by rw [hops op hop] at hg; omega⟩
  · rw [hsz]; exact h.lim0 b hb
  · rw [hsz]; exact h.limw j hj b (eO j b hb).1
  · have := eW j b hb
    rw [hne j this.2]; exact h.subw j hj b this.1
  · exact h.d0 j hj b hb (eO j b q).1
  · exact h.d1 j hj b (eW j b hb).1 q
  · exact h.d2 j k hj hk hjk b (eW j b hb).1 (eO k b q).1
  · rw [ec] at q; exact h.c0 j hj hb q
  · rw [ec] at q; exact h.cw j k hj hk hb (eO k _ q).1
  · rw [hsz]
    refine hti.less (Nat.le_refl _) (fun j b hb => .inl ?_) (fun j b hb => .inl ?_) (fun _ q => q)
    · rcases hb with ⟨rfl, hb⟩ | ⟨k, hk, rfl, hb⟩
      · exact ⟨(Nat.succ_ne_zero i).symm, .inl ⟨rfl, hb⟩⟩
      · rw [ec] at hb
        rcases hb with hb | ⟨z1, z2, z3⟩
        · exact ⟨fun e => (eO k b hb).2 (by omega), .inr ⟨k, hk, rfl, .inl (eO k b hb).1⟩⟩
        · exact ⟨fun e => (em k z2).2 (by omega), .inr ⟨k, hk, rfl, .inr ⟨z1, (em k z2).1, z3⟩⟩⟩
    · rcases hb with ⟨rfl, hb⟩ | ⟨k, hk, rfl, hb⟩
      · exact ⟨(Nat.succ_ne_zero i).symm, .inl ⟨rfl, hb⟩⟩
      · rw [ec] at hb
        rcases hb with hb | ⟨z1, z2, z3⟩
        · exact ⟨fun e => (eW k b hb).2 (by omega), .inr ⟨k, hk, rfl, .inl (eW k b hb).1⟩⟩
        · exact ⟨fun e => (em k z2).2 (by omega), .inr ⟨k, hk, rfl, .inr ⟨z1, (em k z2).1, z3⟩⟩⟩
/-- Goroutine 0 notices the close. -/
theorem NC.noticed (h : NC s n wp w t Act) {i : Nat} (hi : i < n) (ha : Act i) (hm : (wp i).md = 2) (g2 : Goroutine) (fn : FuncId) (pos : String) :
    NC ⟨g2, w, s.O, s.W, updc s.ch (wp i).c none⟩ n wp w (t ++ #[{ g := 0, fn := fn, pos := pos, act := .recvClosed (wp i).c }]) (fun j => Act j ∧ j ≠ i) := by
  obtain ⟨hchi, hclt, _⟩ := h.ch1 i hi ha
  have hother : ∀ j, j < n → Act j → j ≠ i → (wp j).c ≠ (wp i).c := fun j hj hb e q => e (h.chd j i hj hi hb ha q)
  refine ⟨Ry.refl _ _, h.wr, fun j hj hb => ?_, fun d o' q => ?_, fun j k hj hk h1 h2 => h.chd j k hj hk h1.1 h2.1, fun j hj hb => ?_, fun j hj hb q => ?_, h.lim0, h.limw, h.sub0, h.subw, h.d0, h.d1, h.d2, fun j hj hb => h.c0 j hj hb.1, fun j k hj hk hb => h.cw j k hj hk hb.1, ?_⟩
  · obtain ⟨a, b⟩ := h.ch1 j hj hb.1
    exact ⟨(if_neg (hother j hj hb.1 hb.2)).trans a, b⟩
  · by_cases e : d = (wp i).c
    · have : updc s.ch (wp i).c none d = none := if_pos e
      have := this.symm.trans q
      cases this
    · have q' : s.ch d = some o' := (if_neg e).symm.trans q
      obtain ⟨k, a, b, c⟩ := h.ch2 d o' q'
      exact ⟨k, a, ⟨b, fun z => e (by rw [← c, z])⟩, c⟩
  · by_cases e : j = i
    · subst e; exact hm
    · exact h.act j hj fun z => hb ⟨z, e⟩
  · obtain ⟨a, b⟩ := h.cl j hj hb.1 q
    refine ⟨a, b.app fun op ho hg => ?_⟩
    simp only [List.mem_toArray, List.mem_cons, List.not_mem_nil, or_false] at ho
    subst ho; rfl
  · have h1 := h.ti.noticed (i := i + 1) (fn := fn) (pos := pos) hclt (h.cl i hi ha hm).2
    refine h1.less (Nat.le_refl _) (fun j b hb => .inl ?_) (fun j b hb => .inl ?_) (fun g q => ?_)
    · rcases hb with hb | ⟨k, hk, rfl, hb⟩
      · exact .inl hb
      · exact .inr ⟨k, hk, rfl, hb.imp id fun z => ⟨z.1.1, z.2⟩⟩
    · rcases hb with hb | ⟨k, hk, rfl, hb⟩
      · exact .inl hb
      · exact .inr ⟨k, hk, rfl, hb.imp id fun z => ⟨z.1.1, z.2⟩⟩
    · obtain ⟨⟨k, hk, rfl, hb⟩, hne⟩ := q
      exact ⟨k, hk, rfl, hb, fun e => hne (by rw [e])⟩
end
end Go.Proofs.YtfbdgdphpdhcpaaDoor.Sm
