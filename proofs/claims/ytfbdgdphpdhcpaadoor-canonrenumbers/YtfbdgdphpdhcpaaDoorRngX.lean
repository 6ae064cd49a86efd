/-
  How the reference's OrderOf builds a slice in a struct of its own: what holds of it from round to round. No condition.
  A law for a loop over an iterator that keeps a list in a block of its own and yields it, round by round; rounds may make memory and write blocks of their own. A round is asked only at values of which V holds. Conditions: one loop variable; no round leaves the loop.
-/
import Derived.Test.YtfbdgdphpdhcpaaDoorSets
import Derived.RangeFuncNested
import Derived.RangeFuncBox
import Derived.RangeFuncLeaves
namespace Go.Proofs.YtfbdgdphpdhcpaaDoor
open Go.RowKit

def rowVals (F : Nat → Nat) (n : Nat) : List Value := (List.range n).map fun y => .int .i64 (F y : Nat)
theorem rowVals_succ (F : Nat → Nat) (n : Nat) : rowVals F (n + 1) = rowVals F n ++ [.int .i64 (F n : Nat)] := by simp [rowVals, List.range_succ]
theorem rowVals_at (F : Nat → Nat) (n k : Nat) (h : k < n) : (rowVals F n)[k]? = some (.int .i64 (F k : Nat)) := by simp [rowVals, h]
theorem owns_below {w w' : World} {base size n : Nat} {e : TypeId} {v : Value} {xs : List Value} (h : w.ownsRow base e size v n xs) (hb : Below w.heap.size w w') : w'.ownsRow base e size v n xs := by
  refine ⟨h.1, ?_⟩
  rcases h.2 with h2 | ⟨g, cap, cur, hv, hg, hh, r⟩
  · exact Or.inl h2
  · have hlt : g < w.heap.size := by
      rcases Nat.lt_or_ge g w.heap.size with h' | h'
      · exact h'
      · rw [Array.getElem?_eq_none h'] at hh; cases hh
    exact Or.inr ⟨g, cap, cur, hv, hg, by rw [hb.block g hlt]; exact hh, r⟩
theorem owns_block {w : World} {base size n : Nat} {e : TypeId} {v : Value} {xs : List Value} (h : w.ownsRow base e size v n xs) : ∀ k, v.ownBlock = some k → base ≤ k := by
  intro k hk
  rcases h.2 with ⟨rfl, _⟩ | ⟨g, cap, cur, rfl, hg, _⟩
  · cases hk
  · simp [Value.ownBlock] at hk; omega
theorem owns_form {w : World} {base size n : Nat} {e : TypeId} {v : Value} {xs : List Value} (h : w.ownsRow base e size v n xs) (hn : 0 < n) : ∃ g cap, v = .slice (some ⟨g, 0, none⟩) n cap := by
  rcases h.2 with ⟨_, h0⟩ | ⟨g, cap, _, hv, _⟩
  · omega
  · exact ⟨g, cap, hv⟩
theorem owns_row {w : World} {base n : Nat} {v : Value} {F : Nat → Nat} (h : w.ownsRow base 3 1 v n (rowVals F n)) : ∃ a cap, v = .slice a n cap ∧ Row w a n (fun k => (F k : Nat)) := by
  by_cases hn : 0 < n
  · obtain ⟨g, cap, rfl⟩ := owns_form h hn
    refine ⟨some ⟨g, 0, none⟩, cap, rfl, fun k hk => ⟨g, 0, rfl, ?_⟩⟩
    rw [Nat.zero_add, h.cellAt k (by omega), rowVals_at F n k hk]
  · obtain rfl : n = 0 := by omega
    rcases h.2 with ⟨rfl, _⟩ | ⟨g, cap, cur, rfl, _⟩
    · exact ⟨none, 0, rfl, fun k hk => absurd hk (Nat.not_lt_zero _)⟩
    · exact ⟨_, cap, rfl, fun k hk => absurd hk (Nat.not_lt_zero _)⟩

/-- After y rounds: the order that is built lies in block w.heap.size + 1, its slice is v. -/
def Building (w wx : World) (n y : Nat) (F : Nat → Nat) (v : Value) : Prop :=
  wx.cell? ⟨w.heap.size + 1, 0, none⟩ = some (.int .i64 (n : Int)) ∧ wx.cell? ⟨w.heap.size + 1, 1, none⟩ = some v ∧ wx.frozen? ⟨w.heap.size + 1, 1, none⟩ = false ∧
  wx.ownsRow (w.heap.size + 2) 3 1 v y (rowVals F y) ∧ Below (w.heap.size + 1) (w.alloc (.cells #[.int .i64 0, .slice none 0 0] 24)) wx
theorem Building.c0 {w wx : World} {n y : Nat} {F : Nat → Nat} {v : Value} (h : Building w wx n y F v) : wx.cell? ⟨w.heap.size + 1, 0, none⟩ = some (.int .i64 (n : Int)) := h.1
theorem Building.c1 {w wx : World} {n y : Nat} {F : Nat → Nat} {v : Value} (h : Building w wx n y F v) : wx.cell? ⟨w.heap.size + 1, 1, none⟩ = some v := h.2.1
theorem Building.f1 {w wx : World} {n y : Nat} {F : Nat → Nat} {v : Value} (h : Building w wx n y F v) : wx.frozen? ⟨w.heap.size + 1, 1, none⟩ = false := h.2.2.1
theorem Building.own {w wx : World} {n y : Nat} {F : Nat → Nat} {v : Value} (h : Building w wx n y F v) : wx.ownsRow (w.heap.size + 2) 3 1 v y (rowVals F y) := h.2.2.2.1
theorem Building.below {w wx : World} {n y : Nat} {F : Nat → Nat} {v : Value} (h : Building w wx n y F v) : Below (w.heap.size + 1) (w.alloc (.cells #[.int .i64 0, .slice none 0 0] 24)) wx := h.2.2.2.2
theorem Building.size {w wx : World} {n y : Nat} {F : Nat → Nat} {v : Value} (h : Building w wx n y F v) : w.heap.size + 2 ≤ wx.heap.size := World.block_lt_of_cell? _ _ h.1
theorem Building.start (w : World) (n : Nat) (F : Nat → Nat) : Building w ((w.alloc (.cells #[.int .i64 0, .slice none 0 0] 24)).alloc (.cells #[.int .i64 (n : Int), .slice none 0 0] 24)) n 0 F (.slice none 0 0) :=
  ⟨by simp, by simp, (World.frozen?_alloc_at _ _ _ _ (by simp)), World.ownsRow_nil _ _ _ _, (Below.refl _ _).alloc (by simp) _⟩
theorem Building.step {w wx w' : World} {n y : Nat} {F : Nat → Nat} {v : Value} (h : Building w wx n y F v) (hb : Below wx.heap.size wx w') : Building w w' n y F v := by
  have hs := h.size
  obtain ⟨h1, h2, h3, h4, h5⟩ := h
  exact ⟨(hb.cell (p := ⟨w.heap.size + 1, 0, none⟩) hs).trans h1, (hb.cell (p := ⟨w.heap.size + 1, 1, none⟩) hs).trans h2, (hb.frozen (p := ⟨w.heap.size + 1, 1, none⟩) hs).trans h3, owns_below h4 hb, h5.trans (hb.mono (by omega))⟩
/-- What append leaves, ahead of the store. -/
theorem Building.grown {w wx w1 : World} {o : Obj} {n y S : Nat} {F : Nat → Nat} {v v' : Value} (h : Building w wx n y F v) (hF : F y = S)
    (hown : w1.ownsRow (w.heap.size + 2) 3 1 v' (y + 1) (rowVals F y ++ [.int .i64 (S : Nat)])) (hg : (wx.alloc o).grownBy w1 v.ownBlock) :
    w1.cell? ⟨w.heap.size + 1, 1, none⟩ = some v ∧ w1.frozen? ⟨w.heap.size + 1, 1, none⟩ = false ∧ Building w (w1.setCell ⟨w.heap.size + 1, 1, none⟩ v') n (y + 1) F v' := by
  have hs := h.size
  have h' := h.step ((Below.refl _ _).alloc (Nat.le_refl _) o)
  have hb : Below (w.heap.size + 2) (wx.alloc o) w1 := (Below.refl _ _).grown hg (by simp; omega) (owns_block h.own)
  obtain ⟨h1, h2, h3, h4, h5⟩ := h'
  have c0 := (hb.cell (p := ⟨w.heap.size + 1, 0, none⟩) (by simp)).trans h1
  have c1 := (hb.cell (p := ⟨w.heap.size + 1, 1, none⟩) (by simp)).trans h2
  have f1 := (hb.frozen (p := ⟨w.heap.size + 1, 1, none⟩) (by simp)).trans h3
  refine ⟨c1, f1, ?_, World.cell?_setCell_same _ _ _ c1, by rw [World.frozen?_setCell]; exact f1, ?_, ?_⟩
  · rw [World.cell?_setCell_other _ _ _ _ (fun e => by injection e with _ e2; cases e2)]; exact c0
  · rw [rowVals_succ, hF]; exact ownsRow_setCell_below hown (by simp) _
  · exact (h5.trans (hb.mono (by omega))).setCell (p := ⟨w.heap.size + 1, 1, none⟩) (Nat.le_refl _) _
/-- A slice of n elements lies in a block from B on. -/
def Fresh (B : Nat) (a : Option Addr) (n : Nat) : Prop := 0 < n → ∃ b off, a = some ⟨b, off, none⟩ ∧ B ≤ b
theorem Fresh.mono {B B' : Nat} {a : Option Addr} {n : Nat} (h : Fresh B a n) (hb : B' ≤ B) : Fresh B' a n := fun hn => by
  obtain ⟨b, off, e, hl⟩ := h hn
  exact ⟨b, off, e, by omega⟩
theorem row_set2 {X : World} {B : Nat} {a : Option Addr} {n : Nat} {f : Nat → Int} {u v : Value} (h : Row X a n f) (hb : Fresh (B + 1) a n) :
    Row ((X.setCell ⟨B, 0, none⟩ u).setCell ⟨B, 1, none⟩ v) a n f := by
  intro k hk
  obtain ⟨b, off, rfl, hc⟩ := h k hk
  obtain ⟨b', off', e, hlt⟩ := hb (by omega)
  simp at e
  obtain ⟨rfl, rfl⟩ := e
  refine ⟨b, off, rfl, ?_⟩
  rw [World.cell?_setCell_other _ _ _ _ (fun e => by injection e with e1; omega), World.cell?_setCell_other _ _ _ _ (fun e => by injection e with e1; omega)]
  exact hc
/-- An order's box at block B that holds the zero order. -/
def ZBox (X : World) (B : Nat) : Prop := X.cell? ⟨B, 0, none⟩ = some (.int .i64 0) ∧ X.cell? ⟨B, 1, none⟩ = some (.slice none 0 0) ∧ X.frozen? ⟨B, 0, none⟩ = false ∧ X.frozen? ⟨B, 1, none⟩ = false
theorem ZBox.new (w : World) : ZBox (w.alloc (.cells #[.int .i64 0, .slice none 0 0] 24)) w.heap.size :=
  ⟨by simp, by simp, World.frozen?_alloc_at _ _ _ _ rfl, World.frozen?_alloc_at _ _ _ _ rfl⟩
theorem ZBox.step {X X' : World} {B : Nat} (h : ZBox X B) (hb : Below X.heap.size X X') : ZBox X' B := by
  have hlt : B < X.heap.size := World.block_lt_of_cell? _ _ h.1
  obtain ⟨h1, h2, h3, h4⟩ := h
  exact ⟨(hb.cell (p := ⟨B, 0, none⟩) hlt).trans h1, (hb.cell (p := ⟨B, 1, none⟩) hlt).trans h2, (hb.frozen (p := ⟨B, 0, none⟩) hlt).trans h3, (hb.frozen (p := ⟨B, 1, none⟩) hlt).trans h4⟩
theorem set2B {w X : World} {B : Nat} {u v : Value} (h : Below w.heap.size w X) (hB : w.heap.size ≤ B) : Below w.heap.size w ((X.setCell ⟨B, 0, none⟩ u).setCell ⟨B, 1, none⟩ v) :=
  (h.setCell (p := ⟨B, 0, none⟩) hB _).setCell (p := ⟨B, 1, none⟩) hB _
def OrderPost (w : World) (n : Nat) (F : Nat → Nat) (e : Ending) (w' : World) : Prop := ∃ a cap, e = .returned (.agg #[.int .i64 (n : Int), .slice a n cap]) ∧ Row w' a n (fun k => (F k : Nat)) ∧ Fresh w.heap.size a n
end Go.Proofs.YtfbdgdphpdhcpaaDoor
namespace Go.Proofs.YtfbdgdphpdhcpaaDoor
open Go.RowKit

/-- All rows of cells but those of C lie as they lay. -/
structure OthS (C : Nat → Prop) (W W' : World) : Prop where
  size : W.heap.size ≤ W'.heap.size
  same : ∀ (k : Nat) (o : Obj), ¬ C k → W.heap[k]? = some o → o.isCells = true → W'.heap[k]? = some o
theorem OthS.refl (C : Nat → Prop) (W : World) : OthS C W W := ⟨Nat.le_refl _, fun _ _ _ h _ => h⟩
theorem OthS.trans {C : Nat → Prop} {X Y Z : World} (h : OthS C X Y) (k : OthS C Y Z) : OthS C X Z := ⟨Nat.le_trans h.size k.size, fun i o hi ho hc => k.same i o hi (h.same i o hi ho hc) hc⟩
theorem OthS.mono {C D : Nat → Prop} {X Y : World} (h : OthS C X Y) (hd : ∀ k, C k → D k) : OthS D X Y := ⟨h.size, fun i o hi => h.same i o fun hc => hi (hd i hc)⟩
theorem OthS.loop (C : Nat → Prop) (W : World) (l : Nat) (r r' : Loop) (h : W.heap[l]? = some (.loop r)) : OthS C W (W.putObj l (.loop r')) := by
  refine ⟨by simp [World.putObj], fun k o _ hk ho => ?_⟩
  by_cases e : k = l
  · subst e; rw [h] at hk; cases hk; cases ho
  · exact (World.putObj_heap_other e).trans hk
theorem OthS.below (C : Nat → Prop) {W W' : World} (hb : Below W.heap.size W W') : OthS C W W' :=
  ⟨hb.size, fun k _ _ h0 _ => (hb.block k (Array.getElem?_eq_some_iff.1 h0).1).trans h0⟩
theorem cellsX_of_cell {W : World} {a : Addr} {v : Value} (h : W.cell? a = some v) : ∃ o : Obj, W.heap[a.block]? = some o ∧ o.isCells = true := by
  unfold World.cell? at h
  cases ho : W.heap[a.block]? with
  | none => simp [ho] at h
  | some o => exact ⟨o, rfl, by cases o <;> simp_all [Obj.isCells]⟩
theorem OthS.cell {C : Nat → Prop} {W W' : World} (h : OthS C W W') {p : Addr} {v : Value} (hv : W.cell? p = some v) (hp : ¬ C p.block) : W'.cell? p = some v := by
  obtain ⟨o, ho, hc⟩ := cellsX_of_cell hv
  rw [← hv]
  exact World.cell?_of_block (w := W) ((h.same _ o hp ho hc).trans ho.symm)
theorem OthS.frozen {C : Nat → Prop} {W W' : World} (h : OthS C W W') {p : Addr} {v : Value} (hv : W.cell? p = some v) (hp : ¬ C p.block) : W'.frozen? p = W.frozen? p := by
  obtain ⟨o, ho, hc⟩ := cellsX_of_cell hv
  unfold World.frozen?
  rw [h.same _ o hp ho hc, ho]
theorem OthS.owns {C : Nat → Prop} {W W' : World} (h : OthS C W W') {base : Nat} {e : TypeId} {size : Nat} {v : Value} {n : Nat} {xs : List Value} (ho : W.ownsRow base e size v n xs) (hc : ∀ k, base ≤ k → v.ownBlock = some k → ¬ C k) : W'.ownsRow base e size v n xs := by
  refine ⟨ho.1, ?_⟩
  rcases ho.2 with h0 | ⟨g, cap, cur, h1, h2, h3, h4⟩
  · exact .inl h0
  · exact .inr ⟨g, cap, cur, h1, h2, h.same g _ (hc g h2 (by rw [h1]; rfl)) h3 rfl, h4⟩
/-- What the iterator does between rounds: blocks below s0 lie as they lay, rows of cells too but that of block B. -/
def Itr (s0 B : Nat) (A A' : World) : Prop := Below s0 A A' ∧ OthS (· = B) A A'
theorem Itr.of_below {s0 B : Nat} {A A' : World} (h : Below A.heap.size A A') (hs : s0 ≤ A.heap.size) : Itr s0 B A A' := ⟨h.mono hs, OthS.below _ h⟩
theorem Itr.trans {s0 B : Nat} {X Y Z : World} (h : Itr s0 B X Y) (k : Itr s0 B Y Z) : Itr s0 B X Z := ⟨h.1.trans k.1, h.2.trans k.2⟩
/-- An iterator over values that lie in a block of its own. -/
def SeqX {α : Type} (F : Fence) (n : Nat) (P : Program) (g : Nat) (lb : Array Value) (enc : α → Value) (V : Nat → α → World → Prop) (Kp : World → World → Prop) (S : List α → Prop) (N : Nat) (w : World) : Prop :=
  ∀ (l : Nat) (J : Nat → List α → World → Prop) (W : World), Below w.heap.size w W → (∀ B s A A', J B s A → Itr W.heap.size B A A' → J B s A') →
    (∀ B pre x W1, J B pre W1 → V B x W1 → pre.length < N → YieldAt F (n - 1) P l #[enc x] W1 fun e W' => e = .returned (.bool true) ∧ J B (pre ++ [x]) W' ∧ Kp W1 W') →
    (∀ B, W.heap.size ≤ B → J B [] W) → CallsIn F n P g (#[.func (.yield l) #[] #[]] ++ lb) W fun e W' => (∃ v, e = .returned v) ∧ ∃ B xs, S xs ∧ J B xs W'

theorem range_x {P : Program} {F : Fence} {n : Nat} {α : Type} {g : Operand} {p : Tmp} {assign body : Code} {Q : Exit → Act → World → Prop} {a : Act} {w : World}
    (hro : F.round = none) (h1 : 1 ≤ n) {gf : Nat} {lb : Array Value} (hg : a.eval g = .func (.func gf) #[] lb) (hFg : F.fn gf) (eg : ∀ args w, (callFunc gf args).run P w = .ok (.enter gf args) w)
    {enc : α → Value} {V : Nat → α → World → Prop} {Kp : World → World → Prop} {S : List α → Prop} {N : Nat} {w0 : World} (hseq : SeqX F (n - 1) P gf lb enc V Kp S N w0)
    (hKt : ∀ {A B C : World}, Kp A B → Kp B C → Kp A C) (hKb : ∀ (W : World) (l : Nat) (r r' : Loop), W.heap[l]? = some (.loop r) → Kp W (W.putObj l (.loop r'))) (hb0 : Below w0.heap.size w0 w)
    (hV : ∀ (B : Nat) (x : α) (A : World) (l : Nat) (r r' : Loop), V B x A → A.heap[l]? = some (.loop r) → V B x (A.putObj l (.loop r')))
    (I : Nat → List α → World → Prop) (hI : ∀ B s A A', I B s A → Itr w.heap.size B A A' → I B s A') (h0 : ∀ B, w.heap.size ≤ B → I B [] w) (a₁ : α → Act)
    (hassign : ∀ (l : Nat) (x : α) (W : World) (K : Act → World → Prop), K (a₁ x) W →
      assign.wpIn (F.inRound l) (n - 1 - 1) P (Exit.then K (fun _ _ _ => False)) { tmps := (#[p].zip #[enc x]).foldl (fun t (p, v) => t.setIfInBounds p v) a.tmps, defers := [] } W)
    (hbody : ∀ (l : Nat) (B : Nat) (pre : List α) (x : α) (W : World), I B pre W → V B x W → pre.length < N → body.wpIn (F.inRound l) (n - 1 - 1) P (ownPostG w.heap.size Kp (I B) (fun _ _ _ => False) (pre ++ [x]) W) (a₁ x) W)
    (hdone : ∀ (D B : Nat) (xs : List α) (W : World), w.heap.size ≤ D → S xs → I B xs W → W.heap[D]? = some (.deferred (some [])) → Q .normal { a with defers := { target := .collected D, args := #[] } :: a.defers } W) :
    (Code.rangeFunc g #[p] assign body).wpIn F n P Q a w := by
  refine wpIn_rangeFunc ?_
  intro fn hfn
  rw [hro]
  obtain ⟨rc, hrc⟩ : ∃ rc : LoopState → Option Code → Loop, rc = fun st pe => { state := st, pending := pe, fn, tmps := a.tmps, params := #[p], assign, body, defers := w.heap.size } := ⟨_, rfl⟩
  obtain ⟨W1, hW1⟩ : ∃ W1, W1 = (w.alloc (.deferred (some []))).alloc (.loop (rc .ready none)) := ⟨_, rfl⟩
  have bW : Below w.heap.size w W1 := by rw [hW1]; exact ((Below.refl _ w).alloc (Nat.le_refl _) _).alloc (by simp) _
  have sW : W1.heap.size = w.heap.size + 2 := by rw [hW1]; simp
  have lW : W1.heap[w.heap.size + 1]? = some (.loop (rc .ready none)) := by
    have := World.alloc_heap_new (w.alloc (.deferred (some []))) (.loop (rc .ready none))
    rw [World.size_alloc] at this
    rw [hW1]; exact this
  have dW : W1.heap[w.heap.size]? = some (.deferred (some [])) := by
    rw [hW1]; exact (Below.heap_alloc _ _ _ (by simp)).trans (World.alloc_heap_new w _)
  have iW : ∀ B, W1.heap.size ≤ B → I B [] W1 := fun B hB => hI _ _ _ _ (h0 B (by omega)) (Itr.of_below bW (Nat.le_refl _))
  have kb : ∀ (B : Nat) (X : World) (o : Loop) (o' : Loop), X.heap[w.heap.size + 1]? = some (.loop o) → Itr w.heap.size B X (X.putObj (w.heap.size + 1) (.loop o')) := fun B X o o' q1 => ⟨belowK_b (w := w) (Nat.le_refl _) X _ (.loop o) (.loop o') (by omega) q1 rfl rfl, OthS.loop _ _ _ _ _ q1⟩
  refine ⟨w.heap.size + 1, [{ target := .collected w.heap.size, args := #[] }], W1, { target := .fn (.func gf) lb, args := #[.func (.yield (w.heap.size + 1)) #[] #[]] }, W1, gf, #[.func (.yield (w.heap.size + 1)) #[] #[]] ++ lb, W1, ?_, ?_, ?_, ?_, fun _ => h1, ?_⟩
  · rw [hW1, hrc]; exact run_enterLoop_outer _ _ _ _ _
  · simp only [resolve, hg]; simp [go_sem]
  · intro f' hf'; simp [Target.leads] at hf'; subst hf'; exact hFg
  · simp [invoke, go_sem, eg]
  · refine (hseq (w.heap.size + 1) (fun B pre W => I B pre W ∧ W.heap[w.heap.size + 1]? = some (.loop (rc .ready none)) ∧ W.heap[w.heap.size]? = some (.deferred (some []))) W1 (hb0.trans (bW.mono hb0.size)) ?ab ?rd (fun B hB => ⟨iW B hB, lW, dW⟩)).mono ?_
    case ab =>
      rintro B s A A' ⟨hi, hl, hk⟩ hAB
      exact ⟨hI B s A A' hi ⟨hAB.1.mono (by omega), hAB.2⟩, (hAB.1.block _ (by omega)).trans hl, (hAB.1.block _ (by omega)).trans hk⟩
    case rd =>
      rintro B pre x W ⟨hi, hl, hk⟩ hv hlen
      have hlt : w.heap.size + 1 < W.heap.size := (Array.getElem?_eq_some_iff.1 hl).1
      have hy := run_yield (P := P) (args := #[enc x]) hl (by rw [hrc]; rfl)
      rw [hrc] at hy
      refine ⟨fn, _, assign, body, hy, roundIn_of_wpIn hfn (hassign _ x W _ ⟨_, run_beginRound hl (by rw [hrc]), ?_⟩)⟩
      have lb2 : (W.putObj (w.heap.size + 1) (.loop { rc .ready none with state := .busy })).heap[w.heap.size + 1]? = some (.loop { rc .ready none with state := .busy }) := World.putObj_heap_same hlt
      have db2 : (W.putObj (w.heap.size + 1) (.loop { rc .ready none with state := .busy })).heap[w.heap.size]? = some (.deferred (some [])) := (World.putObj_heap_other (by omega)).trans hk
      refine wpIn_mono (hbody _ B pre x _ (hI _ _ _ _ hi (kb B W _ _ hl)) (hV B x _ _ _ _ hv hl) hlen) ?_
      have fin : ∀ (W3 : World), KeepsFrom w.heap.size (W.putObj (w.heap.size + 1) (.loop { rc .ready none with state := .busy })) W3 →
          (Instr.endRound (w.heap.size + 1) none).run P W3 = .ok (.bool true) (W3.putObj (w.heap.size + 1) (.loop (rc .ready none))) ∧
          W3.heap[w.heap.size + 1]? = some (.loop { rc .ready none with state := .busy }) ∧
          (W3.putObj (w.heap.size + 1) (.loop (rc .ready none))).heap[w.heap.size + 1]? = some (.loop (rc .ready none)) ∧
          (W3.putObj (w.heap.size + 1) (.loop (rc .ready none))).heap[w.heap.size]? = some (.deferred (some [])) := fun W3 hk3 => by
        have hl3 := hk3.same _ _ (by omega) lb2 rfl
        have := run_endRound (P := P) none hl3
        rw [hrc] at this ⊢
        exact ⟨this, by rw [hrc] at hl3; exact hl3, World.putObj_heap_same (Array.getElem?_eq_some_iff.1 hl3).1, (World.putObj_heap_other (by omega)).trans (hk3.same _ _ (Nat.le_refl _) db2 rfl)⟩
      rintro e a3 W3 hp
      cases e with
      | normal =>
        obtain ⟨k3, b3, i3⟩ := hp
        obtain ⟨hr, hl3, hl4, hk4⟩ := fin W3 k3
        exact ⟨_, _, hr, rfl, ⟨hI _ _ _ _ i3 (kb B W3 _ _ hl3), hl4, hk4⟩, hKt (hKt (hKb W _ _ _ hl) b3) (hKb W3 _ _ _ hl3)⟩
      | ret => exact hp.2.elim
      | exit id => exact hp.2.elim
      | goto t => exact hp.2.elim
      | panic ch => exact hp.elim
      | outgrown => exact hp.elim
    · rintro e W2 ⟨⟨v, rfl⟩, B, xs, hS, hi, hl, hk⟩
      exact ⟨none, _, by have := run_endLoop (P := P) hl (by rw [hrc]; simp); rw [hrc] at this; exact this, hdone _ B xs _ (Nat.le_refl _) hS (hI _ _ _ _ hi (kb B W2 _ _ hl)) ((World.putObj_heap_other (by omega)).trans hk)⟩
end Go.Proofs.YtfbdgdphpdhcpaaDoor
