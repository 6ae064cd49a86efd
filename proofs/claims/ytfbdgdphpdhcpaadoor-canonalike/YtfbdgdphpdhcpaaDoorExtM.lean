/-
  A law for a loop over an iterator that keeps a list in a block of its own and yields it, round by round; rounds may make memory and write blocks of their own. A round is asked only at values of which V holds. Conditions: one loop variable; no round leaves the loop.
  Lists of numbers as slices. No condition.
  Sums, and a set with a point more. Plain facts: no Go text here. No condition.
  In how many ways the points that do not stand yet go behind a set, each behind those that it needs. Plain facts: no Go text here. Conditions: at most ten points.
-/
import Derived.RangeFuncNested
import Derived.RangeFuncBox
import Derived.RangeFuncLeaves
import Derived.Test.YtfbdgdphpdhcpaaDoorBuild
namespace Go.Proofs.YtfbdgdphpdhcpaaDoor
open Go.RowKit

/-- All rows of cells but those of C lie as they lay. -/
structure OthS (C : Nat → Prop) (W W' : World) : Prop where
  size : W.heap.size ≤ W'.heap.size
  same : ∀ (k : Nat) (o : Obj), ¬ C k → W.heap[k]? = some o → o.isCells = true → W'.heap[k]? = some o
theorem OthS.refl (C : Nat → Prop) (W : World) : OthS C W W := ⟨Nat.le_refl _, fun _ _ _ h _ => h⟩
theorem OthS.trans {C : Nat → Prop} {X Y Z : World} (h : OthS C X Y) (k : OthS C Y Z) : OthS C X Z := ⟨Nat.le_trans h.size k.size, fun i o hi ho hc => k.same i o hi (h.same i o hi ho hc) hc⟩
theorem OthS.mono {C D : Nat → Prop} {X Y : World} (h : OthS C X Y) (hd : ∀ k, C k → D k) : OthS D X Y := ⟨h.size, fun i o hi => h.same i o fun hc => hi (hd i hc)⟩
theorem OthS.loop (C : Nat → Prop) (W : World) (l : Nat) (r r' : Loop) (h : W.heap[l]? = some (.loop r)) : OthS C W (W.putObj l (.loop r')) := by
  refine ⟨by simp [World.putObj], fun k o _ hk ho => ?_⟩
  by_cases e : k = l
  · subst e; rw [h] at hk; cases hk; cases ho
  · exact (World.putObj_heap_other e).trans hk
theorem OthS.below (C : Nat → Prop) {W W' : World} (hb : Below W.heap.size W W') : OthS C W W' :=
  ⟨hb.size, fun k _ _ h0 _ => (hb.block k (Array.getElem?_eq_some_iff.1 h0).1).trans h0⟩
theorem cellsX_of_cell {W : World} {a : Addr} {v : Value} (h : W.cell? a = some v) : ∃ o : Obj, W.heap[a.block]? = some o ∧ o.isCells = true := by
  unfold World.cell? at h
  cases ho : W.heap[a.block]? with
  | none => simp [ho] at h
  | some o => exact ⟨o, rfl, by cases o <;> simp_all [Obj.isCells]⟩
theorem OthS.cell {C : Nat → Prop} {W W' : World} (h : OthS C W W') {p : Addr} {v : Value} (hv : W.cell? p = some v) (hp : ¬ C p.block) : W'.cell? p = some v := by
  obtain ⟨o, ho, hc⟩ := cellsX_of_cell hv
  rw [← hv]
  exact World.cell?_of_block (w := W) ((h.same _ o hp ho hc).trans ho.symm)
theorem OthS.frozen {C : Nat → Prop} {W W' : World} (h : OthS C W W') {p : Addr} {v : Value} (hv : W.cell? p = some v) (hp : ¬ C p.block) : W'.frozen? p = W.frozen? p := by
  obtain ⟨o, ho, hc⟩ := cellsX_of_cell hv
  unfold World.frozen?
  rw [h.same _ o hp ho hc, ho]
theorem OthS.owns {C : Nat → Prop} {W W' : World} (h : OthS C W W') {base : Nat} {e : TypeId} {size : Nat} {v : Value} {n : Nat} {xs : List Value} (ho : W.ownsRow base e size v n xs) (hc : ∀ k, base ≤ k → v.ownBlock = some k → ¬ C k) : W'.ownsRow base e size v n xs := by
  refine ⟨ho.1, ?_⟩
  rcases ho.2 with h0 | ⟨g, cap, cur, h1, h2, h3, h4⟩
  · exact .inl h0
  · exact .inr ⟨g, cap, cur, h1, h2, h.same g _ (hc g h2 (by rw [h1]; rfl)) h3 rfl, h4⟩
/-- What the iterator does between rounds: blocks below s0 lie as they lay, rows of cells too but that of block B. -/
def Itr (s0 B : Nat) (A A' : World) : Prop := Below s0 A A' ∧ OthS (· = B) A A'
theorem Itr.of_below {s0 B : Nat} {A A' : World} (h : Below A.heap.size A A') (hs : s0 ≤ A.heap.size) : Itr s0 B A A' := ⟨h.mono hs, OthS.below _ h⟩
theorem Itr.trans {s0 B : Nat} {X Y Z : World} (h : Itr s0 B X Y) (k : Itr s0 B Y Z) : Itr s0 B X Z := ⟨h.1.trans k.1, h.2.trans k.2⟩
/-- An iterator over values that lie in a block of its own. -/
def SeqX {α : Type} (F : Fence) (n : Nat) (P : Program) (g : Nat) (lb : Array Value) (enc : α → Value) (V : Nat → α → World → Prop) (Kp : World → World → Prop) (S : List α → Prop) (N : Nat) (w : World) : Prop :=
  ∀ (l : Nat) (J : Nat → List α → World → Prop) (W : World), Below w.heap.size w W → (∀ B s A A', J B s A → Itr W.heap.size B A A' → J B s A') →
    (∀ B pre x W1, J B pre W1 → V B x W1 → pre.length < N → YieldAt F (n - 1) P l #[enc x] W1 fun e W' => e = .returned (.bool true) ∧ J B (pre ++ [x]) W' ∧ Kp W1 W') →
    (∀ B, W.heap.size ≤ B → J B [] W) → CallsIn F n P g (#[.func (.yield l) #[] #[]] ++ lb) W fun e W' => (∃ v, e = .returned v) ∧ ∃ B xs, S xs ∧ J B xs W'

theorem range_x {P : Program} {F : Fence} {n : Nat} {α : Type} {g : Operand} {p : Tmp} {assign body : Code} {Q : Exit → Act → World → Prop} {a : Act} {w : World}
    (hro : F.round = none) (h1 : 1 ≤ n) {gf : Nat} {lb : Array Value} (hg : a.eval g = .func (.func gf) #[] lb) (hFg : F.fn gf) (eg : ∀ args w, (callFunc gf args).run P w = .ok (.enter gf args) w)
    {enc : α → Value} {V : Nat → α → World → Prop} {Kp : World → World → Prop} {S : List α → Prop} {N : Nat} {w0 : World} (hseq : SeqX F (n - 1) P gf lb enc V Kp S N w0)
    (hKt : ∀ {A B C : World}, Kp A B → Kp B C → Kp A C) (hKb : ∀ (W : World) (l : Nat) (r r' : Loop), W.heap[l]? = some (.loop r) → Kp W (W.putObj l (.loop r'))) (hb0 : Below w0.heap.size w0 w)
    (hV : ∀ (B : Nat) (x : α) (A : World) (l : Nat) (r r' : Loop), V B x A → A.heap[l]? = some (.loop r) → V B x (A.putObj l (.loop r')))
    (I : Nat → List α → World → Prop) (hI : ∀ B s A A', I B s A → Itr w.heap.size B A A' → I B s A') (h0 : ∀ B, w.heap.size ≤ B → I B [] w) (a₁ : α → Act)
    (hassign : ∀ (l : Nat) (x : α) (W : World) (K : Act → World → Prop), K (a₁ x) W →
      assign.wpIn (F.inRound l) (n - 1 - 1) P (Exit.then K (fun _ _ _ => False)) { tmps := (#[p].zip #[enc x]).foldl (fun t (p, v) => t.setIfInBounds p v) a.tmps, defers := [] } W)
    (hbody : ∀ (l : Nat) (B : Nat) (pre : List α) (x : α) (W : World), I B pre W → V B x W → pre.length < N → body.wpIn (F.inRound l) (n - 1 - 1) P (ownPostG w.heap.size Kp (I B) (fun _ _ _ => False) (pre ++ [x]) W) (a₁ x) W)
    (hdone : ∀ (D B : Nat) (xs : List α) (W : World), w.heap.size ≤ D → S xs → I B xs W → W.heap[D]? = some (.deferred (some [])) → Q .normal { a with defers := { target := .collected D, args := #[] } :: a.defers } W) :
    (Code.rangeFunc g #[p] assign body).wpIn F n P Q a w := by
  refine wpIn_rangeFunc ?_
  intro fn hfn
  rw [hro]
  obtain ⟨rc, hrc⟩ : ∃ rc : LoopState → Option Code → Loop, rc = fun st pe => { state := st, pending := pe, fn, tmps := a.tmps, params := #[p], assign, body, defers := w.heap.size } := ⟨_, rfl⟩
  obtain ⟨W1, hW1⟩ : ∃ W1, W1 = (w.alloc (.deferred (some []))).alloc (.loop (rc .ready none)) := ⟨_, rfl⟩
  have bW : Below w.heap.size w W1 := by rw [hW1]; exact ((Below.refl _ w).alloc (Nat.le_refl _) _).alloc (by simp) _
  have sW : W1.heap.size = w.heap.size + 2 := by rw [hW1]; simp
  have lW : W1.heap[w.heap.size + 1]? = some (.loop (rc .ready none)) := by
    have := World.alloc_heap_new (w.alloc (.deferred (some []))) (.loop (rc .ready none))
    rw [World.size_alloc] at this
    rw [hW1]; exact this
  have dW : W1.heap[w.heap.size]? = some (.deferred (some [])) := by
    rw [hW1]; exact (Below.heap_alloc _ _ _ (by simp)).trans (World.alloc_heap_new w _)
  have iW : ∀ B, W1.heap.size ≤ B → I B [] W1 := fun B hB => hI _ _ _ _ (h0 B (by omega)) (Itr.of_below bW (Nat.le_refl _))
  have kb : ∀ (B : Nat) (X : World) (o : Loop) (o' : Loop), X.heap[w.heap.size + 1]? = some (.loop o) → Itr w.heap.size B X (X.putObj (w.heap.size + 1) (.loop o')) := fun B X o o' q1 => ⟨belowK_b (w := w) (Nat.le_refl _) X _ (.loop o) (.loop o') (by omega) q1 rfl rfl, OthS.loop _ _ _ _ _ q1⟩
  refine ⟨w.heap.size + 1, [{ target := .collected w.heap.size, args := #[] }], W1, { target := .fn (.func gf) lb, args := #[.func (.yield (w.heap.size + 1)) #[] #[]] }, W1, gf, #[.func (.yield (w.heap.size + 1)) #[] #[]] ++ lb, W1, ?_, ?_, ?_, ?_, fun _ => h1, ?_⟩
  · rw [hW1, hrc]; exact run_enterLoop_outer _ _ _ _ _
  · simp only [resolve, hg]; simp [go_sem]
  · intro f' hf'; simp [Target.leads] at hf'; subst hf'; exact hFg
  · simp [invoke, go_sem, eg]
  · refine (hseq (w.heap.size + 1) (fun B pre W => I B pre W ∧ W.heap[w.heap.size + 1]? = some (.loop (rc .ready none)) ∧ W.heap[w.heap.size]? = some (.deferred (some []))) W1 (hb0.trans (bW.mono hb0.size)) ?ab ?rd (fun B hB => ⟨iW B hB, lW, dW⟩)).mono ?_
    case ab =>
      rintro B s A A' ⟨hi, hl, hk⟩ hAB
      exact ⟨hI B s A A' hi ⟨hAB.1.mono (by omega), hAB.2⟩, (hAB.1.block _ (by omega)).trans hl, (hAB.1.block _ (by omega)).trans hk⟩
    case rd =>
      rintro B pre x W ⟨hi, hl, hk⟩ hv hlen
      have hlt : w.heap.size + 1 < W.heap.size := (Array.getElem?_eq_some_iff.1 hl).1
      have hy := run_yield (P := P) (args := #[enc x]) hl (by rw [hrc]; rfl)
      rw [hrc] at hy
      refine ⟨fn, _, assign, body, hy, roundIn_of_wpIn hfn (hassign _ x W _ ⟨_, run_beginRound hl (by rw [hrc]), ?_⟩)⟩
      have lb2 : (W.putObj (w.heap.size + 1) (.loop { rc .ready none with state := .busy })).heap[w.heap.size + 1]? = some (.loop { rc .ready none with state := .busy }) := World.putObj_heap_same hlt
      have db2 : (W.putObj (w.heap.size + 1) (.loop { rc .ready none with state := .busy })).heap[w.heap.size]? = some (.deferred (some [])) := (World.putObj_heap_other (by omega)).trans hk
      refine wpIn_mono (hbody _ B pre x _ (hI _ _ _ _ hi (kb B W _ _ hl)) (hV B x _ _ _ _ hv hl) hlen) ?_
      have fin : ∀ (W3 : World), KeepsFrom w.heap.size (W.putObj (w.heap.size + 1) (.loop { rc .ready none with state := .busy })) W3 →
          (Instr.endRound (w.heap.size + 1) none).run P W3 = .ok (.bool true) (W3.putObj (w.heap.size + 1) (.loop (rc .ready none))) ∧
          W3.heap[w.heap.size + 1]? = some (.loop { rc .ready none with state := .busy }) ∧
          (W3.putObj (w.heap.size + 1) (.loop (rc .ready none))).heap[w.heap.size + 1]? = some (.loop (rc .ready none)) ∧
          (W3.putObj (w.heap.size + 1) (.loop (rc .ready none))).heap[w.heap.size]? = some (.deferred (some [])) := fun W3 hk3 => by
        have hl3 := hk3.same _ _ (by omega) lb2 rfl
        have := run_endRound (P := P) none hl3
        rw [hrc] at this ⊢
        exact ⟨this, by rw [hrc] at hl3; exact hl3, World.putObj_heap_same (Array.getElem?_eq_some_iff.1 hl3).1, (World.putObj_heap_other (by omega)).trans (hk3.same _ _ (Nat.le_refl _) db2 rfl)⟩
      rintro e a3 W3 hp
      cases e with
      | normal =>
        obtain ⟨k3, b3, i3⟩ := hp
        obtain ⟨hr, hl3, hl4, hk4⟩ := fin W3 k3
        exact ⟨_, _, hr, rfl, ⟨hI _ _ _ _ i3 (kb B W3 _ _ hl3), hl4, hk4⟩, hKt (hKt (hKb W _ _ _ hl) b3) (hKb W3 _ _ _ hl3)⟩
      | ret => exact hp.2.elim
      | exit id => exact hp.2.elim
      | goto t => exact hp.2.elim
      | panic ch => exact hp.elim
      | outgrown => exact hp.elim
    · rintro e W2 ⟨⟨v, rfl⟩, B, xs, hS, hi, hl, hk⟩
      exact ⟨none, _, by have := run_endLoop (P := P) hl (by rw [hrc]; simp); rw [hrc] at this; exact this, hdone _ B xs _ (Nat.le_refl _) hS (hI _ _ _ _ hi (kb B W2 _ _ hl)) ((World.putObj_heap_other (by omega)).trans hk)⟩
end Go.Proofs.YtfbdgdphpdhcpaaDoor
namespace Go.Proofs.YtfbdgdphpdhcpaaDoor
open Go.RowKit

def natVals (l : List Nat) : List Value := l.map fun x => .int .i64 (x : Nat)
theorem natVals_append (l m : List Nat) : natVals (l ++ m) = natVals l ++ natVals m := by simp [natVals]
def nth (l : List Nat) (k : Nat) : Nat := l.getD k 0
theorem natVals_at (l : List Nat) (k : Nat) (h : k < l.length) : (natVals l)[k]? = some (.int .i64 (nth l k : Nat)) := by
  simp [natVals, nth, h]
/-- A value that is a slice of the numbers l. -/
def NSl (w : World) (v : Value) (l : List Nat) : Prop := ∃ a cap, v = .slice a l.length cap ∧ Row w a l.length (fun k => (nth l k : Nat))
theorem owns_nats {w : World} {base : Nat} {v : Value} {l : List Nat} (h : w.ownsRow base 3 1 v l.length (natVals l)) : NSl w v l := by
  by_cases hn : 0 < l.length
  · obtain ⟨g, cap, rfl⟩ := owns_form h hn
    refine ⟨_, cap, rfl, fun k hk => ⟨g, 0, rfl, ?_⟩⟩
    rw [Nat.zero_add, h.cellAt _ (by omega)]; exact natVals_at l k hk
  · have h0 : l.length = 0 := by omega
    rcases h.2 with ⟨rfl, _⟩ | ⟨g, cap, cur, rfl, _⟩
    · exact ⟨none, 0, by rw [h0], fun k hk => absurd (Nat.lt_of_le_of_lt (Nat.zero_le _) hk) hn⟩
    · exact ⟨_, cap, rfl, fun k hk => absurd (Nat.lt_of_le_of_lt (Nat.zero_le _) hk) hn⟩
theorem below_append3 {w wx w1 : World} {o2 : Obj} {e : TypeId} {size n : Nat} {v : Value} {xs : List Value} (h : Below w.heap.size w wx) (hown : wx.ownsRow w.heap.size e size v n xs) (hg : (wx.alloc o2).grownBy w1 v.ownBlock) : Below w.heap.size w w1 :=
  (h.alloc h.size o2).grown hg (by have := h.size; simp; omega) (owns_block hown)

end Go.Proofs.YtfbdgdphpdhcpaaDoor
namespace Go.Proofs.YtfbdgdphpdhcpaaDoor
open Go.RowKit

def sumTo (φ : Nat → Nat) : Nat → Nat
  | 0 => 0
  | k + 1 => sumTo φ k + φ k
theorem sumTo_congr {φ ψ : Nat → Nat} : ∀ n, (∀ k, k < n → φ k = ψ k) → sumTo φ n = sumTo ψ n
  | 0, _ => rfl
  | n + 1, h => by rw [sumTo, sumTo, sumTo_congr n (fun k hk => h k (by omega)), h n (by omega)]
theorem sumTo_le {φ : Nat → Nat} {B : Nat} : ∀ n, (∀ k, k < n → φ k ≤ B) → sumTo φ n ≤ n * B
  | 0, _ => by simp [sumTo]
  | n + 1, h => by
    have := sumTo_le n (fun k hk => h k (by omega))
    have := h n (by omega)
    rw [sumTo, Nat.succ_mul]; omega
theorem le_sumTo {φ : Nat → Nat} {k : Nat} : ∀ n, k < n → φ k ≤ sumTo φ n
  | 0, h => absurd h (Nat.not_lt_zero _)
  | n + 1, h => by
    rw [sumTo]
    by_cases e : k = n
    · subst e; omega
    · have := le_sumTo (φ := φ) n (show k < n by omega); omega
theorem sumTo_mono {φ : Nat → Nat} {m : Nat} : ∀ n, m ≤ n → sumTo φ m ≤ sumTo φ n
  | 0, h => by rw [show m = 0 by omega]; exact Nat.le_refl _
  | n + 1, h => by
    by_cases e : m = n + 1
    · subst e; exact Nat.le_refl _
    · have := sumTo_mono (φ := φ) n (show m ≤ n by omega); rw [sumTo]; omega
theorem sumTo_add (φ ψ : Nat → Nat) : ∀ n, sumTo (fun k => φ k + ψ k) n = sumTo φ n + sumTo ψ n
  | 0 => rfl
  | n + 1 => by rw [sumTo, sumTo, sumTo, sumTo_add φ ψ n]; omega
theorem sumTo_mul (c : Nat) (φ : Nat → Nat) : ∀ n, sumTo (fun k => c * φ k) n = c * sumTo φ n
  | 0 => by simp [sumTo]
  | n + 1 => by rw [sumTo, sumTo, sumTo_mul c φ n, Nat.mul_add]
/-- One value more, weighed. -/
theorem sumTo_upd {f M : Nat → Nat} {i v : Nat} : ∀ n, i < n → sumTo (fun x => upd f i (f i + v) x * M x) n = sumTo (fun x => f x * M x) n + v * M i
  | 0, h => absurd h (Nat.not_lt_zero _)
  | n + 1, h => by
    rw [sumTo, sumTo]
    by_cases e : i = n
    · subst e
      rw [upd_same, Nat.add_mul]
      have : sumTo (fun x => upd f i (f i + v) x * M x) i = sumTo (fun x => f x * M x) i := sumTo_congr i fun k hk => by rw [upd_other _ _ _ _ (by omega)]
      rw [this]; omega
    · rw [sumTo_upd n (by omega), upd_other _ _ _ _ (by omega)]; omega

theorem or_lt {taken k r : Nat} (ht : taken < pw r) (hk : k < r) : taken ||| pw k < pw r := Nat.or_lt_two_pow ht (Nat.pow_lt_pow_right (by decide) hk)
theorem or_free {x k : Nat} (h : x.testBit k = false) : x ||| pw k = x + pw k := by
  have hm : x % 2 ^ (k + 1) < 2 ^ k := by
    rw [Nat.mod_pow_succ]
    have h2 : x / 2 ^ k % 2 = 0 := by
      rw [Nat.testBit_eq_decide_div_mod_eq] at h
      have : ¬ (x / 2 ^ k % 2 = 1) := by simpa using h
      omega
    rw [h2, Nat.mul_zero, Nat.add_zero]
    exact Nat.mod_lt _ (Nat.two_pow_pos k)
  have hlt : x % 2 ^ (k + 1) < 2 ^ (k + 1) := Nat.mod_lt _ (Nat.two_pow_pos _)
  have hx : x = 2 ^ (k + 1) * (x / 2 ^ (k + 1)) + x % 2 ^ (k + 1) := (Nat.div_add_mod x (2 ^ (k + 1))).symm
  have h1 := Nat.two_pow_add_eq_or_of_lt hlt (x / 2 ^ (k + 1))
  have h2 : x % 2 ^ (k + 1) + 2 ^ k < 2 ^ (k + 1) := by rw [Nat.pow_succ] at *; omega
  have h3 := Nat.two_pow_add_eq_or_of_lt h2 (x / 2 ^ (k + 1))
  have h4 : x % 2 ^ (k + 1) ||| pw k = x % 2 ^ (k + 1) + pw k := or_pw_add hm
  have e : x ||| pw k = 2 ^ (k + 1) * (x / 2 ^ (k + 1)) + (x % 2 ^ (k + 1) + 2 ^ k) := by
    rw [h3, show x % 2 ^ (k + 1) + 2 ^ k = x % 2 ^ (k + 1) ||| pw k from h4.symm, ← Nat.or_assoc, ← h1, ← hx]
  rw [e]
  show _ = x + 2 ^ k
  omega
end Go.Proofs.YtfbdgdphpdhcpaaDoor
namespace Go.Proofs.YtfbdgdphpdhcpaaDoor
open Go.RowKit

/-- May a point stand next behind a set? -/
def may (u : Nat → Nat) (s i : Nat) : Bool := !s.testBit i && decide (lack (u i) s = 0)
theorem may_in {u : Nat → Nat} {s i : Nat} (h : s.testBit i = true) : may u s i = false := by simp [may, h]
theorem may_yes {u : Nat → Nat} {s i : Nat} (h : s.testBit i = false) (h2 : lack (u i) s = 0) : may u s i = true := by simp [may, h, h2]
theorem may_no {u : Nat → Nat} {s i : Nat} (h2 : lack (u i) s ≠ 0) : may u s i = false := by simp [may, h2]
theorem may_out {u : Nat → Nat} {s i : Nat} (h : may u s i = true) : s.testBit i = false := by
  cases hb : s.testBit i
  · rfl
  · rw [may_in hb] at h; cases h
/-- How many of n points a set has not. -/
def miss (n s : Nat) : Nat := sumTo (fun i => if s.testBit i = true then 0 else 1) n
theorem miss_le (n s : Nat) : miss n s ≤ n := by
  have := sumTo_le (φ := fun i => if s.testBit i = true then 0 else 1) (B := 1) n (fun k _ => by split <;> omega)
  unfold miss; omega
theorem add_bit {s i : Nat} (h : s.testBit i = false) (k : Nat) : (s + pw i).testBit k = (s.testBit k || decide (i = k)) := by
  rw [← or_free h, Nat.testBit_or, pw_bit]
theorem miss_add {s i : Nat} (h : s.testBit i = false) : ∀ n, i < n → miss n (s + pw i) + 1 = miss n s
  | 0, hi => absurd hi (Nat.not_lt_zero _)
  | n + 1, hi => by
    unfold miss
    rw [sumTo, sumTo]
    by_cases e : i = n
    · subst e
      have e1 : sumTo (fun k => if (s + pw i).testBit k = true then 0 else 1) i = sumTo (fun k => if s.testBit k = true then 0 else 1) i := sumTo_congr i fun k hk => by
        have hne : ¬ i = k := by omega
        rw [add_bit h k]; simp [hne]
      rw [e1, add_bit h i, h]; simp
    · have ih := miss_add h n (by omega)
      unfold miss at ih
      rw [add_bit h n, decide_eq_false e, Bool.or_false]
      omega
theorem add_lt {n s i : Nat} (hs : s < pw n) (hi : i < n) (h : s.testBit i = false) : s + pw i < pw n := by
  rw [← or_free h]; exact or_lt hs hi

/-- In how many ways the others go behind a set, with so much fuel. -/
def waysF (u : Nat → Nat) (n : Nat) : Nat → Nat → Nat
  | 0, s => if s = pw n - 1 then 1 else 0
  | f + 1, s => if pw n - 1 ≤ s then (if s = pw n - 1 then 1 else 0) else sumTo (fun i => if may u s i = true then waysF u n f (s + pw i) else 0) n
theorem waysF_top (u : Nat → Nat) (n : Nat) {s : Nat} (h : pw n - 1 ≤ s) : ∀ f, waysF u n f s = if s = pw n - 1 then 1 else 0
  | 0 => rfl
  | f + 1 => by unfold waysF; rw [if_pos h]
theorem waysF_eq (u : Nat → Nat) (n : Nat) : ∀ f f' s, pw n - s ≤ f → pw n - s ≤ f' → waysF u n f s = waysF u n f' s
  | 0, f', s, h, _ => by rw [waysF_top u n (by omega), waysF_top u n (by omega)]
  | f + 1, 0, s, _, h' => by rw [waysF_top u n (by omega), waysF_top u n (by omega)]
  | f + 1, f' + 1, s, h, h' => by
    by_cases e : pw n - 1 ≤ s
    · rw [waysF_top u n e, waysF_top u n e]
    · unfold waysF
      rw [if_neg e, if_neg e]
      refine sumTo_congr n fun i _ => ?_
      have hp := pw_pos i
      rw [waysF_eq u n f f' (s + pw i) (by omega) (by omega)]
/-- In how many ways the others go behind a set. -/
def ways (u : Nat → Nat) (n s : Nat) : Nat := waysF u n (pw n) s
/-- In how many ways they go behind a set with a point next. -/
def goes (u : Nat → Nat) (n s i : Nat) : Nat := if may u s i = true then ways u n (s + pw i) else 0
theorem goes_no {u : Nat → Nat} {n s i : Nat} (h : may u s i = false) : goes u n s i = 0 := by simp [goes, h]
theorem goes_yes {u : Nat → Nat} {n s i : Nat} (h : may u s i = true) : goes u n s i = ways u n (s + pw i) := by simp [goes, h]
theorem ways_all (u : Nat → Nat) (n : Nat) : ways u n (pw n - 1) = 1 := by unfold ways; rw [waysF_top u n (Nat.le_refl _)]; simp
theorem ways_eq {u : Nat → Nat} {n s : Nat} (h : s + 1 < pw n) : ways u n s = sumTo (goes u n s) n := by
  obtain ⟨f, hf⟩ : ∃ f, pw n = f + 1 := ⟨pw n - 1, by omega⟩
  have e : ways u n s = waysF u n (f + 1) s := by unfold ways; rw [hf]
  rw [e]
  unfold waysF
  rw [if_neg (by omega)]
  refine sumTo_congr n fun i _ => ?_
  unfold goes ways
  have hp := pw_pos i
  rw [waysF_eq u n f (pw n) (s + pw i) (by omega) (by omega)]
theorem all_bit {n i : Nat} (hi : i < n) : (pw n - 1).testBit i = true := by
  have := Nat.testBit_two_pow_sub_one n i
  unfold pw; rw [this]; simp [hi]
theorem goes_all {u : Nat → Nat} {n i : Nat} (hi : i < n) : goes u n (pw n - 1) i = 0 := goes_no (may_in (all_bit hi))
theorem sum_all {u : Nat → Nat} {n : Nat} : ∀ k, k ≤ n → sumTo (goes u n (pw n - 1)) k = 0
  | 0, _ => rfl
  | k + 1, h => by rw [sumTo, sum_all k (by omega), goes_all (by omega)]
theorem ways_le {u : Nat → Nat} {n : Nat} (h10 : n ≤ 10) : ∀ m s, pw n - s ≤ m → s < pw n → ways u n s ≤ 10 ^ miss n s
  | 0, s, h, hs => by omega
  | m + 1, s, h, hs => by
    by_cases e : s + 1 < pw n
    · rw [ways_eq e]
      by_cases z : ∃ i, i < n ∧ may u s i = true
      · obtain ⟨i, hi, hm⟩ := z
        have hb := may_out hm
        have h1 := miss_add hb n hi
        have h2 := sumTo_le (φ := goes u n s) (B := 10 ^ (miss n s - 1)) n (fun k hk => by
          cases hk2 : may u s k
          · rw [goes_no hk2]; exact Nat.zero_le _
          · rw [goes_yes hk2]
            have h3 := ways_le (u := u) h10 m (s + pw k) (by have := pw_pos k; omega) (add_lt hs hk (may_out hk2))
            have h4 := miss_add (may_out hk2) n hk
            rw [show miss n s - 1 = miss n (s + pw k) by omega]; exact h3)
        refine Nat.le_trans h2 ?_
        rw [show miss n s = (miss n s - 1) + 1 by omega, Nat.pow_succ, Nat.mul_comm]
        exact Nat.mul_le_mul (Nat.le_refl _) h10
      · have h2 := sumTo_le (φ := goes u n s) (B := 0) n (fun k hk => by
          cases hk2 : may u s k
          · rw [goes_no hk2]; exact Nat.zero_le _
          · exact absurd ⟨k, hk, hk2⟩ z)
        exact Nat.le_trans (by omega) (Nat.zero_le _)
    · have : s = pw n - 1 := by omega
      rw [this, ways_all]; exact Nat.pos_of_ne_zero (by have := Nat.pow_pos (n := miss n (pw n - 1)) (show 0 < 10 by decide); omega)
theorem ways_small {u : Nat → Nat} {n s : Nat} (h10 : n ≤ 10) (hs : s < pw n) : ways u n s ≤ 10000000000 := by
  refine Nat.le_trans (ways_le h10 _ s (Nat.le_refl _) hs) ?_
  have h1 := miss_le n s
  exact Nat.le_trans (Nat.pow_le_pow_right (by decide) (show miss n s ≤ 10 by omega)) (by decide)
theorem goes_small {u : Nat → Nat} {n s i : Nat} (h10 : n ≤ 10) (hs : s < pw n) (hi : i < n) : goes u n s i ≤ 10000000000 := by
  cases h : may u s i
  · rw [goes_no h]; exact Nat.zero_le _
  · rw [goes_yes h]; exact ways_small h10 (add_lt hs hi (may_out h))
theorem sum_small {u : Nat → Nat} {n s k : Nat} (h10 : n ≤ 10) (hs : s < pw n) (hk : k ≤ n) : sumTo (goes u n s) k ≤ 100000000000 := by
  have := sumTo_le (φ := goes u n s) (B := 10000000000) k (fun j hj => goes_small h10 hs (by omega))
  omega
theorem ways_congr {u v : Nat → Nat} {n : Nat} (h : ∀ s i, s < pw n → i < n → may u s i = may v s i) : ∀ m s, pw n - s ≤ m → s < pw n → ways u n s = ways v n s
  | 0, s, hm, hs => by omega
  | m + 1, s, hm, hs => by
    by_cases e : s + 1 < pw n
    · rw [ways_eq e, ways_eq e]
      refine sumTo_congr n fun k hk => ?_
      cases h1 : may u s k
      · rw [goes_no h1, goes_no (by rw [← h s k hs hk]; exact h1)]
      · rw [goes_yes h1, goes_yes (by rw [← h s k hs hk]; exact h1)]
        exact ways_congr h m _ (by have := pw_pos k; omega) (add_lt hs hk (may_out h1))
    · have : s = pw n - 1 := by omega
      rw [this, ways_all, ways_all]
/-- Where a point needs itself there is no way. -/
theorem ways_self {u : Nat → Nat} {n a : Nat} (ha : a < n) (hu : u a < 18446744073709551616) (h : (u a).testBit a = true) (hn : n ≤ 10) : ∀ m s, pw n - s ≤ m → s < pw n → s.testBit a = false → ways u n s = 0
  | 0, s, hm, hs, _ => by omega
  | m + 1, s, hm, hs, hb => by
    have e : s + 1 < pw n := by
      rcases Nat.lt_or_ge (s + 1) (pw n) with h1 | h1
      · exact h1
      · have : s = pw n - 1 := by omega
        rw [this, all_bit ha] at hb; cases hb
    rw [ways_eq e]
    have h2 := sumTo_le (φ := goes u n s) (B := 0) n (fun k hk => by
      cases hk2 : may u s k
      · rw [goes_no hk2]; exact Nat.zero_le _
      · rw [goes_yes hk2]
        have hka : k ≠ a := by
          intro hka; subst hka
          have hz : lack (u k) s ≠ 0 := by
            intro hz
            have := (lack_zero (u k) s hu (by have := pw_le n hn; omega)).1 hz k h
            rw [hb] at this; cases this
          rw [may_no hz] at hk2; cases hk2
        rw [ways_self ha hu h hn m _ (by have := pw_pos k; omega) (add_lt hs hk (may_out hk2)) (by rw [add_bit (may_out hk2), hb]; simpa using hka)]
        exact Nat.zero_le _)
    omega
end Go.Proofs.YtfbdgdphpdhcpaaDoor
