/-
  What order.reach does to a slice of the call's own: Warshall's rounds. Conditions: at most ten sets of so many points.
  What order.Make answers, whatever it is handed: the sets that Warshall's rounds come to. No condition but that a slice reads as a slice of pairs.
-/
import Derived.Test.YtinblbkglkhjmaaDoorRefCheck
namespace Go.Proofs.YtinblbkglkhjmaaDoor
open Go.RowKit

/-- A slice of the call's own at the head of block b: the numbers g. -/
def Own (w : World) (b n : Nat) (g : Nat → Nat) : Prop := ∀ k, k < n → w.cell? ⟨b, k, none⟩ = some (.int .i64 (g k : Nat)) ∧ w.frozen? ⟨b, k, none⟩ = false
def upd (g : Nat → Nat) (u v k : Nat) : Nat := if k = u then v else g k
theorem upd_same (g : Nat → Nat) (u v : Nat) : upd g u v u = v := by simp [upd]
theorem upd_other (g : Nat → Nat) (u v k : Nat) (h : k ≠ u) : upd g u v k = g k := by simp [upd, h]
theorem Own.row {w : World} {b n : Nat} {g : Nat → Nat} (h : Own w b n g) : Row w (some ⟨b, 0, none⟩) n (fun k => (g k : Nat)) :=
  fun k hk => ⟨b, 0, rfl, by rw [Nat.zero_add]; exact (h k hk).1⟩
theorem Own.set {w : World} {b n : Nat} {g : Nat → Nat} (h : Own w b n g) (u v : Nat) (hu : u < n) : Own (w.setCell ⟨b, u, none⟩ (.int .i64 (v : Nat))) b n (upd g u v) := by
  intro k hk
  refine ⟨?_, by rw [World.frozen?_setCell]; exact (h k hk).2⟩
  by_cases e : k = u
  · subst e; rw [upd_same]; exact World.cell?_setCell_same _ _ _ (h k hk).1
  · rw [upd_other _ _ _ _ e, World.cell?_setCell_other _ _ _ _ (fun e2 => e (by injection e2 with _ h2; exact h2.symm))]; exact (h k hk).1
theorem Own.lt {w : World} {b n : Nat} {g : Nat → Nat} (h : Own w b n g) {k : Nat} (hk : k < n) : b < w.heap.size := World.block_lt_of_cell? _ _ (h k hk).1
theorem Own.keep {w w' : World} {b n B : Nat} {g : Nat → Nat} (h : Own w b n g) (hB : Below B w w') (hb : b < B) : Own w' b n g :=
  fun k hk => ⟨(hB.cell (p := ⟨b, k, none⟩) hb).trans (h k hk).1, (hB.frozen (p := ⟨b, k, none⟩) hb).trans (h k hk).2⟩
theorem Own.alloc {w : World} {b n : Nat} {g : Nat → Nat} (h : Own w b n g) (o : Obj) : Own (w.alloc o) b n g :=
  fun k hk => (h.keep ((Below.refl w.heap.size w).alloc (Nat.le_refl _) o) (h.lt hk)) k hk
theorem Own.drewN {w : World} {b n : Nat} {g : Nat → Nat} (h : Own w b n g) (m : Nat) : Own (w.drewN m) b n g := h

/-- All sets are sets of m points. -/
def Sm (m n : Nat) (g : Nat → Nat) : Prop := ∀ k, k < n → g k < pw m
theorem Sm.upd_or {m n : Nat} {g : Nat → Nat} (h : Sm m n g) {u x y : Nat} (hx : x < pw m) (hy : y < pw m) : Sm m n (upd g u (x ||| y)) := by
  intro k hk
  unfold upd
  split
  · exact Nat.or_lt_two_pow hx hy
  · exact h k hk

def reachIn (g : Nat → Nat) (t low : Nat) : Nat → Nat → Nat
  | 0 => g
  | k + 1 => if (reachIn g t low k k).testBit t = true then upd (reachIn g t low k) k (reachIn g t low k k ||| low) else reachIn g t low k
def reachOut (g : Nat → Nat) (n : Nat) : Nat → Nat → Nat
  | 0 => g
  | t + 1 => reachIn (reachOut g n t) t (reachOut g n t t) n
theorem reachIn_yes {g : Nat → Nat} {t low k : Nat} (h : (reachIn g t low k k).testBit t = true) : reachIn g t low (k + 1) = upd (reachIn g t low k) k (reachIn g t low k k ||| low) := by
  funext j; simp [reachIn, h]
theorem reachIn_no {g : Nat → Nat} {t low k : Nat} (h : (reachIn g t low k k).testBit t = false) : reachIn g t low (k + 1) = reachIn g t low k := by
  funext j; simp [reachIn, h]
theorem reachIn_sm {m n : Nat} {g : Nat → Nat} (h : Sm m n g) {t low : Nat} (hl : low < pw m) : ∀ k, k ≤ n → Sm m n (reachIn g t low k)
  | 0, _ => h
  | k + 1, hk => by
    have ih := reachIn_sm h (t := t) hl k (by omega)
    cases hb : (reachIn g t low k k).testBit t
    · rw [reachIn_no hb]; exact ih
    · rw [reachIn_yes hb]; exact ih.upd_or (ih k (by omega)) hl
theorem reachOut_sm {m n : Nat} {g : Nat → Nat} (h : Sm m n g) : ∀ t, t ≤ n → Sm m n (reachOut g n t)
  | 0, _ => h
  | t + 1, ht => by
    have ih := reachOut_sm h t (by omega)
    exact reachIn_sm ih (ih t (by omega)) n (Nat.le_refl _)

end Go.Proofs.YtinblbkglkhjmaaDoor
namespace Go.Proofs.YtinblbkglkhjmaaDoor
open Go.RowKit

theorem Tryd.info3 : (Tryd.prog.info? 3).map (fun i => (i.zero, i.size, i.bytes)) = some (some (.int .i64 0), 1, 8) := by kernel_rfl

/-- A slice of len pairs. -/
def PRow (w : World) (a : Option Addr) (len : Nat) (p : Nat → Int × Int) : Prop :=
  ∀ k, k < len → ∃ b off, a = some ⟨b, off, none⟩ ∧ w.cell? ⟨b, off + k * 2, none⟩ = some (.int .i64 (p k).1) ∧ w.cell? ⟨b, off + k * 2 + 1, none⟩ = some (.int .i64 (p k).2)
theorem PRow.below {w w' : World} {a : Option Addr} {len : Nat} {p : Nat → Int × Int} (h : PRow w a len p) (hb : Below w.heap.size w w') : PRow w' a len p := by
  intro k hk
  obtain ⟨b, off, rfl, hc, hd⟩ := h k hk
  exact ⟨b, off, rfl, (hb.cell (World.block_lt_of_cell? _ _ hc)).trans hc, (hb.cell (World.block_lt_of_cell? _ _ hd)).trans hd⟩

theorem own_made {w : World} {base b m : Nat} (h : w.ownsRow base 3 1 (.slice (some ⟨b, 0, none⟩) m m) m (madeCells (Value.int .i64 0).cells (m * 1)).toList) : Own w b m (fun _ => 0) := by
  intro k hk
  refine ⟨?_, h.frozenAt k⟩
  rw [h.cellAt k (by omega)]
  have e : (Value.int .i64 0).cells = #[Value.int .i64 0] := rfl
  rw [e, toList_madeCells_one]
  simp [hk]

theorem or_pw {x m b : Nat} (hm : m ≤ 10) (hx : x < pw m) (hb : b < m) : bits .or .i64 (x : Int) ((pw b : Nat) : Int) = ((x ||| pw b : Nat) : Int) := by
  have h1 := pw_le m hm
  have h2 := pw_le b (by omega)
  generalize pw m = P at *
  generalize pw b = Q at *
  exact i64_or x Q (by omega) (by omega)
def mk (p : Nat → Int × Int) : Nat → Nat → Nat
  | 0 => fun _ => 0
  | k + 1 => upd (mk p k) (p k).2.toNat (mk p k (p k).2.toNat ||| pw (p k).1.toNat)
def PIn (n : Int) (p : Nat → Int × Int) (k : Nat) : Prop := (0 ≤ (p k).1 ∧ (p k).1 < n) ∧ (0 ≤ (p k).2 ∧ (p k).2 < n)
theorem mk_sm {n : Nat} {p : Nat → Int × Int} : ∀ k, (∀ j, j < k → PIn n p j) → Sm n n (mk p k)
  | 0, _ => fun _ _ => pw_pos n
  | k + 1, h => by
    have ih := mk_sm (n := n) k (fun j hj => h j (by omega))
    obtain ⟨⟨h1, h2⟩, h3, h4⟩ := h k (by omega)
    refine ih.upd_or (ih _ (by omega)) ?_
    exact Nat.pow_lt_pow_right (by decide) (by omega)
/-- What Make must answer. -/
def Mk (n : Int) (len : Nat) (p : Nat → Int × Int) (c : Int) : Prop :=
  (c = 2 ∧ ¬ (0 ≤ n ∧ n ≤ 10)) ∨
  ∃ m : Nat, n = m ∧ m ≤ 10 ∧ ((c = 3 ∧ ¬ ∀ k, k < len → PIn m p k) ∨
    ((∀ k, k < len → PIn m p k) ∧ ((c = 4 ∧ ¬ Ord m (reachOut (mk p len) m m)) ∨ (c = 0 ∧ Ord m (reachOut (mk p len) m m)))))
def noOrder : Value := .agg #[.int .i64 0, .slice none 0 0]
def Made (n : Int) (len : Nat) (p : Nat → Int × Int) (w : World) (e : Ending) (w' : World) : Prop :=
  (∃ c, c ≠ 0 ∧ Mk n len p c ∧ e = .returned (.tuple #[noOrder, .int .i64 c])) ∨
  ∃ (m b : Nat), Mk n len p 0 ∧ n = m ∧ m ≤ 10 ∧ w.heap.size ≤ b ∧ e = .returned (.tuple #[.agg #[.int .i64 n, .slice (some ⟨b, 0, none⟩) m m], .int .i64 0]) ∧ Own w' b m (reachOut (mk p len) m m)

theorem resbox {w X : World} (h : Below (w.heap.size + 1) (w.alloc (.cells #[.int .i64 0, .slice none 0 0] 24)) X) :
    X.cell? ⟨w.heap.size, 0, none⟩ = some (.int .i64 0) ∧ X.cell? ⟨w.heap.size, 1, none⟩ = some (.slice none 0 0) ∧ X.frozen? ⟨w.heap.size, 0, none⟩ = false ∧ X.frozen? ⟨w.heap.size, 1, none⟩ = false :=
  ⟨(h.cell (p := ⟨w.heap.size, 0, none⟩) (Nat.lt_succ_self _)).trans (by simp), (h.cell (p := ⟨w.heap.size, 1, none⟩) (Nat.lt_succ_self _)).trans (by simp),
   (h.frozen (p := ⟨w.heap.size, 0, none⟩) (Nat.lt_succ_self _)).trans (by simp [World.frozen?_alloc_at]), (h.frozen (p := ⟨w.heap.size, 1, none⟩) (Nat.lt_succ_self _)).trans (by simp [World.frozen?_alloc_at])⟩
theorem out_below {w X : World} {o : Obj} (h : Below (w.heap.size + 1) (w.alloc o) X) : Below w.heap.size w X :=
  ((Below.refl _ _).alloc (Nat.le_refl _) o).trans (h.mono (Nat.le_succ _))

theorem set2 {w X : World} {u v : Value} (h : Below w.heap.size w X) : Below w.heap.size w ((X.setCell ⟨w.heap.size, 0, none⟩ u).setCell ⟨w.heap.size, 1, none⟩ v) :=
  (h.setCell (p := ⟨w.heap.size, 0, none⟩) (Nat.le_refl _) _).setCell (p := ⟨w.heap.size, 1, none⟩) (Nat.le_refl _) _
theorem Own.set2 {w X : World} {m : Nat} {g : Nat → Nat} {u v : Value} (h : Own X (w.heap.size + 1) m g) : Own ((X.setCell ⟨w.heap.size, 0, none⟩ u).setCell ⟨w.heap.size, 1, none⟩ v) (w.heap.size + 1) m g := by
  intro k hk
  refine ⟨?_, by rw [World.frozen?_setCell, World.frozen?_setCell]; exact (h k hk).2⟩
  rw [World.cell?_setCell_other _ _ _ _ (fun e => by injection e with e1; omega), World.cell?_setCell_other _ _ _ _ (fun e => by injection e with e1; omega)]
  exact (h k hk).1

end Go.Proofs.YtinblbkglkhjmaaDoor
