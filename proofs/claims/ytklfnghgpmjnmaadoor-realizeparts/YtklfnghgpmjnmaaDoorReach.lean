/-
  What the reference's Less and CheckOrder answer: CheckOrder the same as Check, whatever it is handed. No condition but that a slice reads as a slice of numbers.
  What order.reach does to a slice of the call's own: Warshall's rounds. Conditions: at most ten sets of so many points.
-/
import Derived.Test.YtklfnghgpmjnmaaDoorCheck
import Derived.Deep.QuietTactic
import Derived.BigQuiet
namespace Go.Proofs.YtklfnghgpmjnmaaDoor
open Go.RowKit

theorem bit_quiet (n : Nat) (w : World) (hn : n < 62) :
    Calls Tryd.prog 9 #[.int .i64 n] w fun e w' => e = .returned (.int .i64 (pw n : Nat)) ∧ w' = w :=
  (bit_any n w hn).mono fun _ _ ⟨h, h'⟩ => ⟨h, h'.symm⟩

/-- The reference's law: who is below somebody below i is below i; and i is not below i. -/
def RefAt (n : Nat) (g : Nat → Nat) (i : Nat) : Prop :=
  (∀ j, j < n → ∀ k, k < n → ¬ ((g k).testBit j = true ∧ (g i).testBit k = true ∧ (g i).testBit j = false)) ∧ (g i).testBit i = false
theorem refAt_iff (n : Nat) (g : Nat → Nat) (i : Nat) (hn : n ≤ 10) (hg : ∀ k, k < n → g k < pw n) (hi : i < n) : RefAt n g i ↔ OrdAt n g i := by
  have hp := pw_le n hn
  have hb : ∀ k, k < n → g k < 18446744073709551616 := fun k hk => by have := hg k hk; omega
  constructor
  · rintro ⟨h1, h2⟩
    refine ⟨h2, fun p hp hb1 => (lack_zero _ _ (hb p hp) (hb i hi)).2 fun j hj => ?_⟩
    have hjn : j < n := bit_of_lt (hg p hp) hj
    cases h : (g i).testBit j
    · exact absurd ⟨hj, hb1, h⟩ (h1 j hjn p hp)
    · rfl
  · rintro ⟨h1, h2⟩
    refine ⟨fun j hj k hk ⟨c1, c2, c3⟩ => ?_, h1⟩
    have := (lack_zero _ _ (hb k hk) (hb i hi)).1 (h2 k hk c2) j c1
    rw [c3] at this
    cases this

/-- An order lies in block b0, its sets are the row f. -/
def Held (w : World) (b0 : Nat) (n : Int) (a : Option Addr) (len cap : Nat) (f : Nat → Int) : Prop :=
  w.cell? ⟨b0, 0, none⟩ = some (.int .i64 n) ∧ w.cell? ⟨b0, 1, none⟩ = some (.slice a len cap) ∧ Row w a len f
theorem Held.c0 {w : World} {b0 : Nat} {n : Int} {a : Option Addr} {len cap : Nat} {f : Nat → Int} (h : Held w b0 n a len cap f) : w.cell? ⟨b0, 0, none⟩ = some (.int .i64 n) := h.1
theorem Held.c1 {w : World} {b0 : Nat} {n : Int} {a : Option Addr} {len cap : Nat} {f : Nat → Int} (h : Held w b0 n a len cap f) : w.cell? ⟨b0, 1, none⟩ = some (.slice a len cap) := h.2.1
theorem Held.row {w : World} {b0 : Nat} {n : Int} {a : Option Addr} {len cap : Nat} {f : Nat → Int} (h : Held w b0 n a len cap f) : Row w a len f := h.2.2
theorem Held.step {w w' : World} {b0 : Nat} {n : Int} {a : Option Addr} {len cap : Nat} {f : Nat → Int} (h : Held w b0 n a len cap f) (hb : Below w.heap.size w w') : Held w' b0 n a len cap f :=
  ⟨(hb.cell (World.block_lt_of_cell? _ _ h.1)).trans h.1, (hb.cell (World.block_lt_of_cell? _ _ h.2.1)).trans h.2.1, h.2.2.below hb⟩
theorem Held.box {w : World} {n : Int} {a : Option Addr} {len cap : Nat} {f : Nat → Int} (h : Row w a len f) : Held (w.alloc (.cells #[.int .i64 n, .slice a len cap] 24)) w.heap.size n a len cap f :=
  ⟨by simp, by simp, h.below ((Below.refl _ _).alloc (Nat.le_refl _) _)⟩
theorem below_drewN {B : Nat} {a w : World} (h : Below B a w) (n : Nat) : Below B a (w.drewN n) := h.trans ⟨rfl, rfl, rfl, Nat.le_refl _, fun _ _ => rfl⟩
theorem Below.then {w w1 w2 : World} (h : Below w.heap.size w w1) (k : Below w1.heap.size w1 w2) : Below w.heap.size w w2 := h.trans (k.mono h.size)

end Go.Proofs.YtklfnghgpmjnmaaDoor
namespace Go.Proofs.YtklfnghgpmjnmaaDoor
open Go.RowKit

/-- A slice of the call's own at the head of block b: the numbers g. -/
def Own (w : World) (b n : Nat) (g : Nat → Nat) : Prop := ∀ k, k < n → w.cell? ⟨b, k, none⟩ = some (.int .i64 (g k : Nat)) ∧ w.frozen? ⟨b, k, none⟩ = false
def upd (g : Nat → Nat) (u v k : Nat) : Nat := if k = u then v else g k
theorem upd_same (g : Nat → Nat) (u v : Nat) : upd g u v u = v := by simp [upd]
theorem upd_other (g : Nat → Nat) (u v k : Nat) (h : k ≠ u) : upd g u v k = g k := by simp [upd, h]
theorem Own.row {w : World} {b n : Nat} {g : Nat → Nat} (h : Own w b n g) : Row w (some ⟨b, 0, none⟩) n (fun k => (g k : Nat)) :=
  fun k hk => ⟨b, 0, rfl, by rw [Nat.zero_add]; exact (h k hk).1⟩
theorem Own.set {w : World} {b n : Nat} {g : Nat → Nat} (h : Own w b n g) (u v : Nat) (hu : u < n) : Own (w.setCell ⟨b, u, none⟩ (.int .i64 (v : Nat))) b n (upd g u v) := by
  intro k hk
  refine ⟨?_, by rw [World.frozen?_setCell]; exact (h k hk).2⟩
  by_cases e : k = u
  · subst e; rw [upd_same]; exact World.cell?_setCell_same _ _ _ (h k hk).1
  · rw [upd_other _ _ _ _ e, World.cell?_setCell_other _ _ _ _ (fun e2 => e (by injection e2 with _ h2; exact h2.symm))]; exact (h k hk).1
theorem Own.lt {w : World} {b n : Nat} {g : Nat → Nat} (h : Own w b n g) {k : Nat} (hk : k < n) : b < w.heap.size := World.block_lt_of_cell? _ _ (h k hk).1
theorem Own.keep {w w' : World} {b n B : Nat} {g : Nat → Nat} (h : Own w b n g) (hB : Below B w w') (hb : b < B) : Own w' b n g :=
  fun k hk => ⟨(hB.cell (p := ⟨b, k, none⟩) hb).trans (h k hk).1, (hB.frozen (p := ⟨b, k, none⟩) hb).trans (h k hk).2⟩
theorem Own.alloc {w : World} {b n : Nat} {g : Nat → Nat} (h : Own w b n g) (o : Obj) : Own (w.alloc o) b n g :=
  fun k hk => (h.keep ((Below.refl w.heap.size w).alloc (Nat.le_refl _) o) (h.lt hk)) k hk
theorem Own.drewN {w : World} {b n : Nat} {g : Nat → Nat} (h : Own w b n g) (m : Nat) : Own (w.drewN m) b n g := h

/-- All sets are sets of m points. -/
def Sm (m n : Nat) (g : Nat → Nat) : Prop := ∀ k, k < n → g k < pw m
theorem Sm.upd_or {m n : Nat} {g : Nat → Nat} (h : Sm m n g) {u x y : Nat} (hx : x < pw m) (hy : y < pw m) : Sm m n (upd g u (x ||| y)) := by
  intro k hk
  unfold upd
  split
  · exact Nat.or_lt_two_pow hx hy
  · exact h k hk

def reachIn (g : Nat → Nat) (t low : Nat) : Nat → Nat → Nat
  | 0 => g
  | k + 1 => if (reachIn g t low k k).testBit t = true then upd (reachIn g t low k) k (reachIn g t low k k ||| low) else reachIn g t low k
def reachOut (g : Nat → Nat) (n : Nat) : Nat → Nat → Nat
  | 0 => g
  | t + 1 => reachIn (reachOut g n t) t (reachOut g n t t) n
theorem reachIn_yes {g : Nat → Nat} {t low k : Nat} (h : (reachIn g t low k k).testBit t = true) : reachIn g t low (k + 1) = upd (reachIn g t low k) k (reachIn g t low k k ||| low) := by
  funext j; simp [reachIn, h]
theorem reachIn_no {g : Nat → Nat} {t low k : Nat} (h : (reachIn g t low k k).testBit t = false) : reachIn g t low (k + 1) = reachIn g t low k := by
  funext j; simp [reachIn, h]
theorem reachIn_sm {m n : Nat} {g : Nat → Nat} (h : Sm m n g) {t low : Nat} (hl : low < pw m) : ∀ k, k ≤ n → Sm m n (reachIn g t low k)
  | 0, _ => h
  | k + 1, hk => by
    have ih := reachIn_sm h (t := t) hl k (by omega)
    cases hb : (reachIn g t low k k).testBit t
    · rw [reachIn_no hb]; exact ih
    · rw [reachIn_yes hb]; exact ih.upd_or (ih k (by omega)) hl
theorem reachOut_sm {m n : Nat} {g : Nat → Nat} (h : Sm m n g) : ∀ t, t ≤ n → Sm m n (reachOut g n t)
  | 0, _ => h
  | t + 1, ht => by
    have ih := reachOut_sm h t (by omega)
    exact reachIn_sm ih (ih t (by omega)) n (Nat.le_refl _)

end Go.Proofs.YtklfnghgpmjnmaaDoor
