/-
  What order.Make answers, whatever it is handed: the sets that Warshall's rounds come to. No condition but that a slice reads as a slice of pairs.
  Sets by a test on their points; what order.turn and order.bare answer. Conditions: at most ten sets of so many points.
-/
import Derived.Test.YtklfnghgpmjnmaaDoorReach
namespace Go.Proofs.YtklfnghgpmjnmaaDoor
open Go.RowKit

theorem Tryd.info3 : (Tryd.prog.info? 3).map (fun i => (i.zero, i.size, i.bytes)) = some (some (.int .i64 0), 1, 8) := by kernel_rfl

/-- A slice of len pairs. -/
def PRow (w : World) (a : Option Addr) (len : Nat) (p : Nat → Int × Int) : Prop :=
  ∀ k, k < len → ∃ b off, a = some ⟨b, off, none⟩ ∧ w.cell? ⟨b, off + k * 2, none⟩ = some (.int .i64 (p k).1) ∧ w.cell? ⟨b, off + k * 2 + 1, none⟩ = some (.int .i64 (p k).2)
theorem PRow.below {w w' : World} {a : Option Addr} {len : Nat} {p : Nat → Int × Int} (h : PRow w a len p) (hb : Below w.heap.size w w') : PRow w' a len p := by
  intro k hk
  obtain ⟨b, off, rfl, hc, hd⟩ := h k hk
  exact ⟨b, off, rfl, (hb.cell (World.block_lt_of_cell? _ _ hc)).trans hc, (hb.cell (World.block_lt_of_cell? _ _ hd)).trans hd⟩

theorem own_made {w : World} {base b m : Nat} (h : w.ownsRow base 3 1 (.slice (some ⟨b, 0, none⟩) m m) m (madeCells (Value.int .i64 0).cells (m * 1)).toList) : Own w b m (fun _ => 0) := by
  intro k hk
  refine ⟨?_, h.frozenAt k⟩
  rw [h.cellAt k (by omega)]
  have e : (Value.int .i64 0).cells = #[Value.int .i64 0] := rfl
  rw [e, toList_madeCells_one]
  simp [hk]

theorem or_pw {x m b : Nat} (hm : m ≤ 10) (hx : x < pw m) (hb : b < m) : bits .or .i64 (x : Int) ((pw b : Nat) : Int) = ((x ||| pw b : Nat) : Int) := by
  have h1 := pw_le m hm
  have h2 := pw_le b (by omega)
  generalize pw m = P at *
  generalize pw b = Q at *
  exact i64_or x Q (by omega) (by omega)
def mk (p : Nat → Int × Int) : Nat → Nat → Nat
  | 0 => fun _ => 0
  | k + 1 => upd (mk p k) (p k).2.toNat (mk p k (p k).2.toNat ||| pw (p k).1.toNat)
def PIn (n : Int) (p : Nat → Int × Int) (k : Nat) : Prop := (0 ≤ (p k).1 ∧ (p k).1 < n) ∧ (0 ≤ (p k).2 ∧ (p k).2 < n)
theorem mk_sm {n : Nat} {p : Nat → Int × Int} : ∀ k, (∀ j, j < k → PIn n p j) → Sm n n (mk p k)
  | 0, _ => fun _ _ => pw_pos n
  | k + 1, h => by
    have ih := mk_sm (n := n) k (fun j hj => h j (by omega))
    obtain ⟨⟨h1, h2⟩, h3, h4⟩ := h k (by omega)
    refine ih.upd_or (ih _ (by omega)) ?_
    exact Nat.pow_lt_pow_right (by decide) (by omega)
/-- What Make must answer. -/
def Mk (n : Int) (len : Nat) (p : Nat → Int × Int) (c : Int) : Prop :=
  (c = 2 ∧ ¬ (0 ≤ n ∧ n ≤ 10)) ∨
  ∃ m : Nat, n = m ∧ m ≤ 10 ∧ ((c = 3 ∧ ¬ ∀ k, k < len → PIn m p k) ∨
    ((∀ k, k < len → PIn m p k) ∧ ((c = 4 ∧ ¬ Ord m (reachOut (mk p len) m m)) ∨ (c = 0 ∧ Ord m (reachOut (mk p len) m m)))))
def noOrder : Value := .agg #[.int .i64 0, .slice none 0 0]
def Made (n : Int) (len : Nat) (p : Nat → Int × Int) (w : World) (e : Ending) (w' : World) : Prop :=
  (∃ c, c ≠ 0 ∧ Mk n len p c ∧ e = .returned (.tuple #[noOrder, .int .i64 c])) ∨
  ∃ (m b : Nat), Mk n len p 0 ∧ n = m ∧ m ≤ 10 ∧ w.heap.size ≤ b ∧ e = .returned (.tuple #[.agg #[.int .i64 n, .slice (some ⟨b, 0, none⟩) m m], .int .i64 0]) ∧ Own w' b m (reachOut (mk p len) m m)

theorem resbox {w X : World} (h : Below (w.heap.size + 1) (w.alloc (.cells #[.int .i64 0, .slice none 0 0] 24)) X) :
    X.cell? ⟨w.heap.size, 0, none⟩ = some (.int .i64 0) ∧ X.cell? ⟨w.heap.size, 1, none⟩ = some (.slice none 0 0) ∧ X.frozen? ⟨w.heap.size, 0, none⟩ = false ∧ X.frozen? ⟨w.heap.size, 1, none⟩ = false :=
  ⟨(h.cell (p := ⟨w.heap.size, 0, none⟩) (Nat.lt_succ_self _)).trans (by simp), (h.cell (p := ⟨w.heap.size, 1, none⟩) (Nat.lt_succ_self _)).trans (by simp),
   (h.frozen (p := ⟨w.heap.size, 0, none⟩) (Nat.lt_succ_self _)).trans (by simp [World.frozen?_alloc_at]), (h.frozen (p := ⟨w.heap.size, 1, none⟩) (Nat.lt_succ_self _)).trans (by simp [World.frozen?_alloc_at])⟩
theorem out_below {w X : World} {o : Obj} (h : Below (w.heap.size + 1) (w.alloc o) X) : Below w.heap.size w X :=
  ((Below.refl _ _).alloc (Nat.le_refl _) o).trans (h.mono (Nat.le_succ _))

theorem set2 {w X : World} {u v : Value} (h : Below w.heap.size w X) : Below w.heap.size w ((X.setCell ⟨w.heap.size, 0, none⟩ u).setCell ⟨w.heap.size, 1, none⟩ v) :=
  (h.setCell (p := ⟨w.heap.size, 0, none⟩) (Nat.le_refl _) _).setCell (p := ⟨w.heap.size, 1, none⟩) (Nat.le_refl _) _
theorem Own.set2 {w X : World} {m : Nat} {g : Nat → Nat} {u v : Value} (h : Own X (w.heap.size + 1) m g) : Own ((X.setCell ⟨w.heap.size, 0, none⟩ u).setCell ⟨w.heap.size, 1, none⟩ v) (w.heap.size + 1) m g := by
  intro k hk
  refine ⟨?_, by rw [World.frozen?_setCell, World.frozen?_setCell]; exact (h k hk).2⟩
  rw [World.cell?_setCell_other _ _ _ _ (fun e => by injection e with e1; omega), World.cell?_setCell_other _ _ _ _ (fun e => by injection e with e1; omega)]
  exact (h k hk).1

end Go.Proofs.YtklfnghgpmjnmaaDoor
namespace Go.Proofs.YtklfnghgpmjnmaaDoor
open Go.RowKit

/-- The set of those of the first k points that P lets by. -/
def setBy (P : Nat → Bool) : Nat → Nat
  | 0 => 0
  | k + 1 => if P k = true then setBy P k + pw k else setBy P k
theorem setBy_yes {P : Nat → Bool} {k : Nat} (h : P k = true) : setBy P (k + 1) = setBy P k + pw k := by simp [setBy, h]
theorem setBy_no {P : Nat → Bool} {k : Nat} (h : P k = false) : setBy P (k + 1) = setBy P k := by simp [setBy, h]
theorem setBy_lt (P : Nat → Bool) : ∀ k, setBy P k < pw k
  | 0 => by simp [setBy, pw]
  | k + 1 => by
    have := setBy_lt P k
    rw [pw_succ]
    cases h : P k
    · rw [setBy_no h]; omega
    · rw [setBy_yes h]; omega
theorem setBy_congr {P Q : Nat → Bool} : ∀ k, (∀ i, i < k → P i = Q i) → setBy P k = setBy Q k
  | 0, _ => rfl
  | k + 1, h => by
    have ih := setBy_congr k (fun i hi => h i (by omega))
    have hk := h k (by omega)
    simp only [setBy, hk, ih]
theorem or_pw_add {x k : Nat} (h : x < pw k) : x ||| pw k = x + pw k := by
  have e := Nat.two_pow_add_eq_or_of_lt (show x < 2 ^ k from h) 1
  rw [Nat.mul_one] at e
  show x ||| 2 ^ k = x + 2 ^ k
  rw [Nat.or_comm, ← e]; omega
theorem pw_bit (k i : Nat) : (pw k).testBit i = decide (k = i) := Nat.testBit_two_pow
theorem setBy_bit (P : Nat → Bool) : ∀ k i, (setBy P k).testBit i = (decide (i < k) && P i)
  | 0, i => by simp [setBy]
  | k + 1, i => by
    have ih := setBy_bit P k i
    cases h : P k
    · rw [setBy_no h, ih]
      by_cases e : i = k
      · subst e; simp [h]
      · have : decide (i < k + 1) = decide (i < k) := by simp; omega
        rw [this]
    · rw [setBy_yes h, ← or_pw_add (setBy_lt P k), Nat.testBit_or, ih, pw_bit]
      by_cases e : i = k
      · subst e; simp [h]
      · have : decide (i < k + 1) = decide (i < k) := by simp; omega
        rw [this]
        have : decide (k = i) = false := by simp; omega
        simp [this]
theorem eq_of_bits {x y n : Nat} (hx : x < pw n) (hy : y < pw n) (h : ∀ i, i < n → x.testBit i = y.testBit i) : x = y := by
  apply Nat.eq_of_testBit_eq
  intro i
  by_cases hi : i < n
  · exact h i hi
  · have h1 : x.testBit i = false := by
      cases e : x.testBit i
      · rfl
      · exact absurd (bit_of_lt hx e) hi
    have h2 : y.testBit i = false := by
      cases e : y.testBit i
      · rfl
      · exact absurd (bit_of_lt hy e) hi
    rw [h1, h2]

/-- Those of the first u points above l. -/
def trn (g : Nat → Nat) (u l : Nat) : Nat := setBy (fun x => (g x).testBit l) u
def mix (g : Nat → Nat) (u k l : Nat) : Nat := if l < k then trn g (u + 1) l else trn g u l
theorem mix_zero (g : Nat → Nat) (u : Nat) : mix g u 0 = trn g u := by funext l; simp [mix]
theorem mix_same (g : Nat → Nat) (u k : Nat) : mix g u k k = trn g u k := by simp [mix]
theorem mix_yes {g : Nat → Nat} {u k : Nat} (h : (g u).testBit k = true) : mix g u (k + 1) = upd (mix g u k) k (trn g u k ||| pw u) := by
  funext l
  by_cases e : l = k
  · subst e
    rw [upd_same, or_pw_add (show trn g u l < pw u from setBy_lt _ u)]
    simp only [mix, Nat.lt_succ_self, if_true]
    exact setBy_yes h
  · rw [upd_other _ _ _ _ e]
    have : (l < k + 1) = (l < k) := by simp; omega
    simp only [mix, this]
theorem mix_no {g : Nat → Nat} {u k : Nat} (h : (g u).testBit k = false) : mix g u (k + 1) = mix g u k := by
  funext l
  by_cases e : l = k
  · subst e
    simp only [mix, Nat.lt_succ_self, if_true, Nat.lt_irrefl, if_false]
    exact setBy_no h
  · have : (l < k + 1) = (l < k) := by simp; omega
    simp only [mix, this]
theorem Own.congr {w : World} {b n : Nat} {g h : Nat → Nat} (ho : Own w b n g) (e : ∀ k, k < n → g k = h k) : Own w b n h :=
  fun k hk => by rw [← e k hk]; exact ho k hk
theorem trn_small (g : Nat → Nat) (u l m : Nat) (h : u ≤ m) : trn g u l < pw m := Nat.lt_of_lt_of_le (setBy_lt _ u) (Nat.pow_le_pow_right (by decide) h)

end Go.Proofs.YtklfnghgpmjnmaaDoor
