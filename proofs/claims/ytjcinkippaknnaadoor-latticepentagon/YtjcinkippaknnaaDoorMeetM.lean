/-
  Plain facts on meets in an order, and on slices of slices of a call's own. Conditions: an order of at most ten points.
-/
import Derived.Test.YtjcinkippaknnaaDoorHigh
namespace Go.Proofs.YtjcinkippaknnaaDoor
open Go.RowKit

theorem sm_big {n : Nat} {g : Nat → Nat} (hn : n ≤ 10) (hg : Sm n n g) {k : Nat} (hk : k < n) : g k < 18446744073709551616 := by
  have := hg k hk; have := pw_le n hn; omega
theorem ord_tr {n : Nat} {g : Nat → Nat} (hn : n ≤ 10) (hg : Sm n n g) (h : Ord n g) {a b c : Nat} (hb : b < n) (hc : c < n) (h1 : (g b).testBit a = true) (h2 : (g c).testBit b = true) : (g c).testBit a = true :=
  (lack_zero _ _ (sm_big hn hg hb) (sm_big hn hg hc)).1 ((h c hc).2 b hb h2) a h1
theorem up_at (g : Nat → Nat) (p k : Nat) : (up g p).testBit k = ((g p).testBit k || decide (p = k)) := by
  unfold up; rw [Nat.testBit_or, pw_bit]
theorem up_pw {n : Nat} {g : Nat → Nat} (hg : Sm n n g) {x : Nat} (hx : x < n) : up g x < pw n :=
  Nat.or_lt_two_pow (hg x hx) (Nat.pow_lt_pow_right (by decide) hx)
/-- Is p a point of both, that all such are below, or it? -/
def Mt (g : Nat → Nat) (x y p : Nat) : Prop := Hi g (up g x &&& up g y) p
theorem Mt.lt {n : Nat} {g : Nat → Nat} (hg : Sm n n g) {x y p : Nat} (hx : x < n) (h : Mt g x y p) : p < n := by
  have := h.1
  rw [Nat.testBit_and, Bool.and_eq_true] at this
  exact bit_of_lt (up_pw hg hx) this.1
theorem hi_one {n : Nat} {g : Nat → Nat} (hn : n ≤ 10) (hg : Sm n n g) (ho : Ord n g) {s p q : Nat} (hp : p < n) (hq : q < n) (h1 : Hi g s p) (h2 : Hi g s q) : p = q := by
  apply Classical.byContradiction
  intro hne
  have k1 := h1.2 q h2.1
  have k2 := h2.2 p h1.1
  rw [up_at] at k1 k2
  have e1 : decide (p = q) = false := by simpa using hne
  have e2 : decide (q = p) = false := by simpa using (Ne.symm hne)
  rw [e1, Bool.or_false] at k1
  rw [e2, Bool.or_false] at k2
  have := ord_tr hn hg ho hq hp k2 k1
  rw [(ho p hp).1] at this; cases this
/-- The last number below n of which it is so. -/
def fnd (P : Nat → Bool) : Nat → Nat
  | 0 => 0
  | k + 1 => if P k = true then k else fnd P k
theorem fnd_is (P : Nat → Bool) : ∀ n, (∃ p, p < n ∧ P p = true) → P (fnd P n) = true
  | 0, ⟨p, hp, _⟩ => absurd hp (Nat.not_lt_zero _)
  | k + 1, ⟨p, hp, h⟩ => by
    unfold fnd
    by_cases e : P k = true
    · rw [if_pos e]; exact e
    · rw [if_neg e]
      refine fnd_is P k ⟨p, ?_, h⟩
      by_cases q : p = k
      · subst q; exact absurd h e
      · omega
def hiB (g : Nat → Nat) (s p : Nat) : Bool := s.testBit p && ((s &&& up g p) == s)
theorem hiB_iff {g : Nat → Nat} {s p : Nat} : hiB g s p = true ↔ Hi g s p := by
  unfold hiB Hi
  rw [Bool.and_eq_true, beq_iff_eq]
  constructor
  · rintro ⟨h1, h2⟩
    refine ⟨h1, fun k hk => ?_⟩
    have : (s &&& up g p).testBit k = true := by rw [h2]; exact hk
    rw [Nat.testBit_and, Bool.and_eq_true] at this
    exact this.2
  · rintro ⟨h1, h2⟩
    refine ⟨h1, Nat.eq_of_testBit_eq fun k => ?_⟩
    rw [Nat.testBit_and]
    cases hk : s.testBit k
    · rfl
    · rw [h2 k hk]; rfl
/-- The meet of two points, where there is one. -/
def mF (g : Nat → Nat) (x y : Nat) : Nat := fnd (hiB g (up g x &&& up g y)) ((up g x &&& up g y) + 1)
theorem mF_is {g : Nat → Nat} {x y : Nat} (h : ∃ p, Mt g x y p) : Mt g x y (mF g x y) := by
  obtain ⟨p, hp⟩ := h
  refine hiB_iff.1 (fnd_is _ _ ⟨p, ?_, hiB_iff.2 hp⟩)
  have h1 : 2 ^ p ≤ (up g x &&& up g y) := Nat.ge_two_pow_of_testBit hp.1
  have h2 : p < 2 ^ p := Nat.lt_two_pow_self
  omega
theorem mF_eq {n : Nat} {g : Nat → Nat} (hn : n ≤ 10) (hg : Sm n n g) (ho : Ord n g) {x y p : Nat} (hx : x < n) (h : Mt g x y p) : mF g x y = p :=
  hi_one hn hg ho (Mt.lt hg hx (mF_is ⟨p, h⟩)) (Mt.lt hg hx h) (mF_is ⟨p, h⟩) h

/-- A slice of slices of the call's own. -/
def OwnS (w : World) (b n : Nat) (f : Nat → Value) : Prop := ∀ k, k < n → w.cell? ⟨b, k, none⟩ = some (f k) ∧ w.frozen? ⟨b, k, none⟩ = false
theorem OwnS.set {w : World} {b n : Nat} {f : Nat → Value} (h : OwnS w b n f) (u : Nat) (v : Value) : OwnS (w.setCell ⟨b, u, none⟩ v) b n (fun k => if k = u then v else f k) := by
  intro k hk
  refine ⟨?_, by rw [World.frozen?_setCell]; exact (h k hk).2⟩
  show _ = some (if k = u then v else f k)
  by_cases e : k = u
  · subst e; rw [if_pos rfl]; exact World.cell?_setCell_same _ _ _ (h k hk).1
  · rw [if_neg e, World.cell?_setCell_other _ _ _ _ (fun e2 => e (by injection e2 with _ h2; exact h2.symm))]; exact (h k hk).1
theorem OwnS.keep {w w' : World} {b n B : Nat} {f : Nat → Value} (h : OwnS w b n f) (hB : Below B w w') (hb : b < B) : OwnS w' b n f :=
  fun k hk => ⟨(hB.cell (p := ⟨b, k, none⟩) hb).trans (h k hk).1, (hB.frozen (p := ⟨b, k, none⟩) hb).trans (h k hk).2⟩
theorem OwnS.congr {w : World} {b n : Nat} {f h : Nat → Value} (ho : OwnS w b n f) (e : ∀ k, k < n → f k = h k) : OwnS w b n h :=
  fun k hk => ⟨by rw [← e k hk]; exact (ho k hk).1, (ho k hk).2⟩
theorem owns_made {w : World} {base b m : Nat} (h : w.ownsRow base 29 1 (.slice (some ⟨b, 0, none⟩) m m) m (madeCells (Value.slice none 0 0).cells (m * 1)).toList) : OwnS w b m (fun _ => .slice none 0 0) := by
  intro k hk
  refine ⟨?_, h.frozenAt k⟩
  rw [h.cellAt k (by omega)]
  have e : (Value.slice none 0 0).cells = #[Value.slice none 0 0] := rfl
  rw [e, toList_madeCells_one]
  simp [hk]
/-- The rows ahead of x are laid, the x-th is v. -/
def rowF (n x : Nat) (R : Nat → Nat × Nat) (v : Value) (k : Nat) : Value := if k < x then .slice (some ⟨(R k).1, 0, none⟩) n (R k).2 else if k = x then v else .slice none 0 0
def Done (T H n x : Nat) (R : Nat → Nat × Nat) (m : Nat → Nat → Nat) (w : World) : Prop := ∀ k, k < x → (T < (R k).1 ∧ (R k).1 < H) ∧ ∀ j, j < n → w.cell? ⟨(R k).1, j, none⟩ = some (.int .i64 (m k j : Nat))
theorem Done.keep {T H n x B : Nat} {R : Nat → Nat × Nat} {m : Nat → Nat → Nat} {w w' : World} (h : Done T H n x R m w) (hb : Below B w w') (hB : H ≤ B) : Done T H n x R m w' := fun k hk =>
  ⟨(h k hk).1, fun j hj => (hb.cell (p := ⟨(R k).1, j, none⟩) (Nat.lt_of_lt_of_le (h k hk).1.2 hB)).trans ((h k hk).2 j hj)⟩
theorem Done.set {T H n x : Nat} {R : Nat → Nat × Nat} {m : Nat → Nat → Nat} {w : World} (h : Done T H n x R m w) (u : Nat) (v : Value) : Done T H n x R m (w.setCell ⟨T, u, none⟩ v) := fun k hk =>
  ⟨(h k hk).1, fun j hj => by
    rw [World.cell?_setCell_other _ _ _ _ (fun e2 => by injection e2 with h1 _; have := (h k hk).1.1; omega)]
    exact (h k hk).2 j hj⟩
theorem Tryd.infoLI : (Tryd.prog.info? 29).map (fun i => (i.zero, i.size, i.bytes)) = some (some (.slice none 0 0), 1, 12 + 12) := by kernel_rfl
end Go.Proofs.YtjcinkippaknnaaDoor
