/-
  What lattice.Modular and lattice.Distributive answer, whatever they are handed. No condition but that slices read as slices of rows.
  What quotient.together keeps: the classes so far, the pairs that are left, and how far it has still to go. Conditions: as each theorem says.
-/
import Derived.Test.YtappekjkcgmheabLChk
import Derived.WalkSmall
import Derived.Test.YtappekjkcgmheabClnP
namespace Go.Proofs.Ytappekjkcgmheab
open Go.RowKit

/-- What such a call must answer. -/
def LawPost (P : (Nat → Nat → Nat) → (Nat → Nat → Nat) → Nat → Nat → Nat → Bool) (n : Int) (la : Nat) (SA : Nat → Option Addr × Nat × Nat) (FA : Nat → Nat → Int) (lb : Nat) (SB : Nat → Option Addr × Nat × Nat) (FB : Nat → Nat → Int) (e : Ending) : Prop :=
  ∃ (c : Int) (v : Bool), LCk n la SA FA lb SB FB c ∧ e = .returned (.tuple #[.bool v, .int .i64 c]) ∧ ((c ≠ 0 ∧ v = false) ∨ (c = 0 ∧ (v = true ↔ All3 n.toNat (P (nat2 FA) (nat2 FB)))))

/-- A lattice in a variable. -/
def LB (w : World) (B : Nat) (n : Int) (a : Option Addr) (la ca : Nat) (b : Option Addr) (lb cb : Nat) : Prop :=
  w.cell? ⟨B, 0, none⟩ = some (.int .i64 n) ∧ w.cell? ⟨B, 1, none⟩ = some (.slice a la ca) ∧ w.cell? ⟨B, 2, none⟩ = some (.slice b lb cb)
theorem LB.step {w w' : World} {B : Nat} {n : Int} {a : Option Addr} {la ca : Nat} {b : Option Addr} {lb cb : Nat} (h : LB w B n a la ca b lb cb) (hb : Below w.heap.size w w') : LB w' B n a la ca b lb cb :=
  ⟨cell_step hb h.1, cell_step hb h.2.1, cell_step hb h.2.2⟩
theorem LB.new (w : World) (n : Int) (a : Option Addr) (la ca : Nat) (b : Option Addr) (lb cb : Nat) : LB (w.alloc (.cells #[.int .i64 n, .slice a la ca, .slice b lb cb] 24)) w.heap.size n a la ca b lb cb :=
  ⟨by simp, by simp, by simp⟩

end Go.Proofs.Ytappekjkcgmheab
namespace Go.Proofs.Ytappekjkcgmheab
open Go.RowKit

theorem owns_popP {w : World} {base g cap : Nat} {L : List (Nat × Nat)} {p : Nat × Nat} (h : w.ownsRow base 49 2 (.slice (some ⟨g, 0, none⟩) (L.length + 1) cap) (L.length + 1) (pairVals (L ++ [p]))) :
    w.ownsRow base 49 2 (.slice (some ⟨g, 0, none⟩) L.length cap) L.length (pairVals L) := by
  rw [pairVals_append] at h
  exact ownsRow_pop (pairVals_len L) h
theorem cntB_congr {P Q : Nat → Bool} : ∀ k, (∀ i, i < k → P i = Q i) → cntB P k = cntB Q k := fun k h =>
  Nat.le_antisymm (cntB_mono k fun i hi e => by rw [← h i hi]; exact e) (cntB_mono k fun i hi e => by rw [h i hi]; exact e)
theorem frst_congr {c d : Nat → Nat} {k : Nat} (h : ∀ i, i ≤ k → c i = d i) : frst c k = frst d k := by
  rw [Bool.eq_iff_iff, frst_iff, frst_iff]
  constructor
  · intro h1 i hi
    rw [← h i (by omega), ← h k (Nat.le_refl _)]
    exact h1 i hi
  · intro h1 i hi
    rw [h i (by omega), h k (Nat.le_refl _)]
    exact h1 i hi
theorem clsN_congr {c d : Nat → Nat} {q : Nat} (h : ∀ i, i < q → c i = d i) : clsN c q = clsN d q :=
  cntB_congr q fun i hi => frst_congr fun j hj => h j (by omega)
/-- The classes as they lie in a block. -/
def cOf (w : World) (B x : Nat) : Nat := match w.cell? ⟨B, x, none⟩ with | some (.int _ v) => v.toNat | _ => 0
theorem cOf_own {w : World} {B q : Nat} {c : Nat → Nat} (h : Own w B q c) {x : Nat} (hx : x < q) : cOf w B x = c x := by
  unfold cOf
  rw [(h x hx).1]
  simp
def lenV : Value → Nat
  | .slice _ n _ => n
  | _ => 0
/-- How far there is still to go. -/
def mesT (B q : Nat) (v : Value) (w : World) : Nat := clsN (cOf w B) q * (2 * q + 1) + lenV v
theorem mesT_own {B q : Nat} {v : Value} {w : World} {c : Nat → Nat} (h : Own w B q c) : mesT B q v w = clsN c q * (2 * q + 1) + lenV v := by
  unfold mesT
  rw [clsN_congr (d := c) fun i hi => cOf_own h hi]
theorem owns_lenV {w : World} {base e size n : Nat} {v : Value} {xs : List Value} (h : w.ownsRow base e size v n xs) : lenV v = n := by
  rcases h.2 with ⟨rfl, rfl⟩ | ⟨g, cap, cur, rfl, _⟩
  · rfl
  · rfl
/-- What holds at each turn. -/
structure TgI (w0 : World) (B q : Nat) (m j : Nat → Nat → Nat) (P : List (Nat × Nat)) (c : Nat → Nat) (L : List (Nat × Nat)) (v : Value) (wx : World) : Prop where
  inv : TInv q m j P c L
  own : Own wx B q c
  low : ∀ x, x < q → c x < q
  row : wx.ownsRow (B + 1) 49 2 v L.length (pairVals L)
  bel : Below w0.heap.size w0 wx
  sml : clsN c q * (2 * q) + L.length ≤ 5000
theorem rel1_low {c : Nat → Nat} {q a b : Nat} (h : ∀ x, x < q → c x < q) (hb : b < q) : ∀ x, x < q → rel1 c a b x < q := fun x hx => by
  unfold rel1
  split
  · exact hb
  · exact h x hx
theorem less_sml {k k' q l : Nat} (h : k' < k) (hs : k * (2 * q) + (l + 1) ≤ 5000) : k' * (2 * q) + (l + 2 * q) ≤ 5000 := by
  have := Nat.mul_le_mul_right (2 * q) (show k' + 1 ≤ k from h)
  rw [Nat.succ_mul] at this
  omega
theorem less_mes {k k' q l : Nat} (h : k' < k) : k' * (2 * q + 1) + (l + 2 * q) < k * (2 * q + 1) + (l + 1) := by
  have := Nat.mul_le_mul_right (2 * q + 1) (show k' + 1 ≤ k from h)
  rw [Nat.succ_mul] at this
  omega
theorem start_sml {q l : Nat} (h40 : q ≤ 40) (hl : l ≤ 1000) : clsN (fun x => x) q * (2 * q) + l ≤ 5000 := by
  have h1 : clsN (fun x => x) q ≤ 40 := Nat.le_trans (cntB_le _ _) h40
  have := Nat.mul_le_mul h1 (show 2 * q ≤ 80 by omega)
  omega
theorem list_last {L : List (Nat × Nat)} (h : 0 < L.length) : ∃ L' x y, L = L' ++ [(x, y)] := by
  have hne : L ≠ [] := by intro e; subst e; simp at h
  exact ⟨L.dropLast, (L.getLast hne).1, (L.getLast hne).2, (List.dropLast_concat_getLast hne).symm⟩
theorem last_at (L : List (Nat × Nat)) (x y : Nat) : (pairVals (L ++ [(x, y)]))[L.length * 2]? = some (.int .i64 (x : Nat)) ∧ (pairVals (L ++ [(x, y)]))[L.length * 2 + 1]? = some (.int .i64 (y : Nat)) := by
  have := pairVals_at (L ++ [(x, y)]) L.length (by simp)
  simpa [pairAt] using this
theorem owns_parts {w : World} {base e size n : Nat} {v : Value} {xs : List Value} (h : w.ownsRow base e size v n xs) (hn : 0 < n) : ∃ g cap, v = .slice (some ⟨g, 0, none⟩) n cap ∧ n ≤ cap ∧ cap ≤ maxLen ∧ base ≤ g := by
  rcases h.2 with ⟨_, h0⟩ | ⟨g, cap, cur, rfl, h2, _, h4, h5, _⟩
  · omega
  · exact ⟨g, cap, rfl, h4, h5, h2⟩
theorem TgI.drew {w0 : World} {B q : Nat} {m j : Nat → Nat → Nat} {P : List (Nat × Nat)} {c : Nat → Nat} {L : List (Nat × Nat)} {v : Value} {wx : World} (h : TgI w0 B q m j P c L v wx) : TgI w0 B q m j P c L v wx.drew := ⟨h.inv, h.own, h.low, h.row.drew, h.bel.drew, h.sml⟩
theorem TgI.skipT {w0 : World} {B q : Nat} {m j : Nat → Nat → Nat} {P : List (Nat × Nat)} {c : Nat → Nat} {L : List (Nat × Nat)} {x y g cap n : Nat} {wx : World} (h : TgI w0 B q m j P c (L ++ [(x, y)]) (.slice (some ⟨g, 0, none⟩) n cap) wx) (hn : n = L.length + 1) (e : c x = c y) :
    TgI w0 B q m j P c L (.slice (some ⟨g, 0, none⟩) L.length cap) wx := by
  subst hn
  have hr := h.row
  have hs := h.sml
  rw [List.length_append, List.length_singleton] at hr hs
  exact ⟨h.inv.skip e, h.own, h.low, owns_popP hr, h.bel, by omega⟩
theorem TgI.pop {w0 : World} {B q : Nat} {m j : Nat → Nat → Nat} {P : List (Nat × Nat)} {c : Nat → Nat} {L : List (Nat × Nat)} {x y g cap n : Nat} {wx : World} (h : TgI w0 B q m j P c (L ++ [(x, y)]) (.slice (some ⟨g, 0, none⟩) n cap) wx) (hn : n = L.length + 1) :
    wx.ownsRow (B + 1) 49 2 (.slice (some ⟨g, 0, none⟩) L.length cap) L.length (pairVals L) := by
  subst hn
  have hr := h.row
  rw [List.length_append, List.length_singleton] at hr
  exact owns_popP hr
theorem owns_none {w : World} {base e size : Nat} {v : Value} {xs : List Value} (h : w.ownsRow base e size v 0 xs) : ∃ a cap, v = .slice a 0 cap := by
  rcases h.2 with ⟨rfl, _⟩ | ⟨g, cap, cur, rfl, _⟩
  · exact ⟨_, _, rfl⟩
  · exact ⟨_, _, rfl⟩
theorem owns_far {w w' : World} {base e size n : Nat} {v : Value} {xs : List Value} {row : Option Nat} (h : w.ownsRow base e size v n xs) (hg : w.grownBy w' row) (hlt : ∀ k, row = some k → k < base) : w'.ownsRow base e size v n xs := by
  refine ⟨h.1, ?_⟩
  rcases h.2 with h0 | ⟨g, cap, cur, h1, h2, h3, h4⟩
  · exact .inl h0
  · exact .inr ⟨g, cap, cur, h1, h2, (hg.block g (Array.getElem?_eq_some_iff.1 h3).1 (fun e => by have := hlt g e.symm; omega)).trans h3, h4⟩
theorem LB.far {w w' : World} {B : Nat} {n : Int} {a : Option Addr} {la ca : Nat} {b : Option Addr} {lb cb : Nat} {row : Option Nat} (h : LB w B n a la ca b lb cb) (hg : w.grownBy w' row) (hne : some B ≠ row) : LB w' B n a la ca b lb cb :=
  ⟨(hg.cell_far ⟨B, 0, none⟩ (World.block_lt_of_cell? _ _ h.1) hne).trans h.1, (hg.cell_far ⟨B, 1, none⟩ (World.block_lt_of_cell? _ _ h.2.1) hne).trans h.2.1, (hg.cell_far ⟨B, 2, none⟩ (World.block_lt_of_cell? _ _ h.2.2) hne).trans h.2.2⟩
theorem LB.keep {N : Nat} {w w' : World} {B : Nat} {n : Int} {a : Option Addr} {la ca : Nat} {b : Option Addr} {lb cb : Nat} (h : LB w B n a la ca b lb cb) (hb : Below N w w') (hB : B < N) : LB w' B n a la ca b lb cb :=
  ⟨(hb.cell (p := ⟨B, 0, none⟩) hB).trans h.1, (hb.cell (p := ⟨B, 1, none⟩) hB).trans h.2.1, (hb.cell (p := ⟨B, 2, none⟩) hB).trans h.2.2⟩
/-- Two pairs in a new block. -/
theorem prow_two {w : World} {t : TypeId} {x y z u : Nat} : PRow (w.alloc (.cells #[.int .i64 (x : Nat), .int .i64 (y : Nat), .int .i64 (z : Nat), .int .i64 (u : Nat)] t)) (some ⟨w.heap.size, 0, none⟩) [(x, y), (z, u)].length (pairAt [(x, y), (z, u)]) := fun k hk => by
  refine ⟨w.heap.size, 0, rfl, ?_, ?_⟩
  all_goals
    rcases (show k = 0 ∨ k = 1 by simp at hk; omega) with rfl | rfl <;> simp [pairAt]
end Go.Proofs.Ytappekjkcgmheab
