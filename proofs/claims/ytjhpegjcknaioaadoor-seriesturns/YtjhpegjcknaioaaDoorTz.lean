/-
  What the reference's SameOrder and hasselaw.given answer. Conditions: slices read as slices of numbers.
  What order.Dual answers. No condition but that a slice reads as a slice of numbers.
  Lists of numbers as slices. No condition.
  What sets.Size and the reference's Size answer: how many points a set has. Conditions: a set of at most ten points.
  What sets.First answers: the least point of a set that has one. Conditions: a set below 1024; the library's table lies in its variable.
-/
import Derived.Test.YtjhpegjcknaioaaDoorGood
import Derived.Test.YtjhpegjcknaioaaDoorBuild
import Derived.Shelf.Spec.TrailingZeros
namespace Go.Proofs.YtjhpegjcknaioaaDoor
open Go.RowKit

def SameOrders (n n' : Int) (la lb : Nat) (f g : Nat → Int) : Prop := n = n' ∧ SameRows la lb f g
/-- What a call answers that hands back an order and an errno. -/
def OrdErr (c : Int) (n : Int) (len : Nat) (F : Nat → Int) (x : Value) (w : World) : Prop :=
  (c ≠ 0 ∧ x = noOrder) ∨ (c = 0 ∧ ∃ a cap, x = .agg #[.int .i64 n, .slice a len cap] ∧ Row w a len F)
theorem OrdErr.step {c n : Int} {len : Nat} {F : Nat → Int} {x : Value} {w w' : World} (h : OrdErr c n len F x w) (hb : Below w.heap.size w w') : OrdErr c n len F x w' := by
  rcases h with h | ⟨h0, a, cap, hx, hr⟩
  · exact .inl h
  · exact .inr ⟨h0, a, cap, hx, hr.below hb⟩

end Go.Proofs.YtjhpegjcknaioaaDoor
namespace Go.Proofs.YtjhpegjcknaioaaDoor
open Go.RowKit

theorem k3_step {w0 w1 w2 : World} {n : Int} {a : Option Addr} {len cap : Nat}
    (h : w1.cell? ⟨w0.heap.size, 0, none⟩ = some (.int .i64 n) ∧ w1.cell? ⟨w0.heap.size, 1, none⟩ = some (.slice a len cap) ∧ Below w0.heap.size w0 w1)
    (hb : Below w1.heap.size w1 w2) :
    w2.cell? ⟨w0.heap.size, 0, none⟩ = some (.int .i64 n) ∧ w2.cell? ⟨w0.heap.size, 1, none⟩ = some (.slice a len cap) ∧ Below w0.heap.size w0 w2 :=
  ⟨(hb.cell (World.block_lt_of_cell? _ _ h.1)).trans h.1, (hb.cell (World.block_lt_of_cell? _ _ h.2.1)).trans h.2.1, Below.then h.2.2 hb⟩
theorem k3_below {w0 w1 : World} {n : Int} {a : Option Addr} {len cap : Nat}
    (h : w1.cell? ⟨w0.heap.size, 0, none⟩ = some (.int .i64 n) ∧ w1.cell? ⟨w0.heap.size, 1, none⟩ = some (.slice a len cap) ∧ Below w0.heap.size w0 w1) : Below w0.heap.size w0 w1 := h.2.2
theorem k3_set2 {w0 w1 : World} {n : Int} {a : Option Addr} {len cap : Nat} {u v : Value}
    (h : w1.cell? ⟨w0.heap.size, 0, none⟩ = some (.int .i64 n) ∧ w1.cell? ⟨w0.heap.size, 1, none⟩ = some (.slice a len cap) ∧ Below w0.heap.size w0 w1) :
    ((w1.setCell ⟨w0.heap.size + 1, 0, none⟩ u).setCell ⟨w0.heap.size + 1, 1, none⟩ v).cell? ⟨w0.heap.size, 0, none⟩ = some (.int .i64 n) ∧ ((w1.setCell ⟨w0.heap.size + 1, 0, none⟩ u).setCell ⟨w0.heap.size + 1, 1, none⟩ v).cell? ⟨w0.heap.size, 1, none⟩ = some (.slice a len cap) ∧ Below w0.heap.size w0 ((w1.setCell ⟨w0.heap.size + 1, 0, none⟩ u).setCell ⟨w0.heap.size + 1, 1, none⟩ v) := by
  refine ⟨?_, ?_, set2B h.2.2 (by omega)⟩
  · rw [World.cell?_setCell_other _ _ _ _ (fun e => by injection e with e1; omega), World.cell?_setCell_other _ _ _ _ (fun e => by injection e with e1; omega)]; exact h.1
  · rw [World.cell?_setCell_other _ _ _ _ (fun e => by injection e with e1; omega), World.cell?_setCell_other _ _ _ _ (fun e => by injection e with e1; omega)]; exact h.2.1
def DualPost (n : Int) (len : Nat) (f : Nat → Int) (e : Ending) (w' : World) : Prop :=
  ∃ (c : Int) (x : Value), Chk n len f c ∧ e = .returned (.tuple #[x, .int .i64 c]) ∧ OrdErr c (len : Int) len (fun k => (trn (nat f) len k : Nat)) x w'

/-- A box at block B holds an order. -/
def Box (X : World) (B : Nat) (n : Int) (a : Option Addr) (len cap : Nat) : Prop := X.cell? ⟨B, 0, none⟩ = some (.int .i64 n) ∧ X.cell? ⟨B, 1, none⟩ = some (.slice a len cap)
theorem Box.step {X X' : World} {B : Nat} {n : Int} {a : Option Addr} {len cap : Nat} (h : Box X B n a len cap) (hb : Below X.heap.size X X') : Box X' B n a len cap :=
  ⟨(hb.cell (World.block_lt_of_cell? _ _ h.1)).trans h.1, (hb.cell (World.block_lt_of_cell? _ _ h.2)).trans h.2⟩
theorem Box.new (w : World) (n : Int) (a : Option Addr) (len cap : Nat) : Box (w.alloc (.cells #[.int .i64 n, .slice a len cap] 24)) w.heap.size n a len cap := ⟨by simp, by simp⟩
theorem Box.lt {X : World} {B : Nat} {n : Int} {a : Option Addr} {len cap : Nat} (h : Box X B n a len cap) : B < X.heap.size := World.block_lt_of_cell? _ _ h.1
theorem Box.set2 {X : World} {B : Nat} {n : Int} {a : Option Addr} {len cap : Nat} (h : ZBox X B) : Box ((X.setCell ⟨B, 0, none⟩ (.int .i64 n)).setCell ⟨B, 1, none⟩ (.slice a len cap)) B n a len cap :=
  ⟨by rw [World.cell?_setCell_other _ _ _ _ (fun e => by injection e with _ e2; cases e2)]; exact World.cell?_setCell_same _ _ _ h.1,
   World.cell?_setCell_same _ _ _ (by rw [World.cell?_setCell_other _ _ _ _ (fun e => by injection e with _ e2; cases e2)]; exact h.2.1)⟩
theorem Held.toBox {w : World} {b0 : Nat} {n : Int} {a : Option Addr} {len cap : Nat} {f : Nat → Int} (h : Held w b0 n a len cap f) : Box w b0 n a len cap := ⟨h.1, h.2.1⟩

end Go.Proofs.YtjhpegjcknaioaaDoor
namespace Go.Proofs.YtjhpegjcknaioaaDoor
open Go.RowKit

def natVals (l : List Nat) : List Value := l.map fun x => .int .i64 (x : Nat)
theorem natVals_append (l m : List Nat) : natVals (l ++ m) = natVals l ++ natVals m := by simp [natVals]
def nth (l : List Nat) (k : Nat) : Nat := l.getD k 0
theorem natVals_at (l : List Nat) (k : Nat) (h : k < l.length) : (natVals l)[k]? = some (.int .i64 (nth l k : Nat)) := by
  simp [natVals, nth, h]
/-- A value that is a slice of the numbers l. -/
def NSl (w : World) (v : Value) (l : List Nat) : Prop := ∃ a cap, v = .slice a l.length cap ∧ Row w a l.length (fun k => (nth l k : Nat))
theorem owns_nats {w : World} {base : Nat} {v : Value} {l : List Nat} (h : w.ownsRow base 3 1 v l.length (natVals l)) : NSl w v l := by
  by_cases hn : 0 < l.length
  · obtain ⟨g, cap, rfl⟩ := owns_form h hn
    refine ⟨_, cap, rfl, fun k hk => ⟨g, 0, rfl, ?_⟩⟩
    rw [Nat.zero_add, h.cellAt _ (by omega)]; exact natVals_at l k hk
  · have h0 : l.length = 0 := by omega
    rcases h.2 with ⟨rfl, _⟩ | ⟨g, cap, cur, rfl, _⟩
    · exact ⟨none, 0, by rw [h0], fun k hk => absurd (Nat.lt_of_le_of_lt (Nat.zero_le _) hk) hn⟩
    · exact ⟨_, cap, rfl, fun k hk => absurd (Nat.lt_of_le_of_lt (Nat.zero_le _) hk) hn⟩
theorem below_append3 {w wx w1 : World} {o2 : Obj} {e : TypeId} {size n : Nat} {v : Value} {xs : List Value} (h : Below w.heap.size w wx) (hown : wx.ownsRow w.heap.size e size v n xs) (hg : (wx.alloc o2).grownBy w1 v.ownBlock) : Below w.heap.size w w1 :=
  (h.alloc h.size o2).grown hg (by have := h.size; simp; omega) (owns_block hown)

end Go.Proofs.YtjhpegjcknaioaaDoor
namespace Go.Proofs.YtjhpegjcknaioaaDoor
open Go.RowKit

/-- How many of the first k points are in s. -/
def pcn (s : Nat) : Nat → Nat
  | 0 => 0
  | k + 1 => if s.testBit k = true then pcn s k + 1 else pcn s k
/-- How many points a set has. -/
def pc (s : Nat) : Nat := pcn s 10

theorem ones_any (s : Nat) (w : World) (hs : s < 1024) :
    Calls Tryd.prog 80 #[.int .u64 s] w fun e w' => e = .returned (.int .i64 (pc s : Nat)) ∧ w = w' := by
  go_enter Tryd.func80, Tryd.ntmps80
  go_wp2
  go_ret
  refine ⟨ret_int ?_, rfl⟩
  clear w
  revert s
  decide +kernel
theorem onesCount_any (s : Nat) (w : World) (hs : s < 1024) :
    Calls Tryd.prog 72 #[.int .u64 s] w fun e w' => e = .returned (.int .i64 (pc s : Nat)) ∧ w = w' := by
  go_enter Tryd.func72, Tryd.ntmps72
  go_wp2_with (go_at_call 80; refine (ones_any s _ hs).mono ?_; rintro e w' ⟨rfl, rfl⟩)
  go_ret
  exact ⟨rfl, rfl⟩
theorem size_any (s : Nat) (w : World) (hs : s < 1024) :
    Calls Tryd.prog 52 #[.int .i64 s] w fun e w' => e = .returned (.int .i64 (pc s : Nat)) ∧ w = w' := by
  go_enter Tryd.func52, Tryd.ntmps52
  go_wp2_with (go_at_call 72; refine (onesCount_any s _ hs).mono ?_; rintro e w' ⟨rfl, rfl⟩)
  go_ret
  exact ⟨rfl, rfl⟩

theorem pcn_le (s : Nat) : ∀ k, pcn s k ≤ k
  | 0 => Nat.le_refl _
  | k + 1 => by have := pcn_le s k; unfold pcn; split <;> omega
theorem pcn_stop {s k : Nat} (h : ∀ j, k ≤ j → s.testBit j = false) : ∀ d, pcn s (k + d) = pcn s k
  | 0 => rfl
  | d + 1 => by
    rw [← Nat.add_assoc, pcn, h (k + d) (by omega)]
    simpa using pcn_stop h d
theorem pcn_step (s k : Nat) : pcn s (k + 1) = pcn s k + hv s k % 2 := by
  rw [pcn, hv_bit]
  rcases Nat.mod_two_eq_zero_or_one (hv s k) with h | h <;> simp [h]
theorem hv_zero_bits {s k : Nat} (h : hv s k = 0) : ∀ j, k ≤ j → s.testBit j = false := by
  intro j hj
  have hlt : s < 2 ^ k := by
    unfold hv at h
    rcases Nat.div_eq_zero_iff.1 h with h1 | h1
    · have := Nat.two_pow_pos k; omega
    · exact h1
  exact Nat.testBit_lt_two_pow (Nat.lt_of_lt_of_le hlt (Nat.pow_le_pow_right (by decide) hj))
theorem hv_big {s : Nat} (hs : s < 1024) {k : Nat} (hk : 10 ≤ k) : hv s k = 0 := by
  unfold hv
  exact Nat.div_eq_zero_iff.2 (.inr (Nat.lt_of_lt_of_le hs (Nat.le_trans (by decide : 1024 ≤ 2 ^ 10) (Nat.pow_le_pow_right (by decide) hk))))
end Go.Proofs.YtjhpegjcknaioaaDoor
namespace Go.Proofs.YtjhpegjcknaioaaDoor
open Go.RowKit

/-- The table in its variable. -/
def Tab (w : World) : Prop := ∀ j, j < 64 → w.cell? ⟨1, j, none⟩ = some (.int .u8 (Lib.deBruijn64tab.getD j 0))
theorem Tab.step {w w' : World} (h : Tab w) (hb : Below w.heap.size w w') : Tab w' := fun j hj => (hb.cell (World.block_lt_of_cell? _ _ (h j hj))).trans (h j hj)
/-- The least point of a set. -/
def lo (s : Nat) : Nat := Lib.ctz 64 s
set_option maxHeartbeats 1000000 in
theorem tz64_core (x k idx : Nat) (w : World) (hx0 : ((x : Int) == 0) = false)
    (key : IntKind.u64.wrap (bits BinOp.and IntKind.u64 (x : Int) (IntKind.u64.wrap (-(x : Int))) * 285870213051353865) / 288230376151711744 = (idx : Int))
    (hi : idx < 64) (hk : k < 64) (hcell : w.cell? ⟨1, idx, none⟩ = some (.int .u8 k)) :
    Calls Tryd.prog 82 #[.int .u64 x] w fun e w' => e = .returned (.int .i64 k) ∧ w = w' := by
  go_enter Tryd.func82, Tryd.ntmps82
  go_wp2_with (simp only [key])
  go_ret
  exact ⟨rfl, rfl⟩
theorem tz64_any (s : Nat) (w : World) (hs : s < 1024) (h0 : s ≠ 0) (hT : Tab w) :
    Calls Tryd.prog 82 #[.int .u64 s] w fun e w' => e = .returned (.int .i64 (lo s : Nat)) ∧ w = w' := by
  have hs64 : s < 18446744073709551616 := Nat.lt_trans hs (by decide)
  obtain ⟨hlow, hk⟩ := Lib.lowest_bit 64 s h0 hs64
  obtain ⟨hi, htab⟩ := Lib.deBruijn64_at _ hk
  have hcell := hT _ hi
  rw [htab] at hcell
  exact tz64_core s _ _ w (by simpa using h0) (tz64_key s _ hs64 h0 hlow) hi hk hcell
theorem tz_any (s : Nat) (w : World) (hs : s < 1024) (h0 : s ≠ 0) (hT : Tab w) :
    Calls Tryd.prog 73 #[.int .u64 s] w fun e w' => e = .returned (.int .i64 (lo s : Nat)) ∧ w = w' := by
  go_enter Tryd.func73, Tryd.ntmps73
  go_wp2_with (go_at_call 82; refine (tz64_any s _ hs h0 hT).mono ?_; rintro e w' ⟨rfl, rfl⟩)
  go_ret
  exact ⟨rfl, rfl⟩
theorem first_any (s : Nat) (w : World) (hs : s < 1024) (h0 : s ≠ 0) (hT : Tab w) :
    Calls Tryd.prog 53 #[.int .i64 s] w fun e w' => e = .returned (.int .i64 (lo s : Nat)) ∧ w = w' := by
  go_enter Tryd.func53, Tryd.ntmps53
  go_wp2_with (go_at_call 73; refine (tz_any s _ hs h0 hT).mono ?_; rintro e w' ⟨rfl, rfl⟩)
  go_ret
  exact ⟨rfl, rfl⟩
end Go.Proofs.YtjhpegjcknaioaaDoor
