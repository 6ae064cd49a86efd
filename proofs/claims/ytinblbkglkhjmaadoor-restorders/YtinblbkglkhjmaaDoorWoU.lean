/-
  What sets.Size and the reference's Size answer: how many points a set has. Conditions: a set of at most ten points.
  What sets.First answers: the least point of a set that has one. Conditions: a set below 1024; the library's table lies in its variable.
  What order.members and the reference's Points answer: the points of a set, rising. Conditions: a set that is not negative, at most ten points.
  What order.Dual answers. No condition but that a slice reads as a slice of numbers.
  What order.Dual answers. Condition: a slice reads as a slice of numbers.
-/
import Derived.Test.YtinblbkglkhjmaaDoorBuild
import Derived.Test.YtinblbkglkhjmaaDoorWoQ
import Derived.Shelf.Spec.TrailingZeros
import Derived.Test.YtinblbkglkhjmaaDoorNthM
import Derived.Test.YtinblbkglkhjmaaDoorExtM
import Derived.Deep.RegionHeld3
namespace Go.Proofs.YtinblbkglkhjmaaDoor
open Go.RowKit

/-- How many of the first k points are in s. -/
def pcn (s : Nat) : Nat → Nat
  | 0 => 0
  | k + 1 => if s.testBit k = true then pcn s k + 1 else pcn s k
/-- How many points a set has. -/
def pc (s : Nat) : Nat := pcn s 10

theorem ones_any (s : Nat) (w : World) (hs : s < 1024) :
    Calls Tryd.prog 64 #[.int .u64 s] w fun e w' => e = .returned (.int .i64 (pc s : Nat)) ∧ w = w' := by
  go_enter Tryd.func64, Tryd.ntmps64
  go_wp2
  go_ret
  refine ⟨ret_int ?_, rfl⟩
  clear w
  revert s
  decide +kernel
theorem onesCount_any (s : Nat) (w : World) (hs : s < 1024) :
    Calls Tryd.prog 54 #[.int .u64 s] w fun e w' => e = .returned (.int .i64 (pc s : Nat)) ∧ w = w' := by
  go_enter Tryd.func54, Tryd.ntmps54
  go_wp2_with (go_at_call 64; refine (ones_any s _ hs).mono ?_; rintro e w' ⟨rfl, rfl⟩)
  go_ret
  exact ⟨rfl, rfl⟩
theorem size_any (s : Nat) (w : World) (hs : s < 1024) :
    Calls Tryd.prog 42 #[.int .i64 s] w fun e w' => e = .returned (.int .i64 (pc s : Nat)) ∧ w = w' := by
  go_enter Tryd.func42, Tryd.ntmps42
  go_wp2_with (go_at_call 54; refine (onesCount_any s _ hs).mono ?_; rintro e w' ⟨rfl, rfl⟩)
  go_ret
  exact ⟨rfl, rfl⟩

theorem pcn_le (s : Nat) : ∀ k, pcn s k ≤ k
  | 0 => Nat.le_refl _
  | k + 1 => by have := pcn_le s k; unfold pcn; split <;> omega
theorem pcn_stop {s k : Nat} (h : ∀ j, k ≤ j → s.testBit j = false) : ∀ d, pcn s (k + d) = pcn s k
  | 0 => rfl
  | d + 1 => by
    rw [← Nat.add_assoc, pcn, h (k + d) (by omega)]
    simpa using pcn_stop h d
theorem pcn_step (s k : Nat) : pcn s (k + 1) = pcn s k + hv s k % 2 := by
  rw [pcn, hv_bit]
  rcases Nat.mod_two_eq_zero_or_one (hv s k) with h | h <;> simp [h]
end Go.Proofs.YtinblbkglkhjmaaDoor
namespace Go.Proofs.YtinblbkglkhjmaaDoor
open Go.RowKit

/-- The table in its variable. -/
def Tab (w : World) : Prop := ∀ j, j < 64 → w.cell? ⟨1, j, none⟩ = some (.int .u8 (Lib.deBruijn64tab.getD j 0))
theorem Tab.step {w w' : World} (h : Tab w) (hb : Below w.heap.size w w') : Tab w' := fun j hj => (hb.cell (World.block_lt_of_cell? _ _ (h j hj))).trans (h j hj)
/-- The least point of a set. -/
def lo (s : Nat) : Nat := Lib.ctz 64 s
set_option maxHeartbeats 1000000 in
theorem tz64_core (x k idx : Nat) (w : World) (hx0 : ((x : Int) == 0) = false)
    (key : IntKind.u64.wrap (bits BinOp.and IntKind.u64 (x : Int) (IntKind.u64.wrap (-(x : Int))) * 285870213051353865) / 288230376151711744 = (idx : Int))
    (hi : idx < 64) (hk : k < 64) (hcell : w.cell? ⟨1, idx, none⟩ = some (.int .u8 k)) :
    Calls Tryd.prog 66 #[.int .u64 x] w fun e w' => e = .returned (.int .i64 k) ∧ w = w' := by
  go_enter Tryd.func66, Tryd.ntmps66
  go_wp2_with (simp only [key])
  go_ret
  exact ⟨rfl, rfl⟩
theorem tz64_any (s : Nat) (w : World) (hs : s < 1024) (h0 : s ≠ 0) (hT : Tab w) :
    Calls Tryd.prog 66 #[.int .u64 s] w fun e w' => e = .returned (.int .i64 (lo s : Nat)) ∧ w = w' := by
  have hs64 : s < 18446744073709551616 := Nat.lt_trans hs (by decide)
  obtain ⟨hlow, hk⟩ := Lib.lowest_bit 64 s h0 hs64
  obtain ⟨hi, htab⟩ := Lib.deBruijn64_at _ hk
  have hcell := hT _ hi
  rw [htab] at hcell
  exact tz64_core s _ _ w (by simpa using h0) (tz64_key s _ hs64 h0 hlow) hi hk hcell
theorem tz_any (s : Nat) (w : World) (hs : s < 1024) (h0 : s ≠ 0) (hT : Tab w) :
    Calls Tryd.prog 55 #[.int .u64 s] w fun e w' => e = .returned (.int .i64 (lo s : Nat)) ∧ w = w' := by
  go_enter Tryd.func55, Tryd.ntmps55
  go_wp2_with (go_at_call 66; refine (tz64_any s _ hs h0 hT).mono ?_; rintro e w' ⟨rfl, rfl⟩)
  go_ret
  exact ⟨rfl, rfl⟩
theorem first_any (s : Nat) (w : World) (hs : s < 1024) (h0 : s ≠ 0) (hT : Tab w) :
    Calls Tryd.prog 43 #[.int .i64 s] w fun e w' => e = .returned (.int .i64 (lo s : Nat)) ∧ w = w' := by
  go_enter Tryd.func43, Tryd.ntmps43
  go_wp2_with (go_at_call 55; refine (tz_any s _ hs h0 hT).mono ?_; rintro e w' ⟨rfl, rfl⟩)
  go_ret
  exact ⟨rfl, rfl⟩
end Go.Proofs.YtinblbkglkhjmaaDoor
namespace Go.Proofs.YtinblbkglkhjmaaDoor
open Go.RowKit

def pts (s : Nat) : Nat → List Nat
  | 0 => []
  | k + 1 => if s.testBit k = true then pts s k ++ [k] else pts s k
theorem pts_yes {s k : Nat} (h : s.testBit k = true) : pts s (k + 1) = pts s k ++ [k] := by simp [pts, h]
theorem pts_no {s k : Nat} (h : s.testBit k = false) : pts s (k + 1) = pts s k := by simp [pts, h]
theorem pts_len (s : Nat) : ∀ k, (pts s k).length ≤ k
  | 0 => by simp [pts]
  | k + 1 => by
    have ih := pts_len s k
    cases h : s.testBit k
    · rw [pts_no h]; omega
    · rw [pts_yes h, List.length_append]; simp; exact ih
theorem pts_lt (s : Nat) : ∀ k i, i ∈ pts s k → i < k
  | 0, i, h => by simp [pts] at h
  | k + 1, i, h => by
    cases hb : s.testBit k
    · rw [pts_no hb] at h; have := pts_lt s k i h; omega
    · rw [pts_yes hb, List.mem_append] at h
      rcases h with h | h
      · have := pts_lt s k i h; omega
      · simp at h; omega
theorem pts_more {s n : Nat} (hs : s < pw n) : ∀ d, pts s (n + d) = pts s n
  | 0 => rfl
  | d + 1 => by
    have hb : s.testBit (n + d) = false := by
      cases e : s.testBit (n + d)
      · rfl
      · have := bit_of_lt hs e; omega
    rw [show n + (d + 1) = (n + d) + 1 from rfl, pts_no hb, pts_more hs d]
def okc (c : Nat) : Bool := c == 0 || (c == (c &&& (c - 1)) + 2 ^ lo c && ((c &&& (c - 1)) % 2 ^ (lo c + 1) == 0 && decide (lo c < 10)))
theorem ok_all : ((List.range 1024).all okc) = true := by decide +kernel
theorem lo_is {c : Nat} (hc : c < 1024) (h0 : c ≠ 0) : c = (c &&& (c - 1)) + 2 ^ lo c ∧ (c &&& (c - 1)) % 2 ^ (lo c + 1) = 0 ∧ lo c < 10 := by
  have h := List.all_eq_true.1 ok_all c (List.mem_range.2 hc)
  simpa [okc, h0] using h
theorem pts_nil {c : Nat} : ∀ n, (∀ j, j < n → c.testBit j = false) → pts c n = []
  | 0, _ => rfl
  | n + 1, h => by rw [pts_no (h n (by omega))]; exact pts_nil n (fun j hj => h j (by omega))
theorem pts_low {c c' k : Nat} (h1 : ∀ j, j < k → c.testBit j = false) (h2 : c.testBit k = true) (h3 : ∀ j, j ≤ k → c'.testBit j = false) (h4 : ∀ j, k < j → c.testBit j = c'.testBit j) : ∀ n, k < n → pts c n = k :: pts c' n
  | 0, h => absurd h (Nat.not_lt_zero _)
  | n + 1, h => by
    by_cases e : n = k
    · subst e
      rw [pts_yes h2, pts_nil n h1, pts_nil (n + 1) (fun j hj => h3 j (by omega))]; rfl
    · have ih := pts_low h1 h2 h3 h4 n (by omega)
      have hb := h4 n (by omega)
      cases hc : c'.testBit n
      · rw [pts_no (hb.trans hc), pts_no hc, ih]
      · rw [pts_yes (hb.trans hc), pts_yes hc, ih]; rfl
theorem pts_lo {c : Nat} (hc : c < 1024) (h0 : c ≠ 0) : pts c 10 = lo c :: pts (c &&& (c - 1)) 10 := by
  obtain ⟨h1, h2, h3⟩ := lo_is hc h0
  generalize c &&& (c - 1) = d at *
  generalize lo c = k at *
  obtain ⟨m, hm⟩ := Nat.dvd_of_mod_eq_zero h2
  have hp : 2 ^ k < 2 ^ (k + 1) := Nat.pow_lt_pow_right (by decide) (by omega)
  have hd : ∀ j, d.testBit j = if j < k + 1 then false else m.testBit (j - (k + 1)) := fun j => by
    have := Nat.testBit_two_pow_mul_add m (b := 0) (i := k + 1) (Nat.two_pow_pos _) j
    rw [Nat.add_zero, ← hm] at this
    rw [this]; simp
  have hcb : ∀ j, c.testBit j = if j < k + 1 then (2 ^ k).testBit j else m.testBit (j - (k + 1)) := fun j => by
    have := Nat.testBit_two_pow_mul_add m hp j
    rw [← hm, ← h1] at this
    exact this
  refine pts_low (fun j hj => ?_) ?_ (fun j hj => ?_) (fun j hj => ?_) 10 h3
  · rw [hcb, if_pos (by omega), Nat.testBit_two_pow]; simp; omega
  · rw [hcb, if_pos (by omega), Nat.testBit_two_pow]; simp
  · rw [hd, if_pos (by omega)]
  · rw [hcb, hd, if_neg (by omega), if_neg (by omega)]
theorem lo_lt {c : Nat} (hc : c < 1024) (h0 : c ≠ 0) : (c &&& (c - 1)) < c := by
  obtain ⟨h1, _, _⟩ := lo_is hc h0
  have := Nat.two_pow_pos (lo c)
  omega
theorem pts_zero (n : Nat) : pts 0 n = [] := pts_nil n (fun j _ => by simp)
theorem pc_le2 (s : Nat) : pc s ≤ 10 := pcn_le s 10
set_option maxHeartbeats 1000000 in
theorem members_any (s : Nat) (w : World) (hs : s < 1024) (hT : Tab w) :
    Calls Tryd.prog 21 #[.int .i64 s] w fun e w' => (∃ v, e = .returned v ∧ NSl w' v (pts s 10)) ∧ Below w.heap.size w w' := by
  obtain ⟨i0, hi, hz0, hz1, hz2⟩ := info_parts Tryd.info3
  have HT : Hid (Tab w) := hT
  have hpc := pc_le2 s
  clear hT
  go_enter Tryd.func21, Tryd.ntmps21
  go_wp2_with (first | (go_at_call 42; refine (size_any s _ hs).mono ?_; rintro e w' ⟨rfl, rfl⟩) | (at_make; refine wpList_make_own _ rfl _ _ 22 rfl w.heap.size 3 i0 (.int .i64 0) 1 Tryd.underlying22 hi hz0 hz1 .i64 .i64 _ (pc s) rfl rfl rfl (by rw [hz2]; omega) (by unfold maxLen; omega) (Nat.le_refl _) ?_; intro w2 hown2 hgrow2))
  have HB2 : Hid (Below w.heap.size w w2) := (Below.refl _ _).grown hgrow2 (Nat.le_refl _) (by simp)
  have HO2 : Hid (w2.ownsRow w.heap.size 3 1 (.slice (some ⟨w.heap.size, 0, none⟩) 0 (pc s)) ([] : List Nat).length (natVals [])) := hown2
  have hpl := pts_len s 10
  clear hown2 hgrow2
  obtain ⟨P, HPP⟩ : ∃ P, Hid (P = pts s 10) := ⟨_, rfl⟩
  rw [← HPP.out] at hpl
  go_loopw [0, 3] (fun c v wx => ∃ (d : Nat) (L : List Nat), d < 1024 ∧ c = .int .i64 d ∧ Hid (P = L ++ pts d 10) ∧ wx.ownsRow w.heap.size 3 1 v L.length (natVals L) ∧ Hid (Below w.heap.size w wx)) (fun c _ _ => (intOf c).toNat)
  case atStart => exact ⟨s, [], hs, rfl, HPP.out, HO2.out, HB2.out⟩
  case round =>
    clear HO2 HB2
    obtain ⟨d, L, hd, rfl, HP, hown, hB⟩ := hrel
    by_cases h0 : d = 0
    · subst h0
      have HPL : Hid (P = L) := by have := HP.out; rw [pts_zero, List.append_nil] at this; exact this
      have HF : Hid (NSl wr u3 (pts s 10)) := by rw [← HPP.out, HPL.out]; exact owns_nats hown
      clear hown
      go_wp2_with fail
      go_ret
      exact ⟨⟨_, rfl, HF.out⟩, hB.out⟩
    · have hne : ((d : Int) != 0) = true := by simp; omega
      have HPN : Hid (P = (L ++ [lo d]) ++ pts (d &&& (d - 1)) 10) := by
        have := HP.out
        rw [pts_lo hd h0] at this
        exact this.trans (by simp)
      have hLL : L.length < 10 := by
        have h1 : P.length = L.length + 1 + (pts (d &&& (d - 1)) 10).length := by
          have := congrArg List.length HPN.out
          rw [List.length_append, List.length_append] at this
          exact this
        omega
      have hlt := lo_lt hd h0
      have hT1 : Tab wr := HT.out.step hB.out
      have hsz := hB.out.size
      have hand : bits BinOp.and IntKind.i64 (d : Int) ((d : Int) - 1) = ((d &&& (d - 1) : Nat) : Int) := by
        rw [show ((d : Int) - 1) = ((d - 1 : Nat) : Int) by omega]; exact i64_and d (d - 1) (Nat.lt_trans hd (by decide)) (Nat.lt_of_le_of_lt (Nat.sub_le _ _) (Nat.lt_trans hd (by decide)))
      have hlo : lo d < 10 := (lo_is hd h0).2.2
      go_wp2_with (first | (go_at_call 43; refine (first_any d _ hd h0 hT1).mono ?_; rintro e w' ⟨rfl, rfl⟩) | (at_builtin; refine wpList_append_own _ rfl _ _ 22 rfl w.heap.size 3 i0 (.int .i64 0) 1 8 Tryd.underlying22 hi hz0 hz1 hz2 rfl (by decide) _ _ _ rfl (hown.alloc _) ⟨wr.heap.size, 0, none⟩ 1 1 [.int .i64 (lo d : Nat)] rfl rfl ?c1 ?c2 ?c3 ?c4 ?c5 ?_))
      case c1 =>
        intro j u hj
        match j, hj with
        | 0, hj => simp at hj; subst hj; simp [Addr.add]
      case c2 => intro u hu; simp at hu; subst hu; rfl
      case c3 => unfold maxLen; omega
      case c4 => omega
      case c5 => simp; omega
      intro v' w1 hown' hgrow _
      have HB5 : Hid (Below w.heap.size w w1) := below_append3 hB.out hown hgrow
      have HO5 : Hid (w1.ownsRow w.heap.size 3 1 v' (L ++ [lo d]).length (natVals (L ++ [lo d]))) := by
        rw [natVals_append, List.length_append]; exact hown'
      have hdl : d &&& (d - 1) < 1024 := by omega
      clear hown' hgrow hown hB hT1
      generalize d &&& (d - 1) = d' at *
      go_wp2_with fail
      go_roundw
      case rel => exact ⟨d', L ++ [lo d], hdl, rfl, HPN.out, HO5.out, HB5.out⟩
      case measure => simp [intOf]; omega

end Go.Proofs.YtinblbkglkhjmaaDoor
namespace Go.Proofs.YtinblbkglkhjmaaDoor
open Go.RowKit

theorem k3_step {w0 w1 w2 : World} {n : Int} {a : Option Addr} {len cap : Nat}
    (h : w1.cell? ⟨w0.heap.size, 0, none⟩ = some (.int .i64 n) ∧ w1.cell? ⟨w0.heap.size, 1, none⟩ = some (.slice a len cap) ∧ Below w0.heap.size w0 w1)
    (hb : Below w1.heap.size w1 w2) :
    w2.cell? ⟨w0.heap.size, 0, none⟩ = some (.int .i64 n) ∧ w2.cell? ⟨w0.heap.size, 1, none⟩ = some (.slice a len cap) ∧ Below w0.heap.size w0 w2 :=
  ⟨(hb.cell (World.block_lt_of_cell? _ _ h.1)).trans h.1, (hb.cell (World.block_lt_of_cell? _ _ h.2.1)).trans h.2.1, Below.then h.2.2 hb⟩
theorem k3_below {w0 w1 : World} {n : Int} {a : Option Addr} {len cap : Nat}
    (h : w1.cell? ⟨w0.heap.size, 0, none⟩ = some (.int .i64 n) ∧ w1.cell? ⟨w0.heap.size, 1, none⟩ = some (.slice a len cap) ∧ Below w0.heap.size w0 w1) : Below w0.heap.size w0 w1 := h.2.2
theorem k3_set2 {w0 w1 : World} {n : Int} {a : Option Addr} {len cap : Nat} {u v : Value}
    (h : w1.cell? ⟨w0.heap.size, 0, none⟩ = some (.int .i64 n) ∧ w1.cell? ⟨w0.heap.size, 1, none⟩ = some (.slice a len cap) ∧ Below w0.heap.size w0 w1) :
    ((w1.setCell ⟨w0.heap.size + 1, 0, none⟩ u).setCell ⟨w0.heap.size + 1, 1, none⟩ v).cell? ⟨w0.heap.size, 0, none⟩ = some (.int .i64 n) ∧ ((w1.setCell ⟨w0.heap.size + 1, 0, none⟩ u).setCell ⟨w0.heap.size + 1, 1, none⟩ v).cell? ⟨w0.heap.size, 1, none⟩ = some (.slice a len cap) ∧ Below w0.heap.size w0 ((w1.setCell ⟨w0.heap.size + 1, 0, none⟩ u).setCell ⟨w0.heap.size + 1, 1, none⟩ v) := by
  refine ⟨?_, ?_, set2B h.2.2 (by omega)⟩
  · rw [World.cell?_setCell_other _ _ _ _ (fun e => by injection e with e1; omega), World.cell?_setCell_other _ _ _ _ (fun e => by injection e with e1; omega)]; exact h.1
  · rw [World.cell?_setCell_other _ _ _ _ (fun e => by injection e with e1; omega), World.cell?_setCell_other _ _ _ _ (fun e => by injection e with e1; omega)]; exact h.2.1
def DualPost (n : Int) (len : Nat) (f : Nat → Int) (e : Ending) (w' : World) : Prop :=
  ∃ (c : Int) (x : Value), Chk n len f c ∧ e = .returned (.tuple #[x, .int .i64 c]) ∧ OrdErr c (len : Int) len (fun k => (trn (nat f) len k : Nat)) x w'

/-- A box at block B holds an order. -/
def Box (X : World) (B : Nat) (n : Int) (a : Option Addr) (len cap : Nat) : Prop := X.cell? ⟨B, 0, none⟩ = some (.int .i64 n) ∧ X.cell? ⟨B, 1, none⟩ = some (.slice a len cap)
theorem Box.step {X X' : World} {B : Nat} {n : Int} {a : Option Addr} {len cap : Nat} (h : Box X B n a len cap) (hb : Below X.heap.size X X') : Box X' B n a len cap :=
  ⟨(hb.cell (World.block_lt_of_cell? _ _ h.1)).trans h.1, (hb.cell (World.block_lt_of_cell? _ _ h.2)).trans h.2⟩
theorem Box.new (w : World) (n : Int) (a : Option Addr) (len cap : Nat) : Box (w.alloc (.cells #[.int .i64 n, .slice a len cap] 24)) w.heap.size n a len cap := ⟨by simp, by simp⟩
theorem Box.lt {X : World} {B : Nat} {n : Int} {a : Option Addr} {len cap : Nat} (h : Box X B n a len cap) : B < X.heap.size := World.block_lt_of_cell? _ _ h.1
theorem Box.set2 {X : World} {B : Nat} {n : Int} {a : Option Addr} {len cap : Nat} (h : ZBox X B) : Box ((X.setCell ⟨B, 0, none⟩ (.int .i64 n)).setCell ⟨B, 1, none⟩ (.slice a len cap)) B n a len cap :=
  ⟨by rw [World.cell?_setCell_other _ _ _ _ (fun e => by injection e with _ e2; cases e2)]; exact World.cell?_setCell_same _ _ _ h.1,
   World.cell?_setCell_same _ _ _ (by rw [World.cell?_setCell_other _ _ _ _ (fun e => by injection e with _ e2; cases e2)]; exact h.2.1)⟩
theorem Held.toBox {w : World} {b0 : Nat} {n : Int} {a : Option Addr} {len cap : Nat} {f : Nat → Int} (h : Held w b0 n a len cap f) : Box w b0 n a len cap := ⟨h.1, h.2.1⟩

end Go.Proofs.YtinblbkglkhjmaaDoor
namespace Go.Proofs.YtinblbkglkhjmaaDoor
open Go.RowKit

theorem dual_any (n : Int) (a : Option Addr) (len cap : Nat) (f : Nat → Int) (w : World) (hl : len ≤ maxLen) (hr : Row w a len f) :
    Calls Tryd.prog 6 #[.agg #[.int .i64 n, .slice a len cap]] w fun e w' => DualPost n len f e w' ∧ Below w.heap.size w w' := by
  have HH : Hid (Held ((w.alloc (.cells #[.int .i64 n, .slice a len cap] 24)).alloc (.cells #[.int .i64 0, .slice none 0 0] 24)) w.heap.size n a len cap f) := (Held.box hr).step ((Below.refl _ _).alloc (Nat.le_refl _) _)
  have HB : Hid (Below w.heap.size w ((w.alloc (.cells #[.int .i64 n, .slice a len cap] 24)).alloc (.cells #[.int .i64 0, .slice none 0 0] 24))) := ((Below.refl _ _).alloc (Nat.le_refl _) _).alloc (by simp) _
  have HZ : Hid (ZBox ((w.alloc (.cells #[.int .i64 n, .slice a len cap] 24)).alloc (.cells #[.int .i64 0, .slice none 0 0] 24)) (w.heap.size + 1)) := by have := ZBox.new (w.alloc (.cells #[.int .i64 n, .slice a len cap] 24)); rw [World.size_alloc] at this; exact this
  have HR : Hid (Row w a len f) := hr
  clear hr
  go_enter Tryd.func6, Tryd.ntmps6
  go_wp2_with fail
  refine (check_any n a len cap f _ hl HH.out.row).mono ?_
  rintro e w1 ⟨⟨c, rfl, hc⟩, hb⟩
  have K1 := HH.out.step hb
  have Z1 := HZ.out.step hb
  have HB1 : Hid (Below w.heap.size w w1) := Below.then HB.out hb
  clear hb HH HB HZ
  by_cases h0 : c = 0
  · subst h0
    obtain ⟨rfl, h10, hrng, _⟩ := hc.good
    have KK : w1.drew.cell? ⟨w.heap.size, 0, none⟩ = some (.int .i64 (len : Int)) ∧ w1.drew.cell? ⟨w.heap.size, 1, none⟩ = some (.slice a len cap) ∧ Below w.heap.size w w1.drew := ⟨K1.c0, K1.c1, HB1.out.drew⟩
    have HRW : Hid (Row w a len (fun k => (nat f k : Nat))) := hrng.row HR.out
    have HC : Hid (Chk (len : Int) len f 0) := hc
    have HG : Hid (∀ k, k < len → nat f k < 1024) := hrng.small2 h10
    have HZ1 : Hid (ZBox w1.drew (w.heap.size + 1)) := Z1
    have hsz : w.heap.size + 1 < w1.heap.size := World.block_lt_of_cell? _ _ Z1.1
    clear K1 HB1 hc hrng Z1
    go_wp2_with fail
    go_region_held3 (fun w' => w'.cell? ⟨w.heap.size, 0, none⟩ = some (.int .i64 (len : Int)) ∧ w'.cell? ⟨w.heap.size, 1, none⟩ = some (.slice a len cap) ∧ Below w.heap.size w w')
      (first | exact KK | assumption | exact k3_step (by assumption) (by assumption) | exact k3_set2 (by assumption))
      (first
        | (go_at_call 19; refine (turn_any len (nat f) a cap _ h10 HG.out (HRW.out.below (k3_below (n := (len : Int)) (a := a) (len := len) (cap := cap) (by assumption)))).mono ?_; rintro e w' ⟨rfl, ho, hb⟩; obtain ⟨r0, r1, r2, r3⟩ := HZ1.out.step hb))
    all_goals go_wp2
    refine bodyPost_ret (v := .tuple #[.agg #[.int .i64 (len : Int), .slice (some ⟨w1.heap.size, 0, none⟩) len len], .int .i64 0]) ?_ rfl ⟨⟨0, _, HC.out, rfl, .inr ⟨rfl, _, _, rfl, ?_⟩⟩, ?_⟩
    · simp [results, Tryd.results6, go_sem, r0, r1]
    · exact row_set2 (Own.row ho) (fun _ => ⟨_, _, rfl, hsz⟩)
    · exact k3_below (n := (len : Int)) (a := a) (len := len) (cap := cap) (by assumption)
  · have hne : (c != 0) = true := by simpa using h0
    obtain ⟨r0, r1, r2, r3⟩ := Z1
    have HC : Hid (Chk n len f c) := hc
    clear hc
    go_wp2_with fail
    exact bodyPost_ret (v := .tuple #[noOrder, .int .i64 c]) (by simp [results, Tryd.results6, go_sem, noOrder, r0, r1]) rfl ⟨⟨c, _, HC.out, rfl, .inl ⟨h0, rfl⟩⟩, set2B HB1.out (by omega)⟩
end Go.Proofs.YtinblbkglkhjmaaDoor
