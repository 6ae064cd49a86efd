/-
  Lists of numbers as slices. No condition.
  Sums, and a set with a point more. Plain facts: no Go text here. No condition.
  In how many ways the points that do not stand yet go behind a set, each behind those that it needs. Plain facts: no Go text here. Conditions: at most ten points.
  What the reference's Inside, and hasselaw.numberIs answer. Conditions: sets of at most ten points.
  What sets.Size and the reference's Size answer: how many points a set has. Conditions: a set of at most ten points.
  What sets.First answers: the least point of a set that has one. Conditions: a set below 1024; the library's table lies in its variable.
  What order.members and the reference's Points answer: the points of a set, rising. Conditions: a set that is not negative, at most ten points.
  What sets.Members answers, and that its list is new memory. Conditions: a set that is not negative, at most ten points; the table of the least bits.
  What slices.Compare answers of two lists of one length. No other condition.
  All lists of some points, as they are compared, and the first one by which an order is least: plain facts. No Go text here. Conditions: at most ten points.
-/
import Derived.Test.YtfbdgdphpdhcpaaDoorSets
import Derived.Test.YtfbdgdphpdhcpaaDoorRngX
import Derived.Shelf.Spec.TrailingZeros
namespace Go.Proofs.YtfbdgdphpdhcpaaDoor
open Go.RowKit

def natVals (l : List Nat) : List Value := l.map fun x => .int .i64 (x : Nat)
theorem natVals_append (l m : List Nat) : natVals (l ++ m) = natVals l ++ natVals m := by simp [natVals]
def nth (l : List Nat) (k : Nat) : Nat := l.getD k 0
theorem natVals_at (l : List Nat) (k : Nat) (h : k < l.length) : (natVals l)[k]? = some (.int .i64 (nth l k : Nat)) := by
  simp [natVals, nth, h]
/-- A value that is a slice of the numbers l. -/
def NSl (w : World) (v : Value) (l : List Nat) : Prop := ∃ a cap, v = .slice a l.length cap ∧ Row w a l.length (fun k => (nth l k : Nat))
theorem owns_nats {w : World} {base : Nat} {v : Value} {l : List Nat} (h : w.ownsRow base 3 1 v l.length (natVals l)) : NSl w v l := by
  by_cases hn : 0 < l.length
  · obtain ⟨g, cap, rfl⟩ := owns_form h hn
    refine ⟨_, cap, rfl, fun k hk => ⟨g, 0, rfl, ?_⟩⟩
    rw [Nat.zero_add, h.cellAt _ (by omega)]; exact natVals_at l k hk
  · have h0 : l.length = 0 := by omega
    rcases h.2 with ⟨rfl, _⟩ | ⟨g, cap, cur, rfl, _⟩
    · exact ⟨none, 0, by rw [h0], fun k hk => absurd (Nat.lt_of_le_of_lt (Nat.zero_le _) hk) hn⟩
    · exact ⟨_, cap, rfl, fun k hk => absurd (Nat.lt_of_le_of_lt (Nat.zero_le _) hk) hn⟩
theorem below_append3 {w wx w1 : World} {o2 : Obj} {e : TypeId} {size n : Nat} {v : Value} {xs : List Value} (h : Below w.heap.size w wx) (hown : wx.ownsRow w.heap.size e size v n xs) (hg : (wx.alloc o2).grownBy w1 v.ownBlock) : Below w.heap.size w w1 :=
  (h.alloc h.size o2).grown hg (by have := h.size; simp; omega) (owns_block hown)

end Go.Proofs.YtfbdgdphpdhcpaaDoor
namespace Go.Proofs.YtfbdgdphpdhcpaaDoor
open Go.RowKit

def sumTo (φ : Nat → Nat) : Nat → Nat
  | 0 => 0
  | k + 1 => sumTo φ k + φ k
end Go.Proofs.YtfbdgdphpdhcpaaDoor
namespace Go.Proofs.YtfbdgdphpdhcpaaDoor
open Go.RowKit

/-- May a point stand next behind a set? -/
def may (u : Nat → Nat) (s i : Nat) : Bool := !s.testBit i && decide (lack (u i) s = 0)
/-- How many of n points a set has not. -/
def miss (n s : Nat) : Nat := sumTo (fun i => if s.testBit i = true then 0 else 1) n
/-- In how many ways the others go behind a set, with so much fuel. -/
def waysF (u : Nat → Nat) (n : Nat) : Nat → Nat → Nat
  | 0, s => if s = pw n - 1 then 1 else 0
  | f + 1, s => if pw n - 1 ≤ s then (if s = pw n - 1 then 1 else 0) else sumTo (fun i => if may u s i = true then waysF u n f (s + pw i) else 0) n
/-- In how many ways the others go behind a set. -/
def ways (u : Nat → Nat) (n s : Nat) : Nat := waysF u n (pw n) s
/-- In how many ways they go behind a set with a point next. -/
def goes (u : Nat → Nat) (n s i : Nat) : Nat := if may u s i = true then ways u n (s + pw i) else 0
end Go.Proofs.YtfbdgdphpdhcpaaDoor
namespace Go.Proofs.YtfbdgdphpdhcpaaDoor
open Go.RowKit

def Sub (a b : Nat) : Prop := ∀ j, a.testBit j = true → b.testBit j = true
end Go.Proofs.YtfbdgdphpdhcpaaDoor
namespace Go.Proofs.YtfbdgdphpdhcpaaDoor
open Go.RowKit

/-- How many of the first k points are in s. -/
def pcn (s : Nat) : Nat → Nat
  | 0 => 0
  | k + 1 => if s.testBit k = true then pcn s k + 1 else pcn s k
/-- How many points a set has. -/
def pc (s : Nat) : Nat := pcn s 10

theorem ones_any (s : Nat) (w : World) (hs : s < 1024) :
    Calls Tryd.prog 78 #[.int .u64 s] w fun e w' => e = .returned (.int .i64 (pc s : Nat)) ∧ w = w' := by
  go_enter Tryd.func78, Tryd.ntmps78
  go_wp2
  go_ret
  refine ⟨ret_int ?_, rfl⟩
  clear w
  revert s
  decide +kernel
theorem onesCount_any (s : Nat) (w : World) (hs : s < 1024) :
    Calls Tryd.prog 65 #[.int .u64 s] w fun e w' => e = .returned (.int .i64 (pc s : Nat)) ∧ w = w' := by
  go_enter Tryd.func65, Tryd.ntmps65
  go_wp2_with (go_at_call 78; refine (ones_any s _ hs).mono ?_; rintro e w' ⟨rfl, rfl⟩)
  go_ret
  exact ⟨rfl, rfl⟩
theorem size_any (s : Nat) (w : World) (hs : s < 1024) :
    Calls Tryd.prog 59 #[.int .i64 s] w fun e w' => e = .returned (.int .i64 (pc s : Nat)) ∧ w = w' := by
  go_enter Tryd.func59, Tryd.ntmps59
  go_wp2_with (go_at_call 65; refine (onesCount_any s _ hs).mono ?_; rintro e w' ⟨rfl, rfl⟩)
  go_ret
  exact ⟨rfl, rfl⟩

theorem pcn_le (s : Nat) : ∀ k, pcn s k ≤ k
  | 0 => Nat.le_refl _
  | k + 1 => by have := pcn_le s k; unfold pcn; split <;> omega
end Go.Proofs.YtfbdgdphpdhcpaaDoor
namespace Go.Proofs.YtfbdgdphpdhcpaaDoor
open Go.RowKit

/-- The table in its variable. -/
def Tab (w : World) : Prop := ∀ j, j < 64 → w.cell? ⟨1, j, none⟩ = some (.int .u8 (Lib.deBruijn64tab.getD j 0))
theorem Tab.step {w w' : World} (h : Tab w) (hb : Below w.heap.size w w') : Tab w' := fun j hj => (hb.cell (World.block_lt_of_cell? _ _ (h j hj))).trans (h j hj)
/-- The least point of a set. -/
def lo (s : Nat) : Nat := Lib.ctz 64 s
set_option maxHeartbeats 1000000 in
theorem tz64_core (x k idx : Nat) (w : World) (hx0 : ((x : Int) == 0) = false)
    (key : IntKind.u64.wrap (bits BinOp.and IntKind.u64 (x : Int) (IntKind.u64.wrap (-(x : Int))) * 285870213051353865) / 288230376151711744 = (idx : Int))
    (hi : idx < 64) (hk : k < 64) (hcell : w.cell? ⟨1, idx, none⟩ = some (.int .u8 k)) :
    Calls Tryd.prog 80 #[.int .u64 x] w fun e w' => e = .returned (.int .i64 k) ∧ w = w' := by
  go_enter Tryd.func80, Tryd.ntmps80
  go_wp2_with (simp only [key])
  go_ret
  exact ⟨rfl, rfl⟩
theorem tz64_any (s : Nat) (w : World) (hs : s < 1024) (h0 : s ≠ 0) (hT : Tab w) :
    Calls Tryd.prog 80 #[.int .u64 s] w fun e w' => e = .returned (.int .i64 (lo s : Nat)) ∧ w = w' := by
  have hs64 : s < 18446744073709551616 := Nat.lt_trans hs (by decide)
  obtain ⟨hlow, hk⟩ := Lib.lowest_bit 64 s h0 hs64
  obtain ⟨hi, htab⟩ := Lib.deBruijn64_at _ hk
  have hcell := hT _ hi
  rw [htab] at hcell
  exact tz64_core s _ _ w (by simpa using h0) (tz64_key s _ hs64 h0 hlow) hi hk hcell
theorem tz_any (s : Nat) (w : World) (hs : s < 1024) (h0 : s ≠ 0) (hT : Tab w) :
    Calls Tryd.prog 66 #[.int .u64 s] w fun e w' => e = .returned (.int .i64 (lo s : Nat)) ∧ w = w' := by
  go_enter Tryd.func66, Tryd.ntmps66
  go_wp2_with (go_at_call 80; refine (tz64_any s _ hs h0 hT).mono ?_; rintro e w' ⟨rfl, rfl⟩)
  go_ret
  exact ⟨rfl, rfl⟩
theorem first_any (s : Nat) (w : World) (hs : s < 1024) (h0 : s ≠ 0) (hT : Tab w) :
    Calls Tryd.prog 60 #[.int .i64 s] w fun e w' => e = .returned (.int .i64 (lo s : Nat)) ∧ w = w' := by
  go_enter Tryd.func60, Tryd.ntmps60
  go_wp2_with (go_at_call 66; refine (tz_any s _ hs h0 hT).mono ?_; rintro e w' ⟨rfl, rfl⟩)
  go_ret
  exact ⟨rfl, rfl⟩
end Go.Proofs.YtfbdgdphpdhcpaaDoor
namespace Go.Proofs.YtfbdgdphpdhcpaaDoor
open Go.RowKit

def pts (s : Nat) : Nat → List Nat
  | 0 => []
  | k + 1 => if s.testBit k = true then pts s k ++ [k] else pts s k
theorem pts_yes {s k : Nat} (h : s.testBit k = true) : pts s (k + 1) = pts s k ++ [k] := by simp [pts, h]
theorem pts_no {s k : Nat} (h : s.testBit k = false) : pts s (k + 1) = pts s k := by simp [pts, h]
theorem pts_len (s : Nat) : ∀ k, (pts s k).length ≤ k
  | 0 => by simp [pts]
  | k + 1 => by
    have ih := pts_len s k
    cases h : s.testBit k
    · rw [pts_no h]; omega
    · rw [pts_yes h, List.length_append]; simp; exact ih
theorem pts_lt (s : Nat) : ∀ k i, i ∈ pts s k → i < k
  | 0, i, h => by simp [pts] at h
  | k + 1, i, h => by
    cases hb : s.testBit k
    · rw [pts_no hb] at h; have := pts_lt s k i h; omega
    · rw [pts_yes hb, List.mem_append] at h
      rcases h with h | h
      · have := pts_lt s k i h; omega
      · simp at h; omega
def okc (c : Nat) : Bool := c == 0 || (c == (c &&& (c - 1)) + 2 ^ lo c && ((c &&& (c - 1)) % 2 ^ (lo c + 1) == 0 && decide (lo c < 10)))
theorem ok_all : ((List.range 1024).all okc) = true := by decide +kernel
theorem lo_is {c : Nat} (hc : c < 1024) (h0 : c ≠ 0) : c = (c &&& (c - 1)) + 2 ^ lo c ∧ (c &&& (c - 1)) % 2 ^ (lo c + 1) = 0 ∧ lo c < 10 := by
  have h := List.all_eq_true.1 ok_all c (List.mem_range.2 hc)
  simpa [okc, h0] using h
theorem pts_nil {c : Nat} : ∀ n, (∀ j, j < n → c.testBit j = false) → pts c n = []
  | 0, _ => rfl
  | n + 1, h => by rw [pts_no (h n (by omega))]; exact pts_nil n (fun j hj => h j (by omega))
theorem pts_low {c c' k : Nat} (h1 : ∀ j, j < k → c.testBit j = false) (h2 : c.testBit k = true) (h3 : ∀ j, j ≤ k → c'.testBit j = false) (h4 : ∀ j, k < j → c.testBit j = c'.testBit j) : ∀ n, k < n → pts c n = k :: pts c' n
  | 0, h => absurd h (Nat.not_lt_zero _)
  | n + 1, h => by
    by_cases e : n = k
    · subst e
      rw [pts_yes h2, pts_nil n h1, pts_nil (n + 1) (fun j hj => h3 j (by omega))]; rfl
    · have ih := pts_low h1 h2 h3 h4 n (by omega)
      have hb := h4 n (by omega)
      cases hc : c'.testBit n
      · rw [pts_no (hb.trans hc), pts_no hc, ih]
      · rw [pts_yes (hb.trans hc), pts_yes hc, ih]; rfl
theorem pts_lo {c : Nat} (hc : c < 1024) (h0 : c ≠ 0) : pts c 10 = lo c :: pts (c &&& (c - 1)) 10 := by
  obtain ⟨h1, h2, h3⟩ := lo_is hc h0
  generalize c &&& (c - 1) = d at *
  generalize lo c = k at *
  obtain ⟨m, hm⟩ := Nat.dvd_of_mod_eq_zero h2
  have hp : 2 ^ k < 2 ^ (k + 1) := Nat.pow_lt_pow_right (by decide) (by omega)
  have hd : ∀ j, d.testBit j = if j < k + 1 then false else m.testBit (j - (k + 1)) := fun j => by
    have := Nat.testBit_two_pow_mul_add m (b := 0) (i := k + 1) (Nat.two_pow_pos _) j
    rw [Nat.add_zero, ← hm] at this
    rw [this]; simp
  have hcb : ∀ j, c.testBit j = if j < k + 1 then (2 ^ k).testBit j else m.testBit (j - (k + 1)) := fun j => by
    have := Nat.testBit_two_pow_mul_add m hp j
    rw [← hm, ← h1] at this
    exact this
  refine pts_low (fun j hj => ?_) ?_ (fun j hj => ?_) (fun j hj => ?_) 10 h3
  · rw [hcb, if_pos (by omega), Nat.testBit_two_pow]; simp; omega
  · rw [hcb, if_pos (by omega), Nat.testBit_two_pow]; simp
  · rw [hd, if_pos (by omega)]
  · rw [hcb, hd, if_neg (by omega), if_neg (by omega)]
theorem lo_lt {c : Nat} (hc : c < 1024) (h0 : c ≠ 0) : (c &&& (c - 1)) < c := by
  obtain ⟨h1, _, _⟩ := lo_is hc h0
  have := Nat.two_pow_pos (lo c)
  omega
theorem pts_zero (n : Nat) : pts 0 n = [] := pts_nil n (fun j _ => by simp)
theorem pc_le2 (s : Nat) : pc s ≤ 10 := pcn_le s 10
end Go.Proofs.YtfbdgdphpdhcpaaDoor
namespace Go.Proofs.YtfbdgdphpdhcpaaDoor
set_option maxRecDepth 100000
open Go.RowKit

set_option maxHeartbeats 1000000 in
theorem members_new (s : Nat) (w : World) (hs : s < 1024) (hT : Tab w) :
    Calls Tryd.prog 46 #[.int .i64 s] w fun e w' => (∃ v, e = .returned v ∧ NSl w' v (pts s 10) ∧ ∀ k, v.ownBlock = some k → w.heap.size ≤ k) ∧ Below w.heap.size w w' := by
  obtain ⟨i0, hi, hz0, hz1, hz2⟩ := info_parts Tryd.info3
  have HT : Hid (Tab w) := hT
  have hpc := pc_le2 s
  clear hT
  go_enter Tryd.func46, Tryd.ntmps46
  go_wp2_with (first | (go_at_call 59; refine (size_any s _ hs).mono ?_; rintro e w' ⟨rfl, rfl⟩) | (at_make; refine wpList_make_own _ rfl _ _ 22 rfl w.heap.size 3 i0 (.int .i64 0) 1 Tryd.underlying22 hi hz0 hz1 .i64 .i64 _ (pc s) rfl rfl rfl (by rw [hz2]; omega) (by unfold maxLen; omega) (Nat.le_refl _) ?_; intro w2 hown2 hgrow2))
  have HB2 : Hid (Below w.heap.size w w2) := (Below.refl _ _).grown hgrow2 (Nat.le_refl _) (by simp)
  have HO2 : Hid (w2.ownsRow w.heap.size 3 1 (.slice (some ⟨w.heap.size, 0, none⟩) 0 (pc s)) ([] : List Nat).length (natVals [])) := hown2
  have hpl := pts_len s 10
  clear hown2 hgrow2
  obtain ⟨P, HPP⟩ : ∃ P, Hid (P = pts s 10) := ⟨_, rfl⟩
  rw [← HPP.out] at hpl
  go_loopw [0, 3] (fun c v wx => ∃ (d : Nat) (L : List Nat), d < 1024 ∧ c = .int .i64 d ∧ Hid (P = L ++ pts d 10) ∧ wx.ownsRow w.heap.size 3 1 v L.length (natVals L) ∧ Hid (Below w.heap.size w wx)) (fun c _ _ => (intOf c).toNat)
  case atStart => exact ⟨s, [], hs, rfl, HPP.out, HO2.out, HB2.out⟩
  case round =>
    clear HO2 HB2
    obtain ⟨d, L, hd, rfl, HP, hown, hB⟩ := hrel
    by_cases h0 : d = 0
    · subst h0
      have HPL : Hid (P = L) := by have := HP.out; rw [pts_zero, List.append_nil] at this; exact this
      have HF : Hid (NSl wr u3 (pts s 10) ∧ ∀ k, u3.ownBlock = some k → w.heap.size ≤ k) := by rw [← HPP.out, HPL.out]; exact ⟨owns_nats hown, owns_block hown⟩
      clear hown
      go_wp2_with fail
      go_ret
      exact ⟨⟨_, rfl, HF.out.1, HF.out.2⟩, hB.out⟩
    · have hne : ((d : Int) != 0) = true := by simp; omega
      have HPN : Hid (P = (L ++ [lo d]) ++ pts (d &&& (d - 1)) 10) := by
        have := HP.out
        rw [pts_lo hd h0] at this
        exact this.trans (by simp)
      have hLL : L.length < 10 := by
        have h1 : P.length = L.length + 1 + (pts (d &&& (d - 1)) 10).length := by
          have := congrArg List.length HPN.out
          rw [List.length_append, List.length_append] at this
          exact this
        omega
      have hlt := lo_lt hd h0
      have hT1 : Tab wr := HT.out.step hB.out
      have hsz := hB.out.size
      have hand : bits BinOp.and IntKind.i64 (d : Int) ((d : Int) - 1) = ((d &&& (d - 1) : Nat) : Int) := by
        rw [show ((d : Int) - 1) = ((d - 1 : Nat) : Int) by omega]; exact i64_and d (d - 1) (Nat.lt_trans hd (by decide)) (Nat.lt_of_le_of_lt (Nat.sub_le _ _) (Nat.lt_trans hd (by decide)))
      have hlo : lo d < 10 := (lo_is hd h0).2.2
      go_wp2_with (first | (go_at_call 60; refine (first_any d _ hd h0 hT1).mono ?_; rintro e w' ⟨rfl, rfl⟩) | (at_builtin; refine wpList_append_own _ rfl _ _ 22 rfl w.heap.size 3 i0 (.int .i64 0) 1 8 Tryd.underlying22 hi hz0 hz1 hz2 rfl (by decide) _ _ _ rfl (hown.alloc _) ⟨wr.heap.size, 0, none⟩ 1 1 [.int .i64 (lo d : Nat)] rfl rfl ?c1 ?c2 ?c3 ?c4 ?c5 ?_))
      case c1 =>
        intro j u hj
        match j, hj with
        | 0, hj => simp at hj; subst hj; simp [Addr.add]
      case c2 => intro u hu; simp at hu; subst hu; rfl
      case c3 => unfold maxLen; omega
      case c4 => omega
      case c5 => simp; omega
      intro v' w1 hown' hgrow _
      have HB5 : Hid (Below w.heap.size w w1) := below_append3 hB.out hown hgrow
      have HO5 : Hid (w1.ownsRow w.heap.size 3 1 v' (L ++ [lo d]).length (natVals (L ++ [lo d]))) := by
        rw [natVals_append, List.length_append]; exact hown'
      have hdl : d &&& (d - 1) < 1024 := by omega
      clear hown' hgrow hown hB hT1
      generalize d &&& (d - 1) = d' at *
      go_wp2_with fail
      go_roundw
      case rel => exact ⟨d', L ++ [lo d], hdl, rfl, HPN.out, HO5.out, HB5.out⟩
      case measure => simp [intOf]; omega

theorem Own.step {w w' : World} {b n : Nat} {g : Nat → Nat} (h : Own w b n g) (hB : Below w.heap.size w w') : Own w' b n g :=
  fun k hk => h.keep hB (h.lt hk) k hk
end Go.Proofs.YtfbdgdphpdhcpaaDoor
namespace Go.Proofs.YtfbdgdphpdhcpaaDoor
open Go.RowKit
set_option maxRecDepth 100000

theorem nanC_any (x : Int) (w : World) : Calls Tryd.prog 64 #[.int .i64 x] w fun e w' => e = .returned (.bool false) ∧ w = w' := by
  have h : (x != x) = false := by simp
  go_enter Tryd.func64, Tryd.ntmps64
  go_wp2
  go_ret
  exact ⟨by simp, rfl⟩
/-- Two numbers, compared. -/
def cmpI (x y : Nat) : Int := if x < y then -1 else if y < x then 1 else 0
theorem cmpC_any (x y : Nat) (w : World) : Calls Tryd.prog 58 #[.int .i64 (x : Nat), .int .i64 (y : Nat)] w fun e w' => e = .returned (.int .i64 (cmpI x y)) ∧ w = w' := by
  rcases Nat.lt_trichotomy x y with h | h | h
  · have e : cmpI x y = -1 := by simp [cmpI, h]
    have h' : (x : Int) < (y : Int) := by omega
    rw [e]
    go_enter Tryd.func58, Tryd.ntmps58
    go_wp2_with (go_at_call 64; refine (nanC_any _ _).mono ?_; rintro e w' ⟨rfl, rfl⟩)
    go_ret
    exact ⟨rfl, rfl⟩
  · subst h
    have e : cmpI x x = 0 := by simp [cmpI]
    have h' : ¬ (x : Int) < (x : Int) := by omega
    rw [e]
    go_enter Tryd.func58, Tryd.ntmps58
    go_wp2_with (go_at_call 64; refine (nanC_any _ _).mono ?_; rintro e w' ⟨rfl, rfl⟩)
    go_ret
    exact ⟨rfl, rfl⟩
  · have e : cmpI x y = 1 := by simp [cmpI, h]; omega
    have h1 : ¬ (x : Int) < (y : Int) := by omega
    have h' : (y : Int) < (x : Int) := by omega
    rw [e]
    go_enter Tryd.func58, Tryd.ntmps58
    go_wp2_with (go_at_call 64; refine (nanC_any _ _).mono ?_; rintro e w' ⟨rfl, rfl⟩)
    go_ret
    exact ⟨rfl, rfl⟩
/-- Two lists from place k on, compared. -/
def cmpF (f g : Nat → Nat) : Nat → Nat → Int
  | 0, _ => 0
  | n + 1, k => if f k = g k then cmpF f g n (k + 1) else cmpI (f k) (g k)
set_option maxHeartbeats 1000000 in
theorem compare_any (q : Nat) (a b : Option Addr) (ca cb : Nat) (f g : Nat → Nat) (w : World) (h40 : q ≤ 40) (ha : Row w a q (fun k => (f k : Nat))) (hb : Row w b q (fun k => (g k : Nat))) :
    Calls Tryd.prog 43 #[.slice a q ca, .slice b q cb] w fun e w' => e = .returned (.int .i64 (cmpF f g q 0)) ∧ w = w' := by
  have HA : Hid (Row w a q (fun k => (f k : Nat))) := ha
  have HB : Hid (Row w b q (fun k => (g k : Nat))) := hb
  clear ha hb
  go_enter Tryd.func43, Tryd.ntmps43
  go_wp2_with fail
  go_loop [11] (fun t => ∃ k : Nat, k ≤ q ∧ t = .int .i64 k ∧ Hid (cmpF f g q 0 = cmpF f g (q - k) k)) (fun t => q - (intOf t).toNat)
  case atStart => exact ⟨0, Nat.zero_le _, rfl, rfl⟩
  case round =>
    obtain ⟨k, hk, rfl, HE⟩ := hrel
    by_cases hlt : k < q
    · have hlt' : (k : Int) < (q : Int) := by omega
      have hge : ¬ ((q : Int) ≤ (k : Int)) := by omega
      obtain ⟨ba, oa, rfl, e1'⟩ := HA.out k hlt
      obtain ⟨bb, ob, rfl, e2'⟩ := HB.out k hlt
      have e1 : w.cell? ⟨ba, oa + k, none⟩ = some (.int .i64 (f k : Nat)) := e1'
      have e2 : w.cell? ⟨bb, ob + k, none⟩ = some (.int .i64 (g k : Nat)) := e2'
      clear e1' e2'
      have HS : Hid (cmpF f g (q - k) k = if f k = g k then cmpF f g (q - (k + 1)) (k + 1) else cmpI (f k) (g k)) := by
        rw [show q - k = (q - (k + 1)) + 1 by omega]; rfl
      generalize hx : f k = x at e1
      generalize hy : g k = y at e2
      rw [hx, hy] at HS
      by_cases e : x = y
      · subst e
        have hcc := cmpC_any x x w
        rw [show cmpI x x = 0 by simp [cmpI]] at hcc
        have HCC := (show Hid _ from hcc)
        clear hcc
        have HS2 : Hid (cmpF f g q 0 = cmpF f g (q - (k + 1)) (k + 1)) := HE.out.trans (HS.out.trans (if_pos rfl))
        clear HS HE hx hy
        go_wp2_with (go_at_call 58; refine Calls.mono HCC.out ?_; rintro e w' ⟨rfl, rfl⟩)
        go_round
        case rel => exact ⟨k + 1, by omega, by go_num, HS2⟩
        case measure => simp [intOf]; omega
      · have hne : (cmpI x y != 0) = true := by
          unfold cmpI
          rcases Nat.lt_or_ge x y with h | h
          · simp [h]
          · simp [show ¬ x < y by omega, show y < x by omega]
        have HS2 : Hid (cmpF f g q 0 = cmpI x y) := HE.out.trans (HS.out.trans (if_neg e))
        clear HS HE hx hy
        have HCC := (show Hid _ from cmpC_any x y w)
        generalize cmpI x y = c at HS2 hne HCC
        go_wp2_with (go_at_call 58; refine Calls.mono HCC.out ?_; rintro e w' ⟨rfl, rfl⟩)
        go_ret
        exact ⟨by rw [HS2.out]; rfl, rfl⟩
    · obtain rfl : k = q := by omega
      have hno : ¬ ((k : Int) < (k : Int)) := by omega
      have HF : Hid (cmpF f g k 0 = 0) := by rw [HE.out, Nat.sub_self]; rfl
      go_wp2_with fail
      go_ret
      exact ⟨by rw [HF.out]; rfl, rfl⟩
end Go.Proofs.YtfbdgdphpdhcpaaDoor
namespace Go.Proofs.YtfbdgdphpdhcpaaDoor
open Go.RowKit

theorem lackB : ((List.range 1024).all fun s => (List.range 10).all fun x => !s.testBit x || (decide (lack s (pw x) < 1024) && decide (pc (lack s (pw x)) + 1 = pc s))) = true := by decide +kernel
theorem lack_pc {s x : Nat} (hs : s < 1024) (hx : x < 10) (h : s.testBit x = true) : lack s (pw x) < 1024 ∧ pc (lack s (pw x)) + 1 = pc s := by
  have := List.all_eq_true.1 (List.all_eq_true.1 lackB s (List.mem_range.2 hs)) x (List.mem_range.2 hx)
  simpa [h] using this
theorem pcZ : ((List.range 1024).all fun s => (pc s == 0) == (s == 0)) = true := by decide +kernel
theorem pc_zero {s : Nat} (hs : s < 1024) : pc s = 0 ↔ s = 0 := by
  have := List.all_eq_true.1 pcZ s (List.mem_range.2 hs)
  rw [beq_iff_eq, Bool.eq_iff_iff] at this
  simpa using this
theorem pts_bit {s : Nat} : ∀ n x, x ∈ pts s n → s.testBit x = true
  | 0, x, h => by simp [pts] at h
  | n + 1, x, h => by
    cases hb : s.testBit n
    · rw [pts_no hb] at h; exact pts_bit n x h
    · rw [pts_yes hb, List.mem_append] at h
      rcases h with h | h
      · exact pts_bit n x h
      · simp at h; rw [h]; exact hb
/-- All lists that begin so, and go on with d points of a set. -/
def per : Nat → List Nat → Nat → List (List Nat)
  | 0, p, _ => [p]
  | d + 1, p, s => (pts s 10).flatMap fun x => per d (p ++ [x]) (lack s (pw x))
def perTo (d : Nat) (p : List Nat) (s : Nat) (L : List Nat) : List (List Nat) := L.flatMap fun x => per d (p ++ [x]) (lack s (pw x))
theorem perTo_snoc (d : Nat) (p : List Nat) (s : Nat) (L : List Nat) (x : Nat) : perTo d p s (L ++ [x]) = perTo d p s L ++ per d (p ++ [x]) (lack s (pw x)) := by simp [perTo, List.flatMap_append]
theorem perTo_all (d : Nat) (p : List Nat) (s : Nat) : perTo d p s (pts s 10) = per (d + 1) p s := rfl
theorem per_sub {d : Nat} {p : List Nat} {s x : Nat} (hx : x ∈ pts s 10) {y : List Nat} (hy : y ∈ per d (p ++ [x]) (lack s (pw x))) : y ∈ per (d + 1) p s := by
  rw [per, List.mem_flatMap]; exact ⟨x, hx, hy⟩
theorem take_nth {L : List Nat} {j : Nat} (h : j < L.length) : L.take (j + 1) = L.take j ++ [nth L j] := by
  rw [List.take_add_one]
  congr 1
  unfold nth
  rw [List.getD_eq_getElem?_getD, List.getElem?_eq_getElem h]; rfl
theorem nth_mem' {L : List Nat} {j : Nat} (h : j < L.length) : nth L j ∈ L := by
  unfold nth
  rw [List.getD_eq_getElem?_getD, List.getElem?_eq_getElem h]
  exact List.getElem_mem h
theorem perTo_le (d : Nat) (p : List Nat) (s : Nat) (L : List Nat) (j : Nat) : (perTo d p s (L.take j)).length ≤ (perTo d p s L).length := by
  have h : perTo d p s L = perTo d p s (L.take j) ++ perTo d p s (L.drop j) := by unfold perTo; rw [← List.flatMap_append, List.take_append_drop]
  rw [h, List.length_append]; omega
end Go.Proofs.YtfbdgdphpdhcpaaDoor
