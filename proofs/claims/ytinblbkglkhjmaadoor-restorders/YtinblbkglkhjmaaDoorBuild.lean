/-
  What the reference's Same answers; that hasselaw.orderBegun answers true. Conditions: slices read as slices of numbers.
  What the reference's SameOrder and hasselaw.given answer. Conditions: slices read as slices of numbers.
  Sets by a test on their points; what order.turn and order.bare answer. Conditions: at most ten sets of so many points.
  How the reference's OrderOf builds a slice in a struct of its own: what holds of it from round to round. No condition.
-/
import Derived.Test.YtinblbkglkhjmaaDoorMake
namespace Go.Proofs.YtinblbkglkhjmaaDoor
open Go.RowKit

theorem Row.drewN {w : World} {a : Option Addr} {len : Nat} {f : Nat → Int} (h : Row w a len f) (m : Nat) : Row (w.drewN m) a len f := h

def SameRows (la lb : Nat) (f g : Nat → Int) : Prop := la = lb ∧ ∀ k, k < la → f k = g k
theorem same_any (a b : Option Addr) (la ca lb cb : Nat) (f g : Nat → Int) (w : World) (hl : la ≤ maxLen) (hl2 : lb ≤ maxLen) (ha : Row w a la f) (hb : Row w b lb g) :
    Calls Tryd.prog 17 #[.slice a la ca, .slice b lb cb] w fun e w' => Ans e (SameRows la lb f g) ∧ Below w.heap.size w w' := by
  unfold maxLen at hl hl2
  by_cases hlen : la = lb
  · subst hlen
    have HA := (show Hid _ from ha); have HB := (show Hid _ from hb); clear ha hb
    go_enter Tryd.func17, Tryd.ntmps17
    go_wp2
    go_loopw [5] (fun i wx => ∃ k : Nat, k ≤ la ∧ i = .int .i64 k ∧ Hid (∀ j, j < k → f j = g j) ∧ Row wx a la f ∧ Row wx b la g ∧ Hid (Below w.heap.size w wx)) (fun i _ => la - (intOf i).toNat)
    case atStart => exact ⟨0, Nat.zero_le _, rfl, upto_zero, HA.out, HB.out, Below.refl _ _⟩
    case round =>
      obtain ⟨k, hk, rfl, hok, hA, hB, hW⟩ := hrel
      clear HA HB
      by_cases hlt : k < la
      · obtain ⟨b1, o1, rfl, hc1⟩ := hA.at hlt
        obtain ⟨b2, o2, rfl, hc2⟩ := hB.at hlt
        have d1 := hc1 k hlt
        have d2 := hc2 k hlt
        clear hc1 hc2
        have hlt' : (k : Int) < (la : Int) := by omega
        by_cases he : f k = g k
        · have hne : (f k != g k) = false := by simpa using he
          have HE := (show Hid _ from he); clear he
          go_wp2
          go_quiet (fail)
          go_wp2
          go_roundw
          case rel => exact ⟨k + 1, by omega, by go_num, upto_succ hok.out HE.out, hA, hB, below_drewN hW.out _⟩
          case measure => simp [intOf]; omega
        · have hne : (f k != g k) = true := by simpa using he
          go_wp2
          go_quiet (fail)
          go_wp2
          go_ret
          exact ⟨Ans.no (fun h => he (h.2 k hlt)), below_drewN hW.out _⟩
      · have hkn : k = la := by omega
        subst hkn
        go_wp2
        go_ret
        exact ⟨Ans.yes ⟨rfl, hok.out⟩, hW.out⟩
  · have hne : ((la : Int) != (lb : Int)) = true := by simp; omega
    clear ha hb
    go_enter Tryd.func17, Tryd.ntmps17
    go_wp2
    go_ret
    exact ⟨Ans.no (fun h => hlen h.1), Below.refl _ _⟩

def pBegun (k : Nat) : Int × Int := if k = 0 then (0, 1) else (1, 2)
def gBegun (k : Nat) : Nat := if k = 0 then 0 else if k = 1 then 1 else 3
theorem begun_sets : ∀ k, k < 3 → reachOut (mk pBegun 2) 3 3 k = gBegun k := by decide +kernel
theorem begun_ord : Ord 3 (reachOut (mk pBegun 2) 3 3) := by
  unfold Ord OrdAt; decide +kernel
theorem begun_pin : ∀ k, k < 2 → PIn ((3 : Nat) : Int) pBegun k := by
  unfold PIn; decide +kernel
theorem begun_mk {c : Int} (h : Mk 3 2 pBegun c) : c = 0 := by
  rcases h with ⟨_, h⟩ | ⟨m, hm, _, ⟨_, h⟩ | ⟨_, ⟨_, h⟩ | ⟨h, _⟩⟩⟩
  · exact absurd ⟨by decide, by decide⟩ h
  · have : m = 3 := by omega
    subst this; exact absurd begun_pin h
  · have : m = 3 := by omega
    subst this; exact absurd begun_ord h
  · exact h

end Go.Proofs.YtinblbkglkhjmaaDoor
namespace Go.Proofs.YtinblbkglkhjmaaDoor
open Go.RowKit

def SameOrders (n n' : Int) (la lb : Nat) (f g : Nat → Int) : Prop := n = n' ∧ SameRows la lb f g
theorem sameOrder_any (n n' : Int) (a b : Option Addr) (la ca lb cb : Nat) (f g : Nat → Int) (w : World) (hl : la ≤ maxLen) (hl2 : lb ≤ maxLen) (ha : Row w a la f) (hb : Row w b lb g) :
    Calls Tryd.prog 14 #[.agg #[.int .i64 n, .slice a la ca], .agg #[.int .i64 n', .slice b lb cb]] w fun e w' => Ans e (SameOrders n n' la lb f g) ∧ Below w.heap.size w w' := by
  have HB2 : Hid (Below w.heap.size w ((w.alloc (.cells #[.int .i64 n, .slice a la ca] 24)).alloc (.cells #[.int .i64 n', .slice b lb cb] 24))) := ((Below.refl _ _).alloc (Nat.le_refl _) _).alloc (by simp) _
  have HA : Hid (Row w a la f) := ha
  have HB : Hid (Row w b lb g) := hb
  clear ha hb
  by_cases hn : n = n'
  · subst hn
    go_enter Tryd.func14, Tryd.ntmps14
    go_wp2_with fail
    refine (same_any a b la ca lb cb f g _ hl hl2 (HA.out.below HB2.out) (HB.out.below HB2.out)).mono ?_
    rintro e w1 ⟨⟨b, rfl, hb⟩, hB⟩
    have HBE : Hid (Below w.heap.size w w1) := Below.then HB2.out hB
    have HY : Hid (b = true ↔ SameRows la lb f g) := hb
    clear hB hb HB2
    go_wp2_with fail
    go_ret
    exact ⟨⟨_, rfl, HY.out.trans ⟨fun h => ⟨rfl, h⟩, fun h => h.2⟩⟩, HBE.out⟩
  · have hd : (n == n') = false := by simpa using hn
    have HN : Hid (¬ n = n') := hn
    clear hn
    go_enter Tryd.func14, Tryd.ntmps14
    go_wp2_with fail
    go_ret
    exact ⟨Ans.no (fun h => HN.out h.1), HB2.out⟩

/-- What a call answers that hands back an order and an errno. -/
def OrdErr (c : Int) (n : Int) (len : Nat) (F : Nat → Int) (x : Value) (w : World) : Prop :=
  (c ≠ 0 ∧ x = noOrder) ∨ (c = 0 ∧ ∃ a cap, x = .agg #[.int .i64 n, .slice a len cap] ∧ Row w a len F)
theorem OrdErr.step {c n : Int} {len : Nat} {F : Nat → Int} {x : Value} {w w' : World} (h : OrdErr c n len F x w) (hb : Below w.heap.size w w') : OrdErr c n len F x w' := by
  rcases h with h | ⟨h0, a, cap, hx, hr⟩
  · exact .inl h
  · exact .inr ⟨h0, a, cap, hx, hr.below hb⟩

end Go.Proofs.YtinblbkglkhjmaaDoor
namespace Go.Proofs.YtinblbkglkhjmaaDoor
open Go.RowKit

/-- The set of those of the first k points that P lets by. -/
def setBy (P : Nat → Bool) : Nat → Nat
  | 0 => 0
  | k + 1 => if P k = true then setBy P k + pw k else setBy P k
theorem setBy_yes {P : Nat → Bool} {k : Nat} (h : P k = true) : setBy P (k + 1) = setBy P k + pw k := by simp [setBy, h]
theorem setBy_no {P : Nat → Bool} {k : Nat} (h : P k = false) : setBy P (k + 1) = setBy P k := by simp [setBy, h]
theorem setBy_lt (P : Nat → Bool) : ∀ k, setBy P k < pw k
  | 0 => by simp [setBy, pw]
  | k + 1 => by
    have := setBy_lt P k
    rw [pw_succ]
    cases h : P k
    · rw [setBy_no h]; omega
    · rw [setBy_yes h]; omega
theorem setBy_congr {P Q : Nat → Bool} : ∀ k, (∀ i, i < k → P i = Q i) → setBy P k = setBy Q k
  | 0, _ => rfl
  | k + 1, h => by
    have ih := setBy_congr k (fun i hi => h i (by omega))
    have hk := h k (by omega)
    simp only [setBy, hk, ih]
theorem or_pw_add {x k : Nat} (h : x < pw k) : x ||| pw k = x + pw k := by
  have e := Nat.two_pow_add_eq_or_of_lt (show x < 2 ^ k from h) 1
  rw [Nat.mul_one] at e
  show x ||| 2 ^ k = x + 2 ^ k
  rw [Nat.or_comm, ← e]; omega
theorem pw_bit (k i : Nat) : (pw k).testBit i = decide (k = i) := Nat.testBit_two_pow
theorem setBy_bit (P : Nat → Bool) : ∀ k i, (setBy P k).testBit i = (decide (i < k) && P i)
  | 0, i => by simp [setBy]
  | k + 1, i => by
    have ih := setBy_bit P k i
    cases h : P k
    · rw [setBy_no h, ih]
      by_cases e : i = k
      · subst e; simp [h]
      · have : decide (i < k + 1) = decide (i < k) := by simp; omega
        rw [this]
    · rw [setBy_yes h, ← or_pw_add (setBy_lt P k), Nat.testBit_or, ih, pw_bit]
      by_cases e : i = k
      · subst e; simp [h]
      · have : decide (i < k + 1) = decide (i < k) := by simp; omega
        rw [this]
        have : decide (k = i) = false := by simp; omega
        simp [this]
theorem eq_of_bits {x y n : Nat} (hx : x < pw n) (hy : y < pw n) (h : ∀ i, i < n → x.testBit i = y.testBit i) : x = y := by
  apply Nat.eq_of_testBit_eq
  intro i
  by_cases hi : i < n
  · exact h i hi
  · have h1 : x.testBit i = false := by
      cases e : x.testBit i
      · rfl
      · exact absurd (bit_of_lt hx e) hi
    have h2 : y.testBit i = false := by
      cases e : y.testBit i
      · rfl
      · exact absurd (bit_of_lt hy e) hi
    rw [h1, h2]

/-- Those of the first u points above l. -/
def trn (g : Nat → Nat) (u l : Nat) : Nat := setBy (fun x => (g x).testBit l) u
def mix (g : Nat → Nat) (u k l : Nat) : Nat := if l < k then trn g (u + 1) l else trn g u l
theorem mix_zero (g : Nat → Nat) (u : Nat) : mix g u 0 = trn g u := by funext l; simp [mix]
theorem mix_same (g : Nat → Nat) (u k : Nat) : mix g u k k = trn g u k := by simp [mix]
theorem mix_yes {g : Nat → Nat} {u k : Nat} (h : (g u).testBit k = true) : mix g u (k + 1) = upd (mix g u k) k (trn g u k ||| pw u) := by
  funext l
  by_cases e : l = k
  · subst e
    rw [upd_same, or_pw_add (show trn g u l < pw u from setBy_lt _ u)]
    simp only [mix, Nat.lt_succ_self, if_true]
    exact setBy_yes h
  · rw [upd_other _ _ _ _ e]
    have : (l < k + 1) = (l < k) := by simp; omega
    simp only [mix, this]
theorem mix_no {g : Nat → Nat} {u k : Nat} (h : (g u).testBit k = false) : mix g u (k + 1) = mix g u k := by
  funext l
  by_cases e : l = k
  · subst e
    simp only [mix, Nat.lt_succ_self, if_true, Nat.lt_irrefl, if_false]
    exact setBy_no h
  · have : (l < k + 1) = (l < k) := by simp; omega
    simp only [mix, this]
theorem Own.congr {w : World} {b n : Nat} {g h : Nat → Nat} (ho : Own w b n g) (e : ∀ k, k < n → g k = h k) : Own w b n h :=
  fun k hk => by rw [← e k hk]; exact ho k hk
theorem trn_small (g : Nat → Nat) (u l m : Nat) (h : u ≤ m) : trn g u l < pw m := Nat.lt_of_lt_of_le (setBy_lt _ u) (Nat.pow_le_pow_right (by decide) h)

end Go.Proofs.YtinblbkglkhjmaaDoor
namespace Go.Proofs.YtinblbkglkhjmaaDoor
open Go.RowKit

def rowVals (F : Nat → Nat) (n : Nat) : List Value := (List.range n).map fun y => .int .i64 (F y : Nat)
theorem rowVals_succ (F : Nat → Nat) (n : Nat) : rowVals F (n + 1) = rowVals F n ++ [.int .i64 (F n : Nat)] := by simp [rowVals, List.range_succ]
theorem rowVals_at (F : Nat → Nat) (n k : Nat) (h : k < n) : (rowVals F n)[k]? = some (.int .i64 (F k : Nat)) := by simp [rowVals, h]
theorem owns_below {w w' : World} {base size n : Nat} {e : TypeId} {v : Value} {xs : List Value} (h : w.ownsRow base e size v n xs) (hb : Below w.heap.size w w') : w'.ownsRow base e size v n xs := by
  refine ⟨h.1, ?_⟩
  rcases h.2 with h2 | ⟨g, cap, cur, hv, hg, hh, r⟩
  · exact Or.inl h2
  · have hlt : g < w.heap.size := by
      rcases Nat.lt_or_ge g w.heap.size with h' | h'
      · exact h'
      · rw [Array.getElem?_eq_none h'] at hh; cases hh
    exact Or.inr ⟨g, cap, cur, hv, hg, by rw [hb.block g hlt]; exact hh, r⟩
theorem owns_block {w : World} {base size n : Nat} {e : TypeId} {v : Value} {xs : List Value} (h : w.ownsRow base e size v n xs) : ∀ k, v.ownBlock = some k → base ≤ k := by
  intro k hk
  rcases h.2 with ⟨rfl, _⟩ | ⟨g, cap, cur, rfl, hg, _⟩
  · cases hk
  · simp [Value.ownBlock] at hk; omega
theorem owns_form {w : World} {base size n : Nat} {e : TypeId} {v : Value} {xs : List Value} (h : w.ownsRow base e size v n xs) (hn : 0 < n) : ∃ g cap, v = .slice (some ⟨g, 0, none⟩) n cap := by
  rcases h.2 with ⟨_, h0⟩ | ⟨g, cap, _, hv, _⟩
  · omega
  · exact ⟨g, cap, hv⟩
theorem owns_row {w : World} {base n : Nat} {v : Value} {F : Nat → Nat} (h : w.ownsRow base 3 1 v n (rowVals F n)) : ∃ a cap, v = .slice a n cap ∧ Row w a n (fun k => (F k : Nat)) := by
  by_cases hn : 0 < n
  · obtain ⟨g, cap, rfl⟩ := owns_form h hn
    refine ⟨some ⟨g, 0, none⟩, cap, rfl, fun k hk => ⟨g, 0, rfl, ?_⟩⟩
    rw [Nat.zero_add, h.cellAt k (by omega), rowVals_at F n k hk]
  · obtain rfl : n = 0 := by omega
    rcases h.2 with ⟨rfl, _⟩ | ⟨g, cap, cur, rfl, _⟩
    · exact ⟨none, 0, rfl, fun k hk => absurd hk (Nat.not_lt_zero _)⟩
    · exact ⟨_, cap, rfl, fun k hk => absurd hk (Nat.not_lt_zero _)⟩

/-- After y rounds: the order that is built lies in block w.heap.size + 1, its slice is v. -/
def Building (w wx : World) (n y : Nat) (F : Nat → Nat) (v : Value) : Prop :=
  wx.cell? ⟨w.heap.size + 1, 0, none⟩ = some (.int .i64 (n : Int)) ∧ wx.cell? ⟨w.heap.size + 1, 1, none⟩ = some v ∧ wx.frozen? ⟨w.heap.size + 1, 1, none⟩ = false ∧
  wx.ownsRow (w.heap.size + 2) 3 1 v y (rowVals F y) ∧ Below (w.heap.size + 1) (w.alloc (.cells #[.int .i64 0, .slice none 0 0] 24)) wx
theorem Building.c0 {w wx : World} {n y : Nat} {F : Nat → Nat} {v : Value} (h : Building w wx n y F v) : wx.cell? ⟨w.heap.size + 1, 0, none⟩ = some (.int .i64 (n : Int)) := h.1
theorem Building.c1 {w wx : World} {n y : Nat} {F : Nat → Nat} {v : Value} (h : Building w wx n y F v) : wx.cell? ⟨w.heap.size + 1, 1, none⟩ = some v := h.2.1
theorem Building.f1 {w wx : World} {n y : Nat} {F : Nat → Nat} {v : Value} (h : Building w wx n y F v) : wx.frozen? ⟨w.heap.size + 1, 1, none⟩ = false := h.2.2.1
theorem Building.own {w wx : World} {n y : Nat} {F : Nat → Nat} {v : Value} (h : Building w wx n y F v) : wx.ownsRow (w.heap.size + 2) 3 1 v y (rowVals F y) := h.2.2.2.1
theorem Building.below {w wx : World} {n y : Nat} {F : Nat → Nat} {v : Value} (h : Building w wx n y F v) : Below (w.heap.size + 1) (w.alloc (.cells #[.int .i64 0, .slice none 0 0] 24)) wx := h.2.2.2.2
theorem Building.size {w wx : World} {n y : Nat} {F : Nat → Nat} {v : Value} (h : Building w wx n y F v) : w.heap.size + 2 ≤ wx.heap.size := World.block_lt_of_cell? _ _ h.1
theorem Building.start (w : World) (n : Nat) (F : Nat → Nat) : Building w ((w.alloc (.cells #[.int .i64 0, .slice none 0 0] 24)).alloc (.cells #[.int .i64 (n : Int), .slice none 0 0] 24)) n 0 F (.slice none 0 0) :=
  ⟨by simp, by simp, (World.frozen?_alloc_at _ _ _ _ (by simp)), World.ownsRow_nil _ _ _ _, (Below.refl _ _).alloc (by simp) _⟩
theorem Building.step {w wx w' : World} {n y : Nat} {F : Nat → Nat} {v : Value} (h : Building w wx n y F v) (hb : Below wx.heap.size wx w') : Building w w' n y F v := by
  have hs := h.size
  obtain ⟨h1, h2, h3, h4, h5⟩ := h
  exact ⟨(hb.cell (p := ⟨w.heap.size + 1, 0, none⟩) hs).trans h1, (hb.cell (p := ⟨w.heap.size + 1, 1, none⟩) hs).trans h2, (hb.frozen (p := ⟨w.heap.size + 1, 1, none⟩) hs).trans h3, owns_below h4 hb, h5.trans (hb.mono (by omega))⟩
/-- What append leaves, ahead of the store. -/
theorem Building.grown {w wx w1 : World} {o : Obj} {n y S : Nat} {F : Nat → Nat} {v v' : Value} (h : Building w wx n y F v) (hF : F y = S)
    (hown : w1.ownsRow (w.heap.size + 2) 3 1 v' (y + 1) (rowVals F y ++ [.int .i64 (S : Nat)])) (hg : (wx.alloc o).grownBy w1 v.ownBlock) :
    w1.cell? ⟨w.heap.size + 1, 1, none⟩ = some v ∧ w1.frozen? ⟨w.heap.size + 1, 1, none⟩ = false ∧ Building w (w1.setCell ⟨w.heap.size + 1, 1, none⟩ v') n (y + 1) F v' := by
  have hs := h.size
  have h' := h.step ((Below.refl _ _).alloc (Nat.le_refl _) o)
  have hb : Below (w.heap.size + 2) (wx.alloc o) w1 := (Below.refl _ _).grown hg (by simp; omega) (owns_block h.own)
  obtain ⟨h1, h2, h3, h4, h5⟩ := h'
  have c0 := (hb.cell (p := ⟨w.heap.size + 1, 0, none⟩) (by simp)).trans h1
  have c1 := (hb.cell (p := ⟨w.heap.size + 1, 1, none⟩) (by simp)).trans h2
  have f1 := (hb.frozen (p := ⟨w.heap.size + 1, 1, none⟩) (by simp)).trans h3
  refine ⟨c1, f1, ?_, World.cell?_setCell_same _ _ _ c1, by rw [World.frozen?_setCell]; exact f1, ?_, ?_⟩
  · rw [World.cell?_setCell_other _ _ _ _ (fun e => by injection e with _ e2; cases e2)]; exact c0
  · rw [rowVals_succ, hF]; exact ownsRow_setCell_below hown (by simp) _
  · exact (h5.trans (hb.mono (by omega))).setCell (p := ⟨w.heap.size + 1, 1, none⟩) (Nat.le_refl _) _
/-- A slice of n elements lies in a block from B on. -/
def Fresh (B : Nat) (a : Option Addr) (n : Nat) : Prop := 0 < n → ∃ b off, a = some ⟨b, off, none⟩ ∧ B ≤ b
theorem Fresh.mono {B B' : Nat} {a : Option Addr} {n : Nat} (h : Fresh B a n) (hb : B' ≤ B) : Fresh B' a n := fun hn => by
  obtain ⟨b, off, e, hl⟩ := h hn
  exact ⟨b, off, e, by omega⟩
theorem row_set2 {X : World} {B : Nat} {a : Option Addr} {n : Nat} {f : Nat → Int} {u v : Value} (h : Row X a n f) (hb : Fresh (B + 1) a n) :
    Row ((X.setCell ⟨B, 0, none⟩ u).setCell ⟨B, 1, none⟩ v) a n f := by
  intro k hk
  obtain ⟨b, off, rfl, hc⟩ := h k hk
  obtain ⟨b', off', e, hlt⟩ := hb (by omega)
  simp at e
  obtain ⟨rfl, rfl⟩ := e
  refine ⟨b, off, rfl, ?_⟩
  rw [World.cell?_setCell_other _ _ _ _ (fun e => by injection e with e1; omega), World.cell?_setCell_other _ _ _ _ (fun e => by injection e with e1; omega)]
  exact hc
/-- An order's box at block B that holds the zero order. -/
def ZBox (X : World) (B : Nat) : Prop := X.cell? ⟨B, 0, none⟩ = some (.int .i64 0) ∧ X.cell? ⟨B, 1, none⟩ = some (.slice none 0 0) ∧ X.frozen? ⟨B, 0, none⟩ = false ∧ X.frozen? ⟨B, 1, none⟩ = false
theorem ZBox.new (w : World) : ZBox (w.alloc (.cells #[.int .i64 0, .slice none 0 0] 24)) w.heap.size :=
  ⟨by simp, by simp, World.frozen?_alloc_at _ _ _ _ rfl, World.frozen?_alloc_at _ _ _ _ rfl⟩
theorem ZBox.step {X X' : World} {B : Nat} (h : ZBox X B) (hb : Below X.heap.size X X') : ZBox X' B := by
  have hlt : B < X.heap.size := World.block_lt_of_cell? _ _ h.1
  obtain ⟨h1, h2, h3, h4⟩ := h
  exact ⟨(hb.cell (p := ⟨B, 0, none⟩) hlt).trans h1, (hb.cell (p := ⟨B, 1, none⟩) hlt).trans h2, (hb.frozen (p := ⟨B, 0, none⟩) hlt).trans h3, (hb.frozen (p := ⟨B, 1, none⟩) hlt).trans h4⟩
theorem set2B {w X : World} {B : Nat} {u v : Value} (h : Below w.heap.size w X) (hB : w.heap.size ≤ B) : Below w.heap.size w ((X.setCell ⟨B, 0, none⟩ u).setCell ⟨B, 1, none⟩ v) :=
  (h.setCell (p := ⟨B, 0, none⟩) hB _).setCell (p := ⟨B, 1, none⟩) hB _
def OrderPost (w : World) (n : Nat) (F : Nat → Nat) (e : Ending) (w' : World) : Prop := ∃ a cap, e = .returned (.agg #[.int .i64 (n : Int), .slice a n cap]) ∧ Row w' a n (fun k => (F k : Nat)) ∧ Fresh w.heap.size a n
end Go.Proofs.YtinblbkglkhjmaaDoor
