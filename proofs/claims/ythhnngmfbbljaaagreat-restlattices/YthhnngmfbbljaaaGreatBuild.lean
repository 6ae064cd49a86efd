/-
  What the reference's Same answers; that hasselaw.orderBegun answers true. Conditions: slices read as slices of numbers.
  For every order that is handed in, hasselaw.OrderChecks returns true, and writes nothing that was there. No condition.
  What a good order gives. No condition.
  How the reference's OrderOf builds a slice in a struct of its own: what holds of it from round to round. No condition.
-/
import Derived.Test.YthhnngmfbbljaaaGreatSets
import Derived.Deep.RegionHeld3
namespace Go.Proofs.YthhnngmfbbljaaaGreat
set_option maxRecDepth 100000
open Go.RowKit

theorem Row.drewN {w : World} {a : Option Addr} {len : Nat} {f : Nat → Int} (h : Row w a len f) (m : Nat) : Row (w.drewN m) a len f := h

def SameRows (la lb : Nat) (f g : Nat → Int) : Prop := la = lb ∧ ∀ k, k < la → f k = g k
theorem same_any (a b : Option Addr) (la ca lb cb : Nat) (f g : Nat → Int) (w : World) (hl : la ≤ maxLen) (hl2 : lb ≤ maxLen) (ha : Row w a la f) (hb : Row w b lb g) :
    Calls Tryz.prog 25 #[.slice a la ca, .slice b lb cb] w fun e w' => Ans e (SameRows la lb f g) ∧ Below w.heap.size w w' := by
  unfold maxLen at hl hl2
  by_cases hlen : la = lb
  · subst hlen
    have HA := (show Hid _ from ha); have HB := (show Hid _ from hb); clear ha hb
    go_enter Tryz.func25, Tryz.ntmps25
    go_wp2
    go_loopw [5] (fun i wx => ∃ k : Nat, k ≤ la ∧ i = .int .i64 k ∧ Hid (∀ j, j < k → f j = g j) ∧ Row wx a la f ∧ Row wx b la g ∧ Hid (Below w.heap.size w wx)) (fun i _ => la - (intOf i).toNat)
    case atStart => exact ⟨0, Nat.zero_le _, rfl, upto_zero, HA.out, HB.out, Below.refl _ _⟩
    case round =>
      obtain ⟨k, hk, rfl, hok, hA, hB, hW⟩ := hrel
      clear HA HB
      by_cases hlt : k < la
      · obtain ⟨b1, o1, rfl, hc1⟩ := hA.at hlt
        obtain ⟨b2, o2, rfl, hc2⟩ := hB.at hlt
        have d1 := hc1 k hlt
        have d2 := hc2 k hlt
        clear hc1 hc2
        have hlt' : (k : Int) < (la : Int) := by omega
        by_cases he : f k = g k
        · have hne : (f k != g k) = false := by simpa using he
          have HE := (show Hid _ from he); clear he
          go_wp2
          go_quiet (fail)
          go_wp2
          go_roundw
          case rel => exact ⟨k + 1, by omega, by go_num, upto_succ hok.out HE.out, hA, hB, below_drewN hW.out _⟩
          case measure => simp [intOf]; omega
        · have hne : (f k != g k) = true := by simpa using he
          go_wp2
          go_quiet (fail)
          go_wp2
          go_ret
          exact ⟨Ans.no (fun h => he (h.2 k hlt)), below_drewN hW.out _⟩
      · have hkn : k = la := by omega
        subst hkn
        go_wp2
        go_ret
        exact ⟨Ans.yes ⟨rfl, hok.out⟩, hW.out⟩
  · have hne : ((la : Int) != (lb : Int)) = true := by simp; omega
    clear ha hb
    go_enter Tryz.func25, Tryz.ntmps25
    go_wp2
    go_ret
    exact ⟨Ans.no (fun h => hlen h.1), Below.refl _ _⟩

def pBegun (k : Nat) : Int × Int := if k = 0 then (0, 1) else (1, 2)
def gBegun (k : Nat) : Nat := if k = 0 then 0 else if k = 1 then 1 else 3
theorem begun_sets : ∀ k, k < 3 → reachOut (mk pBegun 2) 3 3 k = gBegun k := by decide +kernel
theorem begun_ord : Ord 3 (reachOut (mk pBegun 2) 3 3) := by
  unfold Ord OrdAt; decide +kernel
theorem begun_pin : ∀ k, k < 2 → PIn ((3 : Nat) : Int) pBegun k := by
  unfold PIn; decide +kernel
theorem begun_mk {c : Int} (h : Mk 3 2 pBegun c) : c = 0 := by
  rcases h with ⟨_, h⟩ | ⟨m, hm, _, ⟨_, h⟩ | ⟨_, ⟨_, h⟩ | ⟨h, _⟩⟩⟩
  · exact absurd ⟨by decide, by decide⟩ h
  · have : m = 3 := by omega
    subst this; exact absurd begun_pin h
  · have : m = 3 := by omega
    subst this; exact absurd begun_ord h
  · exact h

end Go.Proofs.YthhnngmfbbljaaaGreat
namespace Go.Proofs.YthhnngmfbbljaaaGreat
set_option maxRecDepth 100000
open Go.RowKit

theorem kept_step {w0 w1 w2 : World} {n : Int} {a : Option Addr} {len cap : Nat} {f : Nat → Int}
    (h : w1.cell? ⟨w0.heap.size, 0, none⟩ = some (.int .i64 n) ∧ w1.cell? ⟨w0.heap.size, 1, none⟩ = some (.slice a len cap) ∧ Row w1 a len f ∧ Below w0.heap.size w0 w1)
    (hb : Below w1.heap.size w1 w2) :
    w2.cell? ⟨w0.heap.size, 0, none⟩ = some (.int .i64 n) ∧ w2.cell? ⟨w0.heap.size, 1, none⟩ = some (.slice a len cap) ∧ Row w2 a len f ∧ Below w0.heap.size w0 w2 := by
  obtain ⟨h1, h2, h3, h4⟩ := h
  obtain ⟨k1, k2, k3⟩ := Held.step ⟨h1, h2, h3⟩ hb
  exact ⟨k1, k2, k3, Below.then h4 hb⟩
theorem kept_row {w0 w1 : World} {n : Int} {a : Option Addr} {len cap : Nat} {f : Nat → Int}
    (h : w1.cell? ⟨w0.heap.size, 0, none⟩ = some (.int .i64 n) ∧ w1.cell? ⟨w0.heap.size, 1, none⟩ = some (.slice a len cap) ∧ Row w1 a len f ∧ Below w0.heap.size w0 w1) : Row w1 a len f := h.2.2.1
theorem kept_below {w0 w1 : World} {n : Int} {a : Option Addr} {len cap : Nat} {f : Nat → Int}
    (h : w1.cell? ⟨w0.heap.size, 0, none⟩ = some (.int .i64 n) ∧ w1.cell? ⟨w0.heap.size, 1, none⟩ = some (.slice a len cap) ∧ Row w1 a len f ∧ Below w0.heap.size w0 w1) : Below w0.heap.size w0 w1 := h.2.2.2
theorem kept_first {w0 : World} {n : Int} {a : Option Addr} {len cap : Nat} {f : Nat → Int} (hr : Row w0 a len f) :
    (w0.alloc (.cells #[.int .i64 n, .slice a len cap] 24)).drew.cell? ⟨w0.heap.size, 0, none⟩ = some (.int .i64 n) ∧ (w0.alloc (.cells #[.int .i64 n, .slice a len cap] 24)).drew.cell? ⟨w0.heap.size, 1, none⟩ = some (.slice a len cap) ∧ Row (w0.alloc (.cells #[.int .i64 n, .slice a len cap] 24)).drew a len f ∧ Below w0.heap.size w0 (w0.alloc (.cells #[.int .i64 n, .slice a len cap] 24)).drew := by
  obtain ⟨k1, k2, k3⟩ := Held.box (n := n) (cap := cap) hr
  exact ⟨k1, k2, k3, ((Below.refl _ _).alloc (Nat.le_refl _) _).drew⟩

end Go.Proofs.YthhnngmfbbljaaaGreat
namespace Go.Proofs.YthhnngmfbbljaaaGreat
set_option maxRecDepth 100000
open Go.RowKit

theorem Chk.good {n : Int} {len : Nat} {f : Nat → Int} (h : Chk n len f 0) : n = (len : Int) ∧ len ≤ 10 ∧ Rng len f ∧ Ord len (nat f) := by
  rcases h with ⟨h, _⟩ | ⟨m, hm, h10, ⟨h, _⟩ | ⟨rfl, ⟨h, _⟩ | ⟨hr, ⟨h, _⟩ | ⟨_, ho⟩⟩⟩⟩
  · cases h
  · cases h
  · cases h
  · cases h
  · exact ⟨hm, h10, hr, ho⟩
theorem Rng.row {w : World} {a : Option Addr} {len : Nat} {f : Nat → Int} (hr : Rng len f) (h : Row w a len f) : Row w a len (fun k => (nat f k : Nat)) := by
  intro j hj
  have := h j hj
  have e : f j = (nat f j : Nat) := by have := hr j hj; unfold nat; omega
  rw [e] at this
  exact this
theorem Rng.small {len : Nat} {f : Nat → Int} (hr : Rng len f) : ∀ k, k < len → nat f k < pw len := fun k hk => by
  have := hr k hk; unfold nat; omega
theorem Rng.small2 {len : Nat} {f : Nat → Int} (hr : Rng len f) (hl : len ≤ 10) : ∀ k, k < len → nat f k < 1024 := fun k hk =>
  Nat.lt_of_lt_of_le (hr.small k hk) (pw_le len hl)

end Go.Proofs.YthhnngmfbbljaaaGreat
namespace Go.Proofs.YthhnngmfbbljaaaGreat
set_option maxRecDepth 100000
open Go.RowKit

def rowVals (F : Nat → Nat) (n : Nat) : List Value := (List.range n).map fun y => .int .i64 (F y : Nat)
theorem rowVals_succ (F : Nat → Nat) (n : Nat) : rowVals F (n + 1) = rowVals F n ++ [.int .i64 (F n : Nat)] := by simp [rowVals, List.range_succ]
theorem rowVals_at (F : Nat → Nat) (n k : Nat) (h : k < n) : (rowVals F n)[k]? = some (.int .i64 (F k : Nat)) := by simp [rowVals, h]
theorem owns_below {w w' : World} {base size n : Nat} {e : TypeId} {v : Value} {xs : List Value} (h : w.ownsRow base e size v n xs) (hb : Below w.heap.size w w') : w'.ownsRow base e size v n xs := by
  refine ⟨h.1, ?_⟩
  rcases h.2 with h2 | ⟨g, cap, cur, hv, hg, hh, r⟩
  · exact Or.inl h2
  · have hlt : g < w.heap.size := by
      rcases Nat.lt_or_ge g w.heap.size with h' | h'
      · exact h'
      · rw [Array.getElem?_eq_none h'] at hh; cases hh
    exact Or.inr ⟨g, cap, cur, hv, hg, by rw [hb.block g hlt]; exact hh, r⟩
theorem owns_block {w : World} {base size n : Nat} {e : TypeId} {v : Value} {xs : List Value} (h : w.ownsRow base e size v n xs) : ∀ k, v.ownBlock = some k → base ≤ k := by
  intro k hk
  rcases h.2 with ⟨rfl, _⟩ | ⟨g, cap, cur, rfl, hg, _⟩
  · cases hk
  · simp [Value.ownBlock] at hk; omega
theorem owns_form {w : World} {base size n : Nat} {e : TypeId} {v : Value} {xs : List Value} (h : w.ownsRow base e size v n xs) (hn : 0 < n) : ∃ g cap, v = .slice (some ⟨g, 0, none⟩) n cap := by
  rcases h.2 with ⟨_, h0⟩ | ⟨g, cap, _, hv, _⟩
  · omega
  · exact ⟨g, cap, hv⟩
theorem owns_row {w : World} {base n : Nat} {v : Value} {F : Nat → Nat} (h : w.ownsRow base 3 1 v n (rowVals F n)) : ∃ a cap, v = .slice a n cap ∧ Row w a n (fun k => (F k : Nat)) := by
  by_cases hn : 0 < n
  · obtain ⟨g, cap, rfl⟩ := owns_form h hn
    refine ⟨some ⟨g, 0, none⟩, cap, rfl, fun k hk => ⟨g, 0, rfl, ?_⟩⟩
    rw [Nat.zero_add, h.cellAt k (by omega), rowVals_at F n k hk]
  · obtain rfl : n = 0 := by omega
    rcases h.2 with ⟨rfl, _⟩ | ⟨g, cap, cur, rfl, _⟩
    · exact ⟨none, 0, rfl, fun k hk => absurd hk (Nat.not_lt_zero _)⟩
    · exact ⟨_, cap, rfl, fun k hk => absurd hk (Nat.not_lt_zero _)⟩

/-- After y rounds: the order that is built lies in block w.heap.size + 1, its slice is v. -/
def Building (w wx : World) (n y : Nat) (F : Nat → Nat) (v : Value) : Prop :=
  wx.cell? ⟨w.heap.size + 1, 0, none⟩ = some (.int .i64 (n : Int)) ∧ wx.cell? ⟨w.heap.size + 1, 1, none⟩ = some v ∧ wx.frozen? ⟨w.heap.size + 1, 1, none⟩ = false ∧
  wx.ownsRow (w.heap.size + 2) 3 1 v y (rowVals F y) ∧ Below (w.heap.size + 1) (w.alloc (.cells #[.int .i64 0, .slice none 0 0] 24)) wx
theorem Building.c0 {w wx : World} {n y : Nat} {F : Nat → Nat} {v : Value} (h : Building w wx n y F v) : wx.cell? ⟨w.heap.size + 1, 0, none⟩ = some (.int .i64 (n : Int)) := h.1
theorem Building.c1 {w wx : World} {n y : Nat} {F : Nat → Nat} {v : Value} (h : Building w wx n y F v) : wx.cell? ⟨w.heap.size + 1, 1, none⟩ = some v := h.2.1
theorem Building.f1 {w wx : World} {n y : Nat} {F : Nat → Nat} {v : Value} (h : Building w wx n y F v) : wx.frozen? ⟨w.heap.size + 1, 1, none⟩ = false := h.2.2.1
theorem Building.own {w wx : World} {n y : Nat} {F : Nat → Nat} {v : Value} (h : Building w wx n y F v) : wx.ownsRow (w.heap.size + 2) 3 1 v y (rowVals F y) := h.2.2.2.1
theorem Building.below {w wx : World} {n y : Nat} {F : Nat → Nat} {v : Value} (h : Building w wx n y F v) : Below (w.heap.size + 1) (w.alloc (.cells #[.int .i64 0, .slice none 0 0] 24)) wx := h.2.2.2.2
theorem Building.size {w wx : World} {n y : Nat} {F : Nat → Nat} {v : Value} (h : Building w wx n y F v) : w.heap.size + 2 ≤ wx.heap.size := World.block_lt_of_cell? _ _ h.1
theorem Building.start (w : World) (n : Nat) (F : Nat → Nat) : Building w ((w.alloc (.cells #[.int .i64 0, .slice none 0 0] 24)).alloc (.cells #[.int .i64 (n : Int), .slice none 0 0] 24)) n 0 F (.slice none 0 0) :=
  ⟨by simp, by simp, (World.frozen?_alloc_at _ _ _ _ (by simp)), World.ownsRow_nil _ _ _ _, (Below.refl _ _).alloc (by simp) _⟩
theorem Building.step {w wx w' : World} {n y : Nat} {F : Nat → Nat} {v : Value} (h : Building w wx n y F v) (hb : Below wx.heap.size wx w') : Building w w' n y F v := by
  have hs := h.size
  obtain ⟨h1, h2, h3, h4, h5⟩ := h
  exact ⟨(hb.cell (p := ⟨w.heap.size + 1, 0, none⟩) hs).trans h1, (hb.cell (p := ⟨w.heap.size + 1, 1, none⟩) hs).trans h2, (hb.frozen (p := ⟨w.heap.size + 1, 1, none⟩) hs).trans h3, owns_below h4 hb, h5.trans (hb.mono (by omega))⟩
/-- What append leaves, ahead of the store. -/
theorem Building.grown {w wx w1 : World} {o : Obj} {n y S : Nat} {F : Nat → Nat} {v v' : Value} (h : Building w wx n y F v) (hF : F y = S)
    (hown : w1.ownsRow (w.heap.size + 2) 3 1 v' (y + 1) (rowVals F y ++ [.int .i64 (S : Nat)])) (hg : (wx.alloc o).grownBy w1 v.ownBlock) :
    w1.cell? ⟨w.heap.size + 1, 1, none⟩ = some v ∧ w1.frozen? ⟨w.heap.size + 1, 1, none⟩ = false ∧ Building w (w1.setCell ⟨w.heap.size + 1, 1, none⟩ v') n (y + 1) F v' := by
  have hs := h.size
  have h' := h.step ((Below.refl _ _).alloc (Nat.le_refl _) o)
  have hb : Below (w.heap.size + 2) (wx.alloc o) w1 := (Below.refl _ _).grown hg (by simp; omega) (owns_block h.own)
  obtain ⟨h1, h2, h3, h4, h5⟩ := h'
  have c0 := (hb.cell (p := ⟨w.heap.size + 1, 0, none⟩) (by simp)).trans h1
  have c1 := (hb.cell (p := ⟨w.heap.size + 1, 1, none⟩) (by simp)).trans h2
  have f1 := (hb.frozen (p := ⟨w.heap.size + 1, 1, none⟩) (by simp)).trans h3
  refine ⟨c1, f1, ?_, World.cell?_setCell_same _ _ _ c1, by rw [World.frozen?_setCell]; exact f1, ?_, ?_⟩
  · rw [World.cell?_setCell_other _ _ _ _ (fun e => by injection e with _ e2; cases e2)]; exact c0
  · rw [rowVals_succ, hF]; exact ownsRow_setCell_below hown (by simp) _
  · exact (h5.trans (hb.mono (by omega))).setCell (p := ⟨w.heap.size + 1, 1, none⟩) (Nat.le_refl _) _
/-- A slice of n elements lies in a block from B on. -/
def Fresh (B : Nat) (a : Option Addr) (n : Nat) : Prop := 0 < n → ∃ b off, a = some ⟨b, off, none⟩ ∧ B ≤ b
theorem Fresh.mono {B B' : Nat} {a : Option Addr} {n : Nat} (h : Fresh B a n) (hb : B' ≤ B) : Fresh B' a n := fun hn => by
  obtain ⟨b, off, e, hl⟩ := h hn
  exact ⟨b, off, e, by omega⟩
theorem row_set2 {X : World} {B : Nat} {a : Option Addr} {n : Nat} {f : Nat → Int} {u v : Value} (h : Row X a n f) (hb : Fresh (B + 1) a n) :
    Row ((X.setCell ⟨B, 0, none⟩ u).setCell ⟨B, 1, none⟩ v) a n f := by
  intro k hk
  obtain ⟨b, off, rfl, hc⟩ := h k hk
  obtain ⟨b', off', e, hlt⟩ := hb (by omega)
  simp at e
  obtain ⟨rfl, rfl⟩ := e
  refine ⟨b, off, rfl, ?_⟩
  rw [World.cell?_setCell_other _ _ _ _ (fun e => by injection e with e1; omega), World.cell?_setCell_other _ _ _ _ (fun e => by injection e with e1; omega)]
  exact hc
/-- An order's box at block B that holds the zero order. -/
def ZBox (X : World) (B : Nat) : Prop := X.cell? ⟨B, 0, none⟩ = some (.int .i64 0) ∧ X.cell? ⟨B, 1, none⟩ = some (.slice none 0 0) ∧ X.frozen? ⟨B, 0, none⟩ = false ∧ X.frozen? ⟨B, 1, none⟩ = false
theorem ZBox.new (w : World) : ZBox (w.alloc (.cells #[.int .i64 0, .slice none 0 0] 24)) w.heap.size :=
  ⟨by simp, by simp, World.frozen?_alloc_at _ _ _ _ rfl, World.frozen?_alloc_at _ _ _ _ rfl⟩
theorem ZBox.step {X X' : World} {B : Nat} (h : ZBox X B) (hb : Below X.heap.size X X') : ZBox X' B := by
  have hlt : B < X.heap.size := World.block_lt_of_cell? _ _ h.1
  obtain ⟨h1, h2, h3, h4⟩ := h
  exact ⟨(hb.cell (p := ⟨B, 0, none⟩) hlt).trans h1, (hb.cell (p := ⟨B, 1, none⟩) hlt).trans h2, (hb.frozen (p := ⟨B, 0, none⟩) hlt).trans h3, (hb.frozen (p := ⟨B, 1, none⟩) hlt).trans h4⟩
theorem set2B {w X : World} {B : Nat} {u v : Value} (h : Below w.heap.size w X) (hB : w.heap.size ≤ B) : Below w.heap.size w ((X.setCell ⟨B, 0, none⟩ u).setCell ⟨B, 1, none⟩ v) :=
  (h.setCell (p := ⟨B, 0, none⟩) hB _).setCell (p := ⟨B, 1, none⟩) hB _
def OrderPost (w : World) (n : Nat) (F : Nat → Nat) (e : Ending) (w' : World) : Prop := ∃ a cap, e = .returned (.agg #[.int .i64 (n : Int), .slice a n cap]) ∧ Row w' a n (fun k => (F k : Nat)) ∧ Fresh w.heap.size a n
end Go.Proofs.YthhnngmfbbljaaaGreat
