/-
  What is left of a region, as a piece; the call of canonBegun at an operation of a region. Conditions: as told.
  What stays where all blocks stay. No condition.
  CanonForms' pieces, alone. Conditions: as told.
  CanonForms, from its start to its return. Conditions: the slice reads as a slice of numbers; the library's tables.
  CanonForms, whoever is picked. Conditions: the slice reads as a slice of numbers, and lies in cells; the library's tables.
  How an order that comes in is read, and where its slice lies. No condition.
  What canon.check answers of two orders, the reference's CheckOrders, canon.Alike, hasselaw.truthIs. Conditions: slices read as slices of numbers; the library's table.
  What canon.Alike answers. Conditions: slices read as slices of numbers; the library's table.
  CanonCounts' pieces, alone. Conditions: as told.
-/
import Derived.Test.YtfbdgdphpdhcpaaDoorGqD
import Derived.Test.YtfbdgdphpdhcpaaDoorFmF
import Derived.Test.YtfbdgdphpdhcpaaDoorRfN
import Derived.Test.YtfbdgdphpdhcpaaDoorMvA
namespace Go.Proofs.YtfbdgdphpdhcpaaDoor
open Go Go.Conc Go.RowKit Sm
set_option maxRecDepth 100000

theorem rest_of_wp {P : Program} {fn : FuncId} {ops : Array Oper} {l : List Nat} {tm : Array Value} {v : World} {Q : Act → World → Prop} (h : wpOps P ops (fun e a w => e = .normal ∧ a.defers = [] ∧ Q a w) l ⟨tm, []⟩ v) :
    ∃ a' v', a'.defers = [] ∧ Q a' v' ∧ Steps P (lone (pf fn ⟨tm, []⟩ [.inRegion ops l, mkI]) [dum] v) (lone (pf fn a' [mkI]) [dum] v') := by
  obtain ⟨e, a', w', ⟨rfl, hd, hq⟩, har⟩ := wp_ops _ _ _ h (pf fn ⟨tm, []⟩ []) [mkI] [dum]
  exact ⟨a', w', hd, hq, har⟩
section
variable {Fin : Value → World → Prop} {K : World} {r : Nat → Nat → Prop} {v : World} {ch : Nat → Option (List (List Nat))} {k : List Item} {fn : FuncId} {rc : List Frame}
/-- What is left of a region behind its first m operations, as a piece. -/
theorem mtail {ops : Array Oper} (m : Nat) {n : Nat} {l : List Oper} (hl : ops.toList.drop m = l) (hn' : l.length = n) (hin : ∃ f, Tryd.prog.funcs[fn]? = some f) (hB : itemB Tryd.prog afs cgs (.inRegion ops (List.range' m n)) = true) (hg : ∀ g ∈ cgs, r g g) {tm tm' : Array Value} (ht : XR (Rg Tryd.prog afs cgs r) tm tm') {Q : Act → World → Prop}
    (H : ∀ τ, wpList Tryd.prog ops (fun e a w => e = .normal ∧ a.defers = [] ∧ Q a w) l ⟨tm, []⟩ (tap τ v)) (hn : ∀ r' v1 tm1 tm1', (∀ b b', r b b' → r' b b') → XR (Rg Tryd.prog afs cgs r') tm1 tm1' → Q ⟨tm1, []⟩ v1 → Mc Fin K r' v1 ch none (G (fF fn tm1' k [] .normal) rc)) :
    Mc Fin K r v ch none (G (fF fn tm' (.inRegion ops (List.range' m n) :: k) [] .normal) rc) :=
  mrest hin hB hg ht (fun τ => rest_of_wp (by
    subst hn'
    rw [wpOps_eq_wpList l m (fun j => by rw [← hl, List.getElem?_drop, Array.getElem?_toList])]
    exact H τ)) hn
/-- The call of canonBegun. -/
theorem begun_call {ops : Array Oper} {i : Nat} {rest : List Nat} {o : Oper} {d : Nat} (a1 : ops[i]? = some o) (a2 : o.dst = some d) (a3 : o.op = .call { callee := .value (.func GB), args := #[], argTypes := #[] }) (a4 : o.guard = none)
    {tm tm' : Array Value} (hx : XR (Rg Tryd.prog afs cgs r) tm tm') (hg : ∀ g ∈ cgs, r g g) (hT : Tab v) (hlow : Tryd.prog.globals.size ≤ v.heap.size) (hp0 : PureB v 0) (hp1 : PureB v 1)
    (hk : ∀ r' v' tm1', (∀ b b', r b b' → r' b b') → HB v v' → (∀ g ∈ cgs, r' g g) → XR (Rg Tryd.prog afs cgs r') (tm.setIfInBounds d (.bool true)) tm1' → Tab v' → Tryd.prog.globals.size ≤ v'.heap.size → PureB v' 0 → PureB v' 1 →
      Mc Fin K r' v' (fun _ => none) none (G (fF fn tm1' (.inRegion ops rest :: k) [] .normal) rc)) :
    Mc Fin K r v (fun _ => none) none (G (fF fn tm' (.inRegion ops (i :: rest) :: k) [] .normal) rc) := by
  obtain ⟨CB, hCB⟩ : ∃ C, IsB C := ⟨_, rfl⟩
  have hbB : Tryd.f12.body = some CB := by rw [hCB]; rfl
  refine MV.call (by decide) a1 (by unfold Region.wanted; rw [a4]) a3 Tryd.func12 (by decide) hbB ?_
  have eargs0 : ((#[] : Array Operand).map (Act.eval ⟨tm', []⟩)) = #[] := by simp
  rw [eargs0]
  show Mc Fin K r v (fun _ => none) none (G (fF GB (#[] ++ Array.replicate 31 undef) [.code CB] [] .normal) (fF fn tm' (.inRegion ops (i :: rest) :: _) [] .normal :: rc))
  have ht0 : XR (Rg Tryd.prog afs cgs r) (#[] ++ Array.replicate 31 undef) (#[] ++ Array.replicate 31 undef) := by
    have := XR.rep (R := Rg Tryd.prog afs cgs r) 31
    simpa using this
  refine begun_run hCB ht0 hg (by simp) hT hlow hp0 hp1 fun r2 v2 tm2 tm2' hr2 hb2 g2 hx2 q0 hT2 hlow2 p02 p12 => ?_
  have q0' := vr_bool hx2 q0
  have hret := ret_one (F := Tryd.f12) (t := 0) rfl q0'
  refine MV.ret Tryd.func12 (fun w => (hret w).1) (fun w => (hret w).2) a1 ?_
  rw [a2]
  exact hk r2 v2 _ hr2 hb2 g2 ((hx.mono (rg_le hr2)).set d (VR.bool _ _)) hT2 hlow2 p02 p12
end
end Go.Proofs.YtfbdgdphpdhcpaaDoor
namespace Go.Proofs.YtfbdgdphpdhcpaaDoor
open Go Go.Conc Go.RowKit Sm

theorem hb_alloc (v : World) (o : Obj) : HB v (v.alloc o) := HB.of (B := v.heap.size) ((Below.refl _ v).alloc (Nat.le_refl _) _) (Nat.le_refl _)
theorem op_take {ops : Array Oper} {m : Nat} {rows : List (Option Tmp × Op × Option (Nat × Bool))} (h : (ops.map fun o => (o.dst, o.op, o.guard)).toList.take m = rows) (i : Nat) {d : Option Tmp} {p : Op} {g : Option (Nat × Bool)} (hi : rows[i]? = some (d, p, g)) : ∃ o, ops[i]? = some o ∧ o.dst = d ∧ o.op = p ∧ o.guard = g := by
  rw [← h, List.getElem?_take] at hi
  split at hi
  · rw [Array.getElem?_toList, Array.getElem?_map, Option.map_eq_some_iff] at hi
    obtain ⟨o, ho, e⟩ := hi
    cases e
    exact ⟨o, ho, rfl, rfl, rfl⟩
  · cases hi
end Go.Proofs.YtfbdgdphpdhcpaaDoor
namespace Go.Proofs.YtfbdgdphpdhcpaaDoor
open Go Go.Conc Go.RowKit Sm
set_option maxRecDepth 100000

abbrev GF : FuncId := 3
def IsF (C : Code) : Prop := C = Tryd.f3.body.getD .skip
abbrev gfl : List (List Nat) := [[0], [1, 0], [1, 1, 0], [1, 1, 1, 0], [1, 1, 1, 1, 0, 0]]
/-- What Form has handed back: the order's two cells, the list. -/
def R1 (c : Int) (len : Nat) (f : Nat → Int) (v : World) (x0 x1 q : Value) : Prop :=
  (c ≠ 0 ∧ x0 = .int .i64 0 ∧ x1 = .slice none 0 0 ∧ ∃ lq cq, q = .slice lq 0 cq) ∨
    (c = 0 ∧ len ≤ 6 ∧ ∃ y bl bc lq cq, bst (nat f) len (per len [] (pw len - 1)) = some y ∧ x0 = .int .i64 (len : Nat) ∧ x1 = .slice bl len bc ∧ Row v bl len (fun k => (prt (nat f) y k : Nat)) ∧ q = .slice lq y.length cq ∧ Row v lq y.length (fun k => (nth y k : Nat)))
theorem R1.hb {c : Int} {len : Nat} {f : Nat → Int} {v w : World} {x0 x1 q : Value} (h : R1 c len f v x0 x1 q) (hw : HB v w) : R1 c len f w x0 x1 q := by
  rcases h with h | ⟨h1, h2, y, bl, bc, lq, cq, h3, h4, h5, h6, h7, h8⟩
  · exact .inl h
  · exact .inr ⟨h1, h2, y, bl, bc, lq, cq, h3, h4, h5, hw.row h6, h7, hw.row h8⟩
end Go.Proofs.YtfbdgdphpdhcpaaDoor
namespace Go.Proofs.YtfbdgdphpdhcpaaDoor
open Go Go.Conc Go.RowKit Sm
set_option maxRecDepth 100000

section
variable {Fin : Value → World → Prop} {K : World} {k : List Item} {rc : List Frame}
end
end Go.Proofs.YtfbdgdphpdhcpaaDoor
namespace Go.Proofs.YtfbdgdphpdhcpaaDoor
open Go Go.Conc Go.RowKit Sm
set_option maxRecDepth 100000

/-- The blocks of a slice. -/
def blkA : Option Addr → List Nat
  | none => []
  | some a => [a.block]
/-- A slice that lies in cells, or nowhere. -/
def InC (W : World) (a : Option Addr) : Prop := a = none ∨ ∃ b off, a = some ⟨b, off, none⟩ ∧ ∃ c t fr, W.heap[b]? = some (.cells c t fr)
theorem InC.blk {W : World} {a : Option Addr} (h : InC W a) : ∀ b ∈ blkA a, ∃ c t fr, W.heap[b]? = some (.cells c t fr) := fun b hb => by
  rcases h with rfl | ⟨b', off, rfl, h⟩
  · cases hb
  · obtain rfl : b = b' := by simpa [blkA] using hb
    exact h
theorem seen_row {S : List Nat} {W v0 : World} {a : Option Addr} {len : Nat} {f : Nat → Int} (hs : ∀ b, b ∈ 0 :: 1 :: S → ∀ j k m, W.cell? ⟨b, j, none⟩ = some (.int k m) → v0.cell? ⟨b, j, none⟩ = some (.int k m)) (hS : ∀ b ∈ blkA a, b ∈ S) (hr : Row W a len f) : Row v0 a len f := fun k hk => by
  obtain ⟨b, off, rfl, hc⟩ := hr k hk
  exact ⟨b, off, rfl, hs b (List.mem_cons_of_mem _ (List.mem_cons_of_mem _ (hS b (by simp [blkA])))) _ _ _ hc⟩
theorem seen_tab {S : List Nat} {W v0 : World} (hs : ∀ b, b ∈ 0 :: 1 :: S → ∀ j k m, W.cell? ⟨b, j, none⟩ = some (.int k m) → v0.cell? ⟨b, j, none⟩ = some (.int k m)) (hT : Tab W) : Tab v0 := fun j hj => hs 1 (by simp) _ _ _ (hT j hj)
theorem vr_row {S : List Nat} {W : World} {a : Option Addr} {len cap : Nat} (h : InC W a) (hS : ∀ b ∈ blkA a, b ∈ S) : VR (Rg Tryd.prog afs cgs fun b b' => b = b' ∧ b ∈ 0 :: 1 :: S) (.slice a len cap) (.slice a len cap) := by
  rcases h with rfl | ⟨b, off, rfl, _⟩
  · exact VR.slice (a := none) (a' := none) trivial _ _
  · have har : AR (Rg Tryd.prog afs cgs fun b b' => b = b' ∧ b ∈ 0 :: 1 :: S) ⟨b, off, none⟩ ⟨b, off, none⟩ := ⟨⟨rfl, List.mem_cons_of_mem _ (List.mem_cons_of_mem _ (hS b (by simp [blkA])))⟩, rfl, rfl, Nat.zero_le _⟩
    exact VR.slice (a := some _) (a' := some _) har _ _
theorem vr_ord1 {S : List Nat} {W : World} {n : Int} {a : Option Addr} {len cap : Nat} (h : InC W a) (hS : ∀ b ∈ blkA a, b ∈ S) : VR (Rg Tryd.prog afs cgs fun b b' => b = b' ∧ b ∈ 0 :: 1 :: S) (.agg #[.int .i64 n, .slice a len cap]) (.agg #[.int .i64 n, .slice a len cap]) :=
  VR.agg (xr2 (VR.int _ _ _) (vr_row h hS))
end Go.Proofs.YtfbdgdphpdhcpaaDoor
namespace Go.Proofs.YtfbdgdphpdhcpaaDoor
open Go.ChangeShapes Go.WideShapes Go.ChangeAt Go.RowKit Go.Joins

theorem cells24 : Tryd.prog.cellsOf 24 = 2 := by kernel_rfl
theorem cells3 : Tryd.prog.cellsOf 3 = 1 := by kernel_rfl
/-- A slice of numbers that came in is a row. -/
theorem row_of_trod {H : Type} {enc : TypeId × Value → H} {w : World} {base : Nat} {spare : Nat → Bool} {held : Bool} {fuel : Nat} {v : Value} {x : DataW H × List MemPlace}
    (h : DataW.trod enc Tryd.prog w base spare held fuel 22 [v] = some x) : ∃ a len cap f, v = .slice a len cap ∧ len ≤ maxLen ∧ Row w a len f := by
  rcases open_ints Tryd.underlying22 Tryd.underlying3 cells3 h with ⟨hcs, _⟩ | ⟨a, len, cap, zs, hcs, _, hl, hm, hz, _, hcell, _⟩
  · simp at hcs
    exact ⟨none, 0, 0, fun _ => 0, hcs, by unfold maxLen; omega, fun k hk => absurd hk (Nat.not_lt_zero _)⟩
  · simp at hcs
    refine ⟨some a, len, cap, fun k => zs.getD k 0, hcs, by omega, fun k hk => ?_⟩
    have hlen : len ≤ zs.length := by rw [hz]; split <;> omega
    have hc := hcell k (by omega)
    obtain ⟨b, off, spot⟩ := a
    have hspot : spot = none := by simpa [Addr.add] using World.cell?_spot (hcell 0 (by omega))
    subst hspot
    refine ⟨b, off, rfl, ?_⟩
    by_cases e : k = 0
    · subst e; simpa [Addr.add] using hc
    · simpa [Addr.add, e] using hc
set_option maxRecDepth 100000 in
theorem types24 : Tryd.prog.cellTypes Tryd.prog.depth 24 = some [3, 22] := by kernel_rfl
set_option maxRecDepth 100000 in
/-- An order that came in: its slice lies in cells, or nowhere. -/
theorem order_cells {W : World} {r : Reach} {base : Nat} {n : Int} {a : Option Addr} {len cap : Nat} (h : Value.okWide Tryd.prog W r base 24 (.agg #[.int .i64 n, .slice a len cap])) : InC W a := by
  unfold Value.okWide at h
  rw [Tryd.underlying24] at h
  obtain ⟨cs, e, _, hrow⟩ := h
  cases e
  obtain ⟨ts, hts, _, hc⟩ := hrow
  rw [types24] at hts
  cases hts
  obtain ⟨u, hu, hok⟩ := hc 1 (.slice a len cap) rfl
  have hu : some 22 = some u := hu
  cases hu
  exact slice_cells hok
end Go.Proofs.YtfbdgdphpdhcpaaDoor
namespace Go.Proofs.YtfbdgdphpdhcpaaDoor
open Go.RowKit Go.Shelf
set_option maxRecDepth 100000

/-- What is wrong with two orders, the first first. -/
def CO2 (n1 : Int) (l1 : Nat) (f1 : Nat → Int) (n2 : Int) (l2 : Nat) (f2 : Nat → Int) (c : Int) : Prop := ∃ c1 c2, Chk n1 l1 f1 c1 ∧ Chk n2 l2 f2 c2 ∧ c = if c1 = 0 then c2 else c1
theorem CO2.one {n1 n2 : Int} {l1 l2 : Nat} {f1 f2 : Nat → Int} {c c' : Int} (h : CO2 n1 l1 f1 n2 l2 f2 c) (h' : CO2 n1 l1 f1 n2 l2 f2 c') : c = c' := by
  obtain ⟨d1, d2, h1, h2, rfl⟩ := h
  obtain ⟨e1, e2, h3, h4, rfl⟩ := h'
  rw [Chk.unique h1 h3, Chk.unique h2 h4]
/-- The same, where they may have six points at most. -/
def FC2 (n1 : Int) (l1 : Nat) (f1 : Nat → Int) (n2 : Int) (l2 : Nat) (f2 : Nat → Int) (c : Int) : Prop := ∃ c0, CO2 n1 l1 f1 n2 l2 f2 c0 ∧ c = if c0 = 0 then (if 6 < n1 ∨ 6 < n2 then 2 else 0) else c0
theorem FC2.one {n1 n2 : Int} {l1 l2 : Nat} {f1 f2 : Nat → Int} {c c' : Int} (h : FC2 n1 l1 f1 n2 l2 f2 c) (h' : FC2 n1 l1 f1 n2 l2 f2 c') : c = c' := by
  obtain ⟨d1, h1, rfl⟩ := h
  obtain ⟨e1, h3, rfl⟩ := h'
  rw [h1.one h3]
theorem FC2.good {n1 n2 : Int} {l1 l2 : Nat} {f1 f2 : Nat → Int} (h : FC2 n1 l1 f1 n2 l2 f2 0) : FCk n1 l1 f1 0 ∧ FCk n2 l2 f2 0 := by
  obtain ⟨c0, ⟨c1, c2, h1, h2, e1⟩, e2⟩ := h
  by_cases h0 : c0 = 0
  · rw [if_pos h0] at e2
    by_cases h6 : 6 < n1 ∨ 6 < n2
    · rw [if_pos h6] at e2; cases e2
    · by_cases hc : c1 = 0
      · rw [if_pos hc] at e1
        subst hc
        have : c2 = 0 := by omega
        subst this
        exact ⟨⟨0, h1, by rw [if_pos rfl, if_neg (by omega)]⟩, ⟨0, h2, by rw [if_pos rfl, if_neg (by omega)]⟩⟩
      · rw [if_neg hc] at e1; omega
  · rw [if_neg h0] at e2; omega
theorem chk_ex (n : Int) (len : Nat) (f : Nat → Int) : ∃ c, Chk n len f c := by
  by_cases h : 0 ≤ n ∧ n ≤ 10
  · obtain ⟨m, rfl⟩ : ∃ m : Nat, n = m := ⟨n.toNat, by omega⟩
    by_cases hl : len = m
    · by_cases hr : Rng m f
      · by_cases ho : Ord m (nat f)
        · exact ⟨0, .inr ⟨m, rfl, by omega, .inr ⟨hl, .inr ⟨hr, .inr ⟨rfl, ho⟩⟩⟩⟩⟩
        · exact ⟨4, .inr ⟨m, rfl, by omega, .inr ⟨hl, .inr ⟨hr, .inl ⟨rfl, ho⟩⟩⟩⟩⟩
      · exact ⟨3, .inr ⟨m, rfl, by omega, .inr ⟨hl, .inl ⟨rfl, hr⟩⟩⟩⟩
    · exact ⟨1, .inr ⟨m, rfl, by omega, .inl ⟨rfl, hl⟩⟩⟩
  · exact ⟨2, .inl ⟨rfl, h⟩⟩
set_option maxHeartbeats 4000000 in
theorem check2_any (n1 : Int) (a1 : Option Addr) (l1 p1 : Nat) (f1 : Nat → Int) (n2 : Int) (a2 : Option Addr) (l2 p2 : Nat) (f2 : Nat → Int) (b : Nat) (w : World) (hl1 : l1 ≤ maxLen) (hl2 : l2 ≤ maxLen) (hr1 : Row w a1 l1 f1) (hr2 : Row w a2 l2 f2)
    (h0 : w.cell? ⟨b, 0, none⟩ = some (.int .i64 n1)) (h1 : w.cell? ⟨b, 1, none⟩ = some (.slice a1 l1 p1)) (h2 : w.cell? ⟨b, 2, none⟩ = some (.int .i64 n2)) (h3 : w.cell? ⟨b, 3, none⟩ = some (.slice a2 l2 p2)) :
    Calls Tryd.prog 29 #[.slice (some ⟨b, 0, none⟩) 2 2] w fun e w' => (∃ c : Int, e = .returned (.int .i64 c) ∧ FC2 n1 l1 f1 n2 l2 f2 c) ∧ Below w.heap.size w w' := by
  have HR1 : Hid (Row w a1 l1 f1) := hr1
  have HR2 : Hid (Row w a2 l2 f2) := hr2
  have HC0 : Hid (∀ w', Below w.heap.size w w' → (w'.cell? ⟨b, 0, none⟩ = some (.int .i64 n1) ∧ w'.cell? ⟨b, 1, none⟩ = some (.slice a1 l1 p1)) ∧ w'.cell? ⟨b, 2, none⟩ = some (.int .i64 n2) ∧ w'.cell? ⟨b, 3, none⟩ = some (.slice a2 l2 p2)) := fun w' hb => ⟨⟨cell_stp hb h0, cell_stp hb h1⟩, cell_stp hb h2, cell_stp hb h3⟩
  clear hr1 hr2 h0 h1 h2 h3
  go_enter Tryd.func29, Tryd.ntmps29
  go_wp2_with fail
  go_loopw [10] (fun t wx => ∃ k : Nat, k ≤ 2 ∧ t = .int .i64 k ∧ Hid (0 < k → Chk n1 l1 f1 0) ∧ Hid (1 < k → Chk n2 l2 f2 0) ∧ Hid (Below w.heap.size w wx)) (fun t _ => 2 - (intOf t).toNat)
  case atStart => exact ⟨0, by omega, rfl, fun h => by omega, fun h => by omega, Below.refl _ _⟩
  case round =>
    obtain ⟨k, hk, rfl, HK1, HK2, HB⟩ := hrel
    obtain ⟨⟨c0, c1⟩, c2, c3⟩ := HC0.out _ HB.out
    have HBW : Hid (∀ o, Below w.heap.size w (wr.alloc o)) := fun o => HB.out.alloc HB.out.size o
    by_cases hk0 : k = 0
    · subst hk0
      have HCK := (show Hid _ from check_any n1 a1 l1 p1 f1 (wr.alloc (.cells #[.int .i64 n1, .slice a1 l1 p1] 24)) hl1 (HR1.out.below (HBW.out _)))
      go_wp2_with fail
      refine Calls.mono HCK.out ?_
      rintro e w2 ⟨⟨c, rfl, hc⟩, hb2⟩
      have HB2 : Hid (Below w.heap.size w w2) := Below.then (HBW.out _) hb2
      have HC : Hid (Chk n1 l1 f1 c) := hc
      clear hb2 hc c0 c1 c2 c3 HCK
      by_cases e0 : c = 0
      · subst e0
        go_wp2_with fail
        go_roundw
        case rel => exact ⟨1, by omega, by go_num, fun _ => HC.out, fun h => by omega, HB2.out⟩
        case measure => simp [intOf]
      · have hne : (c != 0) = true := by simpa using e0
        obtain ⟨d, hd⟩ : ∃ d, Chk n2 l2 f2 d := chk_ex n2 l2 f2
        have HF : Hid (FC2 n1 l1 f1 n2 l2 f2 c) := ⟨c, ⟨c, d, HC.out, hd, by rw [if_neg e0]⟩, by rw [if_neg e0]⟩
        clear hd
        go_wp2_with fail
        go_ret
        exact ⟨⟨c, rfl, HF.out⟩, HB2.out⟩
    · by_cases hk1 : k = 1
      · subst hk1
        have HC1 : Hid (Chk n1 l1 f1 0) := HK1.out (by omega)
        have HCK := (show Hid _ from check_any n2 a2 l2 p2 f2 (wr.alloc (.cells #[.int .i64 n2, .slice a2 l2 p2] 24)) hl2 (HR2.out.below (HBW.out _)))
        go_wp2_with fail
        refine Calls.mono HCK.out ?_
        rintro e w2 ⟨⟨c, rfl, hc⟩, hb2⟩
        have HB2 : Hid (Below w.heap.size w w2) := Below.then (HBW.out _) hb2
        have HC : Hid (Chk n2 l2 f2 c) := hc
        clear hb2 hc c0 c1 c2 c3 HCK
        by_cases e0 : c = 0
        · subst e0
          go_wp2_with fail
          go_roundw
          case rel => exact ⟨2, by omega, by go_num, fun _ => HC1.out, fun _ => HC.out, HB2.out⟩
          case measure => simp [intOf]
        · have hne : (c != 0) = true := by simpa using e0
          have HF : Hid (FC2 n1 l1 f1 n2 l2 f2 c) := ⟨c, ⟨0, c, HC1.out, HC.out, by rw [if_pos rfl]⟩, by rw [if_neg e0]⟩
          go_wp2_with fail
          go_ret
          exact ⟨⟨c, rfl, HF.out⟩, HB2.out⟩
      · obtain rfl : k = 2 := by omega
        have HO : Hid (CO2 n1 l1 f1 n2 l2 f2 0) := ⟨0, 0, HK1.out (by omega), HK2.out (by omega), by rw [if_pos rfl]⟩
        clear c0 c1 c2 c3 HK1 HK2 hk hk0 hk1 HBW
        go_wp2_with fail
        go_loopw [22] (fun t wx => ∃ k : Nat, k ≤ 2 ∧ t = .int .i64 k ∧ Hid (0 < k → ¬ 6 < n1) ∧ Hid (1 < k → ¬ 6 < n2) ∧ Hid (Below w.heap.size w wx)) (fun t _ => 2 - (intOf t).toNat)
        case atStart => exact ⟨0, by omega, rfl, fun h => by omega, fun h => by omega, HB.out⟩
        case round =>
          obtain ⟨k, hk, rfl, HK1, HK2, HBx⟩ := hrel
          obtain ⟨⟨c0, c1⟩, c2, c3⟩ := HC0.out _ HBx.out
          have HB1 : Hid (∀ o, Below w.heap.size w (wr.alloc o)) := fun o => HBx.out.alloc HBx.out.size _
          by_cases hk0 : k = 0
          · subst hk0
            by_cases h6 : 6 < n1
            · have HF : Hid (FC2 n1 l1 f1 n2 l2 f2 2) := ⟨0, HO.out, by rw [if_pos rfl, if_pos (.inl h6)]⟩
              go_wp2_with fail
              go_ret
              exact ⟨⟨2, rfl, HF.out⟩, HB1.out _⟩
            · go_wp2_with fail
              go_roundw
              case rel => exact ⟨1, by omega, by go_num, fun _ => h6, fun h => by omega, HB1.out _⟩
              case measure => simp [intOf]
          · by_cases hk1 : k = 1
            · subst hk1
              have HN : Hid (¬ 6 < n1) := HK1.out (by omega)
              by_cases h6 : 6 < n2
              · have HF : Hid (FC2 n1 l1 f1 n2 l2 f2 2) := ⟨0, HO.out, by rw [if_pos rfl, if_pos (.inr h6)]⟩
                go_wp2_with fail
                go_ret
                exact ⟨⟨2, rfl, HF.out⟩, HB1.out _⟩
              · go_wp2_with fail
                go_roundw
                case rel => exact ⟨2, by omega, by go_num, fun _ => HN.out, fun _ => h6, HB1.out _⟩
                case measure => simp [intOf]
            · obtain rfl : k = 2 := by omega
              have HF : Hid (FC2 n1 l1 f1 n2 l2 f2 0) := by
                have g1 := HK1.out (by omega)
                have g2 := HK2.out (by omega)
                exact ⟨0, HO.out, by rw [if_pos rfl, if_neg (by omega)]⟩
              clear c0 c1 c2 c3
              go_wp2_with fail
              go_ret
              exact ⟨⟨0, rfl, HF.out⟩, HBx.out⟩
end Go.Proofs.YtfbdgdphpdhcpaaDoor
namespace Go.Proofs.YtfbdgdphpdhcpaaDoor
open Go.RowKit Go.Shelf
set_option maxRecDepth 100000

/-- What Alike answers. -/
def AlPost (n1 : Int) (l1 : Nat) (f1 : Nat → Int) (n2 : Int) (l2 : Nat) (f2 : Nat → Int) (e : Ending) : Prop :=
  ∃ c, FC2 n1 l1 f1 n2 l2 f2 c ∧ ((c ≠ 0 ∧ e = .returned (.tuple #[.bool false, .int .i64 c])) ∨
    (c = 0 ∧ ∃ x1 x2 b, bst (nat f1) l1 (per l1 [] (pw l1 - 1)) = some x1 ∧ bst (nat f2) l2 (per l2 [] (pw l2 - 1)) = some x2 ∧ (b = true ↔ SameRows l1 l2 (fun k => (prt (nat f1) x1 k : Nat)) (fun k => (prt (nat f2) x2 k : Nat))) ∧ e = .returned (.tuple #[.bool b, .int .i64 0])))
set_option maxHeartbeats 2000000 in
theorem alike_any (n1 : Int) (a1 : Option Addr) (l1 p1 : Nat) (f1 : Nat → Int) (n2 : Int) (a2 : Option Addr) (l2 p2 : Nat) (f2 : Nat → Int) (w : World) (hl1 : l1 ≤ maxLen) (hl2 : l2 ≤ maxLen) (hr1 : Row w a1 l1 f1) (hr2 : Row w a2 l2 f2) (hT : Tab w) :
    Calls Tryd.prog 15 #[.agg #[.int .i64 n1, .slice a1 l1 p1], .agg #[.int .i64 n2, .slice a2 l2 p2]] w fun e w' => AlPost n1 l1 f1 n2 l2 f2 e ∧ Below w.heap.size w w' := by
  obtain ⟨W, HWE⟩ : ∃ W, Hid (W = ((w.alloc (.cells #[.int .i64 n1, .slice a1 l1 p1] 24)).alloc (.cells #[.int .i64 n2, .slice a2 l2 p2] 24)).alloc (.cells #[.int .i64 n1, .slice a1 l1 p1, .int .i64 n2, .slice a2 l2 p2] 24)) := ⟨_, rfl⟩
  have HB : Hid (Below w.heap.size w W) := by rw [HWE.out]; exact (((Below.refl _ _).alloc (Nat.le_refl _) _).alloc (by simp) _).alloc (by simp; omega) _
  have HX : Hid (∀ w', Below W.heap.size W w' → (w'.cell? ⟨w.heap.size, 0, none⟩ = some (.int .i64 n1) ∧ w'.cell? ⟨w.heap.size, 1, none⟩ = some (.slice a1 l1 p1)) ∧ w'.cell? ⟨w.heap.size + 1, 0, none⟩ = some (.int .i64 n2) ∧ w'.cell? ⟨w.heap.size + 1, 1, none⟩ = some (.slice a2 l2 p2)) := fun w' h =>
    ⟨⟨cell_stp h (by rw [HWE.out]; exact cell_al (cell_al (by simp))), cell_stp h (by rw [HWE.out]; exact cell_al (cell_al (by simp)))⟩, cell_stp h (by rw [HWE.out]; exact cell_al (by simp)), cell_stp h (by rw [HWE.out]; exact cell_al (by simp))⟩
  have e4 : ∀ X : World, X.heap.size = w.heap.size + 2 → ((X.alloc (.cells #[.int .i64 n1, .slice a1 l1 p1, .int .i64 n2, .slice a2 l2 p2] 24)).cell? ⟨w.heap.size + 2, 0, none⟩ = some (.int .i64 n1) ∧ (X.alloc (.cells #[.int .i64 n1, .slice a1 l1 p1, .int .i64 n2, .slice a2 l2 p2] 24)).cell? ⟨w.heap.size + 2, 1, none⟩ = some (.slice a1 l1 p1)) ∧ (X.alloc (.cells #[.int .i64 n1, .slice a1 l1 p1, .int .i64 n2, .slice a2 l2 p2] 24)).cell? ⟨w.heap.size + 2, 2, none⟩ = some (.int .i64 n2) ∧ (X.alloc (.cells #[.int .i64 n1, .slice a1 l1 p1, .int .i64 n2, .slice a2 l2 p2] 24)).cell? ⟨w.heap.size + 2, 3, none⟩ = some (.slice a2 l2 p2) := fun X h => by
    rw [← h]; simp
  obtain ⟨⟨e0, e1⟩, e2, e3⟩ := e4 ((w.alloc (.cells #[.int .i64 n1, .slice a1 l1 p1] 24)).alloc (.cells #[.int .i64 n2, .slice a2 l2 p2] 24)) (by simp)
  rw [← HWE.out] at e0 e1 e2 e3
  have HCK := (show Hid _ from check2_any n1 a1 l1 p1 f1 n2 a2 l2 p2 f2 (w.heap.size + 2) W hl1 hl2 (hr1.below HB.out) (hr2.below HB.out) e0 e1 e2 e3)
  have HR1 : Hid (Row w a1 l1 f1) := hr1
  have HR2 : Hid (Row w a2 l2 f2) := hr2
  have HT : Hid (Tab w) := hT
  clear hr1 hr2 hT e0 e1 e2 e3 e4
  go_enter Tryd.func15, Tryd.ntmps15
  go_wp2_with (rw [← HWE.out])
  refine Calls.mono HCK.out ?_
  rintro e w1 ⟨⟨c, rfl, hc⟩, hb1⟩
  have HC : Hid (FC2 n1 l1 f1 n2 l2 f2 c) := hc
  have HB1 : Hid (Below W.heap.size W w1) := hb1
  obtain ⟨⟨x0, x1⟩, x2, x3⟩ := HX.out _ hb1
  clear hc hb1 HCK
  by_cases h0 : c = 0
  · subst h0
    obtain ⟨g1, g2⟩ := HC.out.good
    obtain ⟨rfl, h61, hck1⟩ := g1.good
    obtain ⟨rfl, h62, hck2⟩ := g2.good
    obtain ⟨_, h101, hrng1, _⟩ := hck1.good
    obtain ⟨_, h102, hrng2, _⟩ := hck2.good
    have HBW : Hid (Below w.heap.size w w1) := Below.then HB.out HB1.out
    have HF1 := (show Hid _ from formOf_any l1 a1 p1 (nat f1) w1 h101 (hrng1.small2 h101) (hrng1.row (HR1.out.below HBW.out)) (HT.out.step HBW.out))
    have HG2 : Hid (∀ k, k < l2 → nat f2 k < 1024) := hrng2.small2 h102
    have HRR2 : Hid (∀ w', Below w1.heap.size w1 w' → Row w' a2 l2 (fun k => (nat f2 k : Nat)) ∧ Tab w') := fun w' hb => ⟨hrng2.row (HR2.out.below (Below.then HBW.out hb)), HT.out.step (Below.then HBW.out hb)⟩
    clear hck1 hck2 hrng1 hrng2 g1 g2
    go_wp2_with fail
    refine Calls.mono HF1.out ?_
    rintro e w2 ⟨⟨y1, bl1, bv1, hy1, rfl, hO1, _, ⟨hlt1, _⟩, hv1⟩, hb2⟩
    have HY1 : Hid (bst (nat f1) l1 (per l1 [] (pw l1 - 1)) = some y1) := hy1
    obtain ⟨va, vn, vc, rfl⟩ : ∃ va vn vc, bv1 = .slice va vn vc := by
      rcases hv1.2 with ⟨q0, _⟩ | ⟨q, cap', cur, q1, _⟩
      · exact ⟨_, _, _, q0⟩
      · exact ⟨_, _, _, q1⟩
    obtain ⟨w3, HW3⟩ : ∃ w3, Hid (w3 = w2.alloc (.cells #[.int .i64 (l1 : Nat), .slice (some ⟨bl1, 0, none⟩) l1 l1] 24)) := ⟨_, rfl⟩
    have hb3 : Below w2.heap.size w2 w3 := by rw [HW3.out]; exact (Below.refl _ _).alloc (Nat.le_refl _) _
    have HB3 : Hid (Below w1.heap.size w1 w3) := Below.then hb2 hb3
    have HO1 : Hid (Row w3 (some ⟨bl1, 0, none⟩) l1 (fun k => (prt (nat f1) y1 k : Nat))) := hO1.row.below hb3
    have HZ3 : Hid (∀ w', Below w3.heap.size w3 w' → w'.cell? ⟨w2.heap.size, 1, none⟩ = some (.slice (some ⟨bl1, 0, none⟩) l1 l1)) := fun w' hb => cell_stp hb (by rw [HW3.out]; simp)
    obtain ⟨⟨_, _⟩, z2, z3⟩ := HX.out _ (Below.then HB1.out HB3.out)
    have HF2 := (show Hid _ from formOf_any l2 a2 p2 (nat f2) w3 h102 HG2.out (HRR2.out _ HB3.out).1 (HRR2.out _ HB3.out).2)
    clear hy1 hO1 hlt1 hv1 hb2 hb3 x0 x1 x2 x3 HF1 HRR2
    go_wp2_with (rw [← HW3.out])
    refine Calls.mono HF2.out ?_
    rintro e w4 ⟨⟨y2, bl2, bv2, hy2, rfl, hO2, _, ⟨hlt2, _⟩, hv2⟩, hb4⟩
    have HY2 : Hid (bst (nat f2) l2 (per l2 [] (pw l2 - 1)) = some y2) := hy2
    obtain ⟨va2, vn2, vc2, rfl⟩ : ∃ va vn vc, bv2 = .slice va vn vc := by
      rcases hv2.2 with ⟨q0, _⟩ | ⟨q, cap', cur, q1, _⟩
      · exact ⟨_, _, _, q0⟩
      · exact ⟨_, _, _, q1⟩
    obtain ⟨w5, HW5⟩ : ∃ w5, Hid (w5 = w4.alloc (.cells #[.int .i64 (l2 : Nat), .slice (some ⟨bl2, 0, none⟩) l2 l2] 24)) := ⟨_, rfl⟩
    have hb5 : Below w4.heap.size w4 w5 := by rw [HW5.out]; exact (Below.refl _ _).alloc (Nat.le_refl _) _
    have HB5 : Hid (Below w3.heap.size w3 w5) := Below.then hb4 hb5
    have t1 := HZ3.out _ HB5.out
    have t2 : w5.cell? ⟨w4.heap.size, 1, none⟩ = some (.slice (some ⟨bl2, 0, none⟩) l2 l2) := by rw [HW5.out]; simp
    have HEQ := (show Hid _ from equal_any (some ⟨bl1, 0, none⟩) (some ⟨bl2, 0, none⟩) l1 l1 l2 l2 (fun k => (prt (nat f1) y1 k : Nat)) (fun k => (prt (nat f2) y2 k : Nat)) w5 hl1 hl2 (HO1.out.below HB5.out) (hO2.row.below hb5))
    have HBE : Hid (Below w.heap.size w w5) := Below.then HBW.out (Below.then HB3.out HB5.out)
    clear hy2 hO2 hlt2 hv2 hb4 hb5 z2 z3 HF2
    go_wp2_with (rw [← HW5.out])
    refine Calls.mono HEQ.out ?_
    rintro e w6 ⟨⟨b, rfl, hb⟩, hb6⟩
    have HQ : Hid (b = true ↔ SameRows l1 l2 (fun k => (prt (nat f1) y1 k : Nat)) (fun k => (prt (nat f2) y2 k : Nat))) := hb
    have HBF : Hid (Below w.heap.size w w6) := Below.then HBE.out hb6
    clear hb hb6 t1 t2 HEQ
    go_wp2_with fail
    go_ret2
    exact ⟨⟨0, HC.out, .inr ⟨rfl, y1, y2, b, HY1.out, HY2.out, HQ.out, rfl⟩⟩, HBF.out⟩
  · have hne : (c != 0) = true := by simpa using h0
    have HBF : Hid (Below w.heap.size w w1) := Below.then HB.out HB1.out
    have H0 : Hid (c ≠ 0) := h0
    clear x0 x1 x2 x3 h0
    go_wp2_with fail
    go_ret2
    exact ⟨⟨c, HC.out, .inl ⟨H0.out, rfl⟩⟩, HBF.out⟩
end Go.Proofs.YtfbdgdphpdhcpaaDoor
namespace Go.Proofs.YtfbdgdphpdhcpaaDoor
open Go Go.Conc Go.RowKit Sm
set_option maxRecDepth 100000

/-- How many lists leave a form as it is. -/
def cntL (o : List Nat) : Nat := (mvL (nth o) o.length (per o.length [] (pw o.length - 1))).length
def facL : Nat → Nat
  | 0 => 1
  | n + 1 => (n + 1) * facL n
abbrev GK : FuncId := 7
def IsK (C : Code) : Prop := C = Tryd.f7.body.getD .skip
abbrev kbody (C : Code) : Code := .seq (.seq (atc [1, 1, 1, 1, 1, 1, 0, 1, 2, 2, 0, 0] C) (.cond (.tmp 23) .skip (.exit 0))) (.seq (.block 1 (.seq (atc [1, 1, 1, 1, 1, 1, 0, 1, 2, 2, 1, 0, 2, 0] C) (.seq (.seq (atc [1, 1, 1, 1, 1, 1, 0, 1, 2, 2, 1, 0, 2, 1, 0, 0] C) (.cond (.tmp 48) (thenT (atc [1, 1, 1, 1, 1, 1, 0, 1, 2, 2, 1, 0, 2, 1, 0] C)) .skip)) (atc [1, 1, 1, 1, 1, 1, 0, 1, 2, 2, 1, 0, 2, 1, 1] C)))) (atc [1, 1, 1, 1, 1, 1, 0, 1, 2, 2, 1, 1] C))
abbrev gkl : List (List Nat) := [[0], [1, 1, 0], [1, 1, 1, 1, 0, 0], [1, 1, 1, 1, 1, 0], [1, 1, 1, 1, 1, 1, 0, 0], [1, 1, 1, 1, 1, 1, 0, 1, 2, 2, 0, 0], [1, 1, 1, 1, 1, 1, 0, 1, 2, 2, 1, 0, 2, 0], [1, 1, 1, 1, 1, 1, 0, 1, 2, 2, 1, 0, 2, 1, 0, 0], [1, 1, 1, 1, 1, 1, 0, 1, 2, 2, 1, 0, 2, 1, 1], [1, 1, 1, 1, 1, 1, 0, 1, 2, 2, 1, 1], [1, 1, 1, 1, 1, 1, 1, 0]]
end Go.Proofs.YtfbdgdphpdhcpaaDoor
