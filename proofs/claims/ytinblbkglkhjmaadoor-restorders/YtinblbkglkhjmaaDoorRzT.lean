/-
  What realize.Turned answers, whatever it is handed. No condition but that a slice reads as a slice of numbers.
-/
import Derived.Test.YtinblbkglkhjmaaDoorRzC
import Derived.Test.YtinblbkglkhjmaaDoorReverse
import Derived.Test.YtinblbkglkhjmaaDoorClone
import Derived.Test.YtinblbkglkhjmaaDoorWrM
import Derived.Test.YtinblbkglkhjmaaDoorROf
namespace Go.Proofs.YtinblbkglkhjmaaDoor
open Go.RowKit

theorem as_world {K : Act → World → Prop} {a : Act} {w : World} (h : ∀ w', w' = w → K a w') : K a w := h _ rfl
theorem build2 {w w' : World} {x y : Value} {t : TypeId} (h : w' = w.alloc (.cells #[x, y] t)) : ∃ B, B = w.heap.size ∧ w'.cell? ⟨B, 0, none⟩ = some x ∧ w'.cell? ⟨B, 1, none⟩ = some y ∧ Below w.heap.size w w' := by
  subst h
  exact ⟨_, rfl, by simp, by simp, (Below.refl _ _).alloc (Nat.le_refl _) _⟩
theorem box25 {w w' : World} (h : w' = w.alloc (.cells #[.int .i64 0, .slice none 0 0] 24)) : ∃ B, B = w.heap.size ∧ ZBox w' B ∧ Below w.heap.size w w' := by
  subst h
  exact ⟨_, rfl, ZBox.new w, (Below.refl _ _).alloc (Nat.le_refl _) _⟩
theorem two_rows {w w' : World} {B len rc c8 : Nat} {ra a8 : Option Addr} {F : Nat → Nat → Int} (q0 : w.cell? ⟨B, 0, none⟩ = some (.slice ra len rc)) (q1 : w.cell? ⟨B, 1, none⟩ = some (.slice a8 len c8)) (h : Below w.heap.size w w') (hm : len ≤ maxLen) (h0 : Row w' ra len (F 0)) (h8 : Row w' a8 len (F 1)) :
    RR w' (some ⟨B, 0, none⟩) 2 (fun i => if i = 0 then (ra, len, rc) else (a8, len, c8)) F := fun k hk => by
  match k, hk with
  | 0, _ => exact ⟨B, 0, rfl, (h.cell (World.block_lt_of_cell? _ _ q0)).trans q0, hm, h0⟩
  | 1, _ => exact ⟨B, 0, rfl, (h.cell (World.block_lt_of_cell? _ _ q1)).trans q1, hm, h8⟩
theorem row_sets {X : World} {B : Nat} {a : Option Addr} {n : Nat} {f : Nat → Int} {u v : Value} (h : Row X a n f) (hb : ∀ b off, 0 < n → a = some ⟨b, off, none⟩ → b ≠ B) : Row ((X.setCell ⟨B, 0, none⟩ u).setCell ⟨B, 1, none⟩ v) a n f := by
  intro k hk
  obtain ⟨b, off, rfl, hc⟩ := h k hk
  have hne := hb b off (by omega) rfl
  refine ⟨b, off, rfl, ?_⟩
  rw [World.cell?_setCell_other _ _ _ _ (fun e => by injection e with e1; exact hne e1.symm), World.cell?_setCell_other _ _ _ _ (fun e => by injection e with e1; exact hne e1.symm)]
  exact hc
theorem sets_below {w X : World} {K B : Nat} {u v : Value} (h : Below K w X) (hB : K ≤ B) : Below K w ((X.setCell ⟨B, 0, none⟩ u).setCell ⟨B, 1, none⟩ v) :=
  (h.setCell (p := ⟨B, 0, none⟩) hB _).setCell (p := ⟨B, 1, none⟩) hB _
theorem sets_c0 {X : World} {B : Nat} {u v x : Value} (h : X.cell? ⟨B, 0, none⟩ = some x) : ((X.setCell ⟨B, 0, none⟩ u).setCell ⟨B, 1, none⟩ v).cell? ⟨B, 0, none⟩ = some u := by
  rw [World.cell?_setCell_other _ _ _ _ (fun e => by injection e with e1 e2; cases e2), World.cell?_setCell_same _ _ _ h]
theorem sets_c1 {X : World} {B : Nat} {u v x : Value} (h : X.cell? ⟨B, 1, none⟩ = some x) : ((X.setCell ⟨B, 0, none⟩ u).setCell ⟨B, 1, none⟩ v).cell? ⟨B, 1, none⟩ = some v :=
  World.cell?_setCell_same _ _ _ ((World.cell?_setCell_other _ _ _ _ (fun e => by injection e with e1 e2; cases e2)).trans h)
theorem zbox_at {W X : World} {B : Nat} (h : ZBox W B) (hb : Below (B + 1) W X) : ZBox X B :=
  ⟨(hb.cell (p := ⟨B, 0, none⟩) (Nat.lt_succ_self _)).trans h.1, (hb.cell (p := ⟨B, 1, none⟩) (Nat.lt_succ_self _)).trans h.2.1, (hb.frozen (p := ⟨B, 0, none⟩) (Nat.lt_succ_self _)).trans h.2.2.1, (hb.frozen (p := ⟨B, 1, none⟩) (Nat.lt_succ_self _)).trans h.2.2.2⟩
theorem pick_two {b cap n : Nat} {S : Nat → Option Addr × Nat} {g : Nat → Nat} {w : World} (h7 : n ≤ 7) (hN : ways g n 0 ≤ 10000000000) (hL : LnR w b (ways g n 0) n S (hasK g n)) :
    Calls Tryd.prog 31 #[.slice (some ⟨b, 0, none⟩) (ways g n 0) cap, .int .u64 (opn g n : Nat), .int .i64 2] w fun e w' => (∃ rv fb, e = .returned (.tuple #[rv, .bool fb]) ∧ ((fb = false ∧ rv = .slice none 0 0 ∧ pkF (hasK g n) (ways g n 0) 2 (opn g n) = none) ∨ (fb = true ∧ ∃ l : List Nat, pkF (hasK g n) (ways g n 0) 2 (opn g n) = some l ∧ w'.ownsRow w.heap.size 22 1 rv l.length (l.map fun i => .slice (S i).1 n (S i).2)))) ∧ Below w.heap.size w w' :=
  (show Calls Tryd.prog 31 #[.slice (some ⟨b, 0, none⟩) (ways g n 0) cap, .int .u64 (opn g n : Nat), .int .i64 2] w fun e w' => PkPost w.heap.size n S (pkF (hasK g n) (ways g n 0) 2 (opn g n)) e w' ∧ Below w.heap.size w w' from pick_any b _ cap n S (hasK g n) (fun i => hasK_lt h7 i) hN 1 _ w (by omega) (opn_lt h7) hL).mono fun _ _ ⟨hP, hb⟩ => ⟨by
    rcases hP with ⟨h0, rfl⟩ | ⟨l, v, hl, rfl, hown⟩
    · exact ⟨_, _, rfl, .inl ⟨rfl, rfl, h0⟩⟩
    · exact ⟨_, _, rfl, .inr ⟨rfl, l, hl, hown⟩⟩, hb⟩
theorem flip_any {w0 w : World} {base n : Nat} {v : Value} {g : Nat → Nat} (hn : n ≤ 10) (h : w.ownsRow base 3 1 v n (rowVals g n)) (hB : Below base w0 w) :
    Calls Tryd.prog 35 #[v] w fun e w' => (∃ x, e = .returned x) ∧ (∃ a cap, v = .slice a n cap ∧ Row w' a n (rvF n (fun j => ((g j : Nat) : Int)))) ∧ Below base w0 w' := by
  by_cases h0 : 0 < n
  · obtain ⟨b, cap, rfl⟩ := owns_form h h0
    have hO : Own w b n g := fun k hk => ⟨by rw [h.cellAt k (by omega), rowVals_at g n k hk], h.frozenAt k⟩
    refine (reverse_any b n cap g base w0 w hn hO hB (owns_block h b rfl)).mono fun _ _ ⟨h1, h2, h3⟩ => ⟨h1, ⟨_, _, rfl, h2.row⟩, h3⟩
  · obtain rfl : n = 0 := by omega
    obtain ⟨a, cap, rfl, _⟩ := owns_row h
    refine (reverse_none a cap w).mono fun _ _ ⟨h1, h2⟩ => ?_
    subst h2
    exact ⟨h1, ⟨_, _, rfl, fun k hk => absurd hk (Nat.not_lt_zero _)⟩, hB⟩
def TurnPost (K : Nat) (n : Int) (len : Nat) (f : Nat → Int) (e : Ending) (w' : World) : Prop :=
  ∃ c, SCk n len f c ∧ ((c ≠ 0 ∧ e = .returned (.tuple #[noOrder, .bool false, .int .i64 c])) ∨
    (c = 0 ∧ ¬ RzS (· < len) (ltU (nat f) len) 2 ∧ e = .returned (.tuple #[noOrder, .bool false, .int .i64 0])) ∨
    (c = 0 ∧ RzS (· < len) (ltU (nat f) len) 2 ∧ ∃ (a : Option Addr) (cap : Nat) (l : List Nat), pkF (hasK (nat f) len) (ways (nat f) len 0) 2 (opn (nat f) len) = some l ∧ e = .returned (.tuple #[.agg #[.int .i64 (len : Nat), .slice a len cap], .bool true, .int .i64 0]) ∧ Row w' a len (fun k => (acc (tF (nat f) len l) len 2 k : Nat)) ∧ Tnd (nat f) len (acc (tF (nat f) len l) len 2) ∧ WrB K w' (.agg #[.int .i64 (len : Nat), .slice a len cap])))

set_option maxRecDepth 100000 in
set_option maxHeartbeats 4000000 in
theorem turned_any (n : Int) (a : Option Addr) (len cap : Nat) (f : Nat → Int) (w : World) (hl : len ≤ maxLen) (hr : Row w a len f) :
    Calls Tryd.prog 12 #[.agg #[.int .i64 n, .slice a len cap]] w fun e w' => TurnPost w.heap.size n len f e w' ∧ Below w.heap.size w w' := by
  have HR0 := (show Hid (Row w a len f) from hr)
  obtain ⟨w1, HW1⟩ : ∃ w1, Hid (w1 = (w.alloc (.cells #[.int .i64 n, .slice a len cap] 24)).alloc (.cells #[.int .i64 0, .slice none 0 0] 24)) := ⟨_, rfl⟩
  have hb1 : Below w.heap.size w w1 := by rw [HW1.out]; exact ((Below.refl _ _).alloc (Nat.le_refl _) _).alloc (by simp) _
  have l0 : w1.cell? ⟨w.heap.size, 0, none⟩ = some (.int .i64 n) := by rw [HW1.out]; simp
  have l1 : w1.cell? ⟨w.heap.size, 1, none⟩ = some (.slice a len cap) := by rw [HW1.out]; simp
  have HZ1 : Hid (ZBox w1 (w.heap.size + 1)) := by
    have := ZBox.new (w.alloc (.cells #[.int .i64 n, .slice a len cap] 24))
    rw [World.size_alloc] at this
    rw [HW1.out]; exact this
  have HB1 : Hid (Below w.heap.size w w1) := hb1
  clear hr hb1
  go_enter Tryd.func12, Tryd.ntmps12
  go_wp2_with fail
  rw [← HW1.out]
  go_wp2_with fail
  refine (rcheck_any n a len cap f _ hl (HR0.out.below HB1.out)).mono ?_
  rintro e W0 ⟨⟨c, rfl, hc⟩, hb2⟩
  have HBW : Hid (Below w.heap.size w W0) := Below.then HB1.out hb2
  have HZ : Hid (ZBox W0 (w.heap.size + 1)) := HZ1.out.step hb2
  have HWL : Hid (w.heap.size + 1 < W0.heap.size) := World.block_lt_of_cell? _ _ HZ.out.1
  have g0 : W0.cell? ⟨w.heap.size, 0, none⟩ = some (.int .i64 n) := (hb2.cell (World.block_lt_of_cell? _ _ l0)).trans l0
  have g1 : W0.cell? ⟨w.heap.size, 1, none⟩ = some (.slice a len cap) := (hb2.cell (World.block_lt_of_cell? _ _ l1)).trans l1
  clear hb2 l0 l1 HW1 HB1 HZ1
  by_cases e0 : c = 0
  · subst e0
    have HSC0 : Hid (SCk n len f 0) := hc
    obtain ⟨rfl, h7, hck⟩ := hc.good
    have HSC : Hid (SCk (len : Nat) len f 0) := HSC0.out
    have HCK : Hid (Chk (len : Nat) len f 0) := hck
    obtain ⟨_, h10, hrng, hord⟩ := hck.good
    have HSM : Hid (Sm len len (nat f)) := fun k hk => by have := hrng k hk; show (f k).toNat < pw len; omega
    have HOR : Hid (Ord len (nat f)) := hord
    have HG : Hid (∀ k, k < len → nat f k < 128) := fun k hk => Nat.lt_of_lt_of_le (HSM.out k hk) (Nat.le_trans (Nat.pow_le_pow_right (by decide) h7) (by decide))
    have HWP : Hid (0 < ways (nat f) len 0) := by
      obtain ⟨R, h1, _⟩ := rz_some h10 HSM.out HOR.out
      obtain ⟨k, hk, _⟩ := rank_row h10 HSM.out (h1 0 (by omega))
      show 0 < _; omega
    have HWS : Hid (ways (nat f) len 0 ≤ 10000000000) := by have := ways_small (u := nat f) h10 (pw_pos len); show _ ≤ _; omega
    have HR : Hid (∀ w', Below W0.heap.size W0 w' → Row w' a len f) := fun w' h => HR0.out.below (Below.then HBW.out h)
    have HR2 : Hid (∀ w', Below W0.heap.size W0 w' → Row w' a len (fun k => (nat f k : Nat))) := fun w' h => hrng.row (HR.out w' h)
    have c0 : ∀ w', Below W0.heap.size W0 w' → w'.cell? ⟨w.heap.size, 0, none⟩ = some (.int .i64 (len : Nat)) := fun w' h => (h.cell (by have := HWL.out; show w.heap.size < _; omega)).trans g0
    have c1 : ∀ w', Below W0.heap.size W0 w' → w'.cell? ⟨w.heap.size, 1, none⟩ = some (.slice a len cap) := fun w' h => (h.cell (by have := HWL.out; show w.heap.size < _; omega)).trans g1
    clear g0 g1 hc hck hrng hord HSC0 HWL
    go_wp2_with fail
    refine wp_lates (S := (fun w' => Below W0.heap.size W0 w')) (late := (fun _ => false)) (by kernel_rfl) ?_
    have HS : Hid (Below W0.heap.size W0 W0.drew) := (Below.refl _ _).drew
    refine lates_take (i := 0) (oi := { dst := some 18, op := Go.Op.load 24 (Go.Operand.tmp 1), type := 24, pos := "realize.go:48", after := #[], guard := none }) (v := ?_) rfl (by kernel_rfl) (by kernel_rfl) (by kernel_rfl) ⟨rfl, by kernel_rfl⟩ (fun _ _ _ h => h) (Or.inl ⟨by rfl, ?hy⟩) HS.out ?_
    case hy => (intro w9 hSw; (have e0 := c0 _ hSw); (have e1 := c1 _ hSw); go_simp; try with_reducible rfl)
    try simp only [Act.put, List.setIfInBounds_toArray, List.set_cons_zero, List.set_cons_succ]
    refine lates_take (i := 2) (oi := { dst := some 20, op := Go.Op.load 24 (Go.Operand.tmp 1), type := 24, pos := "realize.go:48", after := #[], guard := none }) (v := ?_) rfl (by kernel_rfl) (by kernel_rfl) (by kernel_rfl) ⟨rfl, by kernel_rfl⟩ (fun _ _ _ h => h) (Or.inl ⟨by rfl, ?hy⟩) HS.out ?_
    case hy => (intro w9 hSw; (have e0 := c0 _ hSw); (have e1 := c1 _ hSw); go_simp; try with_reducible rfl)
    try simp only [Act.put, List.setIfInBounds_toArray, List.set_cons_zero, List.set_cons_succ]
    refine lates_ready (rs := [1]) (by kernel_rfl) (by simp) ?_
    refine AllLate.cons (o := { dst := some 19, op := Go.Op.call { callee := Go.Callee.value (Go.Operand.func 32), args := #[Go.Operand.tmp 18], argTypes := #[24] }, type := 57, pos := "realize.go:48", after := #[{ on := 0, ground := Go.Ground.data }], guard := none }) rfl (fun K hK => ?_) ?_
    · go_simp
      refine (lay_any len a cap f _ h7 HCK.out (HR.out _ HS.out)).mono ?_
      rintro e w3 ⟨⟨v, xs, rfl, hxs, hlin⟩, hb3⟩
      obtain ⟨b, cap3, T, rfl, hlr, hrows⟩ := hlin.lnr hxs HWP.out
      have HS3 : Hid (Below W0.heap.size W0 w3) := Below.then HS.out hb3
      have HLR : Hid (∀ w', Below w3.heap.size w3 w' → LnR w' b (ways (nat f) len 0) len T (hasK (nat f) len)) := fun w' h => hlr.step h
      have HRW : Hid (∀ w', Below w3.heap.size w3 w' → ∀ i, i < ways (nat f) len 0 → Row w' (T i).1 len (fun j => (nP (nat f) len i j : Nat))) := fun w' h i hi => (hrows i hi).below h
      clear hlr hrows hb3 hlin hxs
      refine hK.out _ _ (fun _ => ?_) ?_
      · exact HS3.out
      have HS := HS3
      clear hK K
      try simp only [Act.put, List.setIfInBounds_toArray, List.set_cons_zero, List.set_cons_succ]
      refine lates_ready (rs := [3]) (by kernel_rfl) (by simp) ?_
      refine AllLate.cons (o := { dst := some 21, op := Go.Op.call { callee := Go.Callee.value (Go.Operand.func 33), args := #[Go.Operand.tmp 20], argTypes := #[24] }, type := 60, pos := "realize.go:48", after := #[{ on := 2, ground := Go.Ground.data }, { on := 1, ground := Go.Ground.chain }], guard := none }) rfl (fun K hK => ?_) ?_
      · go_simp
        refine (undecided_any len a cap (nat f) _ h7 HG.out (HR2.out _ HS.out)).mono ?_
        rintro e w4 ⟨rfl, hb4⟩
        have HS4 : Hid (Below W0.heap.size W0 w4) := Below.then HS.out hb4
        have HB4 : Hid (Below w3.heap.size w3 w4) := hb4
        rw [show pkd (fun b => setBy (stg (nat f) b) len) len = opn (nat f) len from rfl]
        clear hb4
        refine hK.out _ _ (fun _ => ?_) ?_
        · exact HS4.out
        have HS := HS4
        clear hK K
        try simp only [Act.put, List.setIfInBounds_toArray, List.set_cons_zero, List.set_cons_succ]
        refine lates_ready (rs := [4]) (by kernel_rfl) (by simp) ?_
        refine AllLate.cons (o := { dst := some 22, op := Go.Op.call { callee := Go.Callee.value (Go.Operand.func 31), args := #[Go.Operand.tmp 19, Go.Operand.tmp 21, Go.Operand.const (Go.Value.int Go.IntKind.i64 2)], argTypes := #[57, 60, 3] }, type := 55, pos := "realize.go:48", after := #[{ on := 1, ground := Go.Ground.data }, { on := 3, ground := Go.Ground.data }, { on := 3, ground := Go.Ground.chain }], guard := none }) rfl (fun K hK => ?_) ?_
        · go_simp
          refine (pick_two h7 HWS.out (HLR.out _ HB4.out)).mono ?_
          rintro e w5 ⟨⟨rv, fb, rfl, hP⟩, hb5⟩
          have HP5 := (show Hid _ from hP)
          have HS5 : Hid (Below W0.heap.size W0 w5) := Below.then HS.out hb5
          have HB5 : Hid (Below w3.heap.size w3 w5) := Below.then HB4.out hb5
          clear hb5 hP
          refine hK.out _ _ (fun _ => ?_) ?_
          · exact HS5.out
          have HS := HS5
          clear hK K
          try simp only [Act.put, List.setIfInBounds_toArray, List.set_cons_zero, List.set_cons_succ]
          refine lates_take (i := 5) (oi := { dst := some 17, op := Go.Op.move (Go.Operand.tmp 22), type := 55, pos := "realize.go:48", after := #[{ on := 4, ground := Go.Ground.data }], guard := none }) (v := ?_) rfl (by kernel_rfl) (by kernel_rfl) (by kernel_rfl) ⟨rfl, by kernel_rfl⟩ (fun _ _ _ h => h) (Or.inl ⟨by rfl, ?hy⟩) HS.out ?_
          case hy => (intro w9 hSw; (have e0 := c0 _ hSw); (have e1 := c1 _ hSw); go_simp; try with_reducible rfl)
          try simp only [Act.put, List.setIfInBounds_toArray, List.set_cons_zero, List.set_cons_succ]
          refine lates_take (i := 6) (oi := { dst := some 23, op := Go.Op.extract (Go.Operand.tmp 17) 0, type := 54, pos := "realize.go:48", after := #[{ on := 5, ground := Go.Ground.data }], guard := none }) (v := ?_) rfl (by kernel_rfl) (by kernel_rfl) (by kernel_rfl) ⟨rfl, by kernel_rfl⟩ (fun _ _ _ h => h) (Or.inl ⟨by rfl, ?hy⟩) HS.out ?_
          case hy => (intro w9 hSw; (have e0 := c0 _ hSw); (have e1 := c1 _ hSw); go_simp; try with_reducible rfl)
          try simp only [Act.put, List.setIfInBounds_toArray, List.set_cons_zero, List.set_cons_succ]
          refine lates_take (i := 7) (oi := { dst := some 24, op := Go.Op.extract (Go.Operand.tmp 17) 1, type := 4, pos := "realize.go:48", after := #[{ on := 5, ground := Go.Ground.data }, { on := 8, ground := Go.Ground.gcOnly Go.Departure.lateStores }], guard := none }) (v := ?_) rfl (by kernel_rfl) (by kernel_rfl) (by kernel_rfl) ⟨rfl, by kernel_rfl⟩ (fun _ _ _ h => h) (Or.inl ⟨by rfl, ?hy⟩) HS.out ?_
          case hy => (intro w9 hSw; (have e0 := c0 _ hSw); (have e1 := c1 _ hSw); go_simp; try with_reducible rfl)
          try simp only [Act.put, List.setIfInBounds_toArray, List.set_cons_zero, List.set_cons_succ]
          refine lates_take (i := 8) (oi := { dst := some 6, op := Go.Op.assign (Go.Operand.tmp 23), type := 54, pos := "realize.go:48", after := #[{ on := 6, ground := Go.Ground.data }, { on := 4, ground := Go.Ground.chain }, { on := 0, ground := Go.Ground.phase }, { on := 1, ground := Go.Ground.phase }, { on := 2, ground := Go.Ground.phase }, { on := 3, ground := Go.Ground.phase }, { on := 4, ground := Go.Ground.phase }, { on := 5, ground := Go.Ground.phase }, { on := 6, ground := Go.Ground.phase }, { on := 7, ground := Go.Ground.textOnly Go.Departure.lateStores }], guard := none }) (v := ?_) rfl (by kernel_rfl) (by kernel_rfl) (by kernel_rfl) ⟨rfl, by kernel_rfl⟩ (fun _ _ _ h => h) (Or.inl ⟨by rfl, ?hy⟩) HS.out ?_
          case hy => (intro w9 hSw; (have e0 := c0 _ hSw); (have e1 := c1 _ hSw); go_simp; try with_reducible rfl)
          try simp only [Act.put, List.setIfInBounds_toArray, List.set_cons_zero, List.set_cons_succ]
          refine lates_take (i := 9) (oi := { dst := some 7, op := Go.Op.assign (Go.Operand.tmp 24), type := 4, pos := "realize.go:48", after := #[{ on := 7, ground := Go.Ground.data }, { on := 8, ground := Go.Ground.chain }, { on := 0, ground := Go.Ground.phase }, { on := 1, ground := Go.Ground.phase }, { on := 2, ground := Go.Ground.phase }, { on := 3, ground := Go.Ground.phase }, { on := 4, ground := Go.Ground.phase }, { on := 5, ground := Go.Ground.phase }, { on := 6, ground := Go.Ground.phase }, { on := 7, ground := Go.Ground.phase }, { on := 8, ground := Go.Ground.phase }], guard := none }) (v := ?_) rfl (by kernel_rfl) (by kernel_rfl) (by kernel_rfl) ⟨rfl, by kernel_rfl⟩ (fun _ _ _ h => h) (Or.inl ⟨by rfl, ?hy⟩) HS.out ?_
          case hy => (intro w9 hSw; (have e0 := c0 _ hSw); (have e1 := c1 _ hSw); go_simp; try with_reducible rfl)
          try simp only [Act.put, List.setIfInBounds_toArray, List.set_cons_zero, List.set_cons_succ]
          refine lates_done (by kernel_rfl) ?_ _
          try simp only [Act.put, List.setIfInBounds_toArray, List.set_cons_zero, List.set_cons_succ]
          rcases HP5.out with ⟨rfl, rfl, hN0⟩ | ⟨rfl, l, hl, hown⟩
          · have HNR : Hid (¬ RzS (· < len) (ltU (nat f) len) 2) := fun h => absurd hN0 ((pick_rz h7 HSM.out HOR.out (by omega)).2 h)
            have HFIN : Hid (TurnPost w.heap.size (len : Nat) len f (.returned (.tuple #[noOrder, .bool false, .int .i64 0])) ((w5.setCell ⟨w.heap.size + 1, 0, none⟩ (.int .i64 0)).setCell ⟨w.heap.size + 1, 1, none⟩ (.slice none 0 0))) := ⟨0, HSC.out, .inr (.inl ⟨rfl, HNR.out, rfl⟩)⟩
            have HBE : Hid (Below w.heap.size w ((w5.setCell ⟨w.heap.size + 1, 0, none⟩ (.int .i64 0)).setCell ⟨w.heap.size + 1, 1, none⟩ (.slice none 0 0))) := sets_below (Below.then HBW.out HS5.out) (by omega)
            obtain ⟨z0, z1, z2, z3⟩ := HZ.out.step HS5.out
            clear hN0 c0 c1 HP5
            go_wp2_with fail
            exact bodyPost_ret (v := .tuple #[noOrder, .bool false, .int .i64 0]) (by simp [results, Tryd.results12, go_sem, noOrder, z0, z1]) rfl ⟨HFIN.out, HBE.out⟩
          · obtain ⟨hl0, hl2, hcv⟩ := pick_cov h7 hl
            obtain ⟨b5, cap5, rfl⟩ := owns_form hown hl0
            obtain ⟨L1, hL1⟩ : ∃ L1, l.length = L1 + 1 := ⟨l.length - 1, by omega⟩
            have HCV : Hid (Cov (nat f) len l) := hcv
            have HRZ : Hid (RzS (· < len) (ltU (nat f) len) 2) := (pick_rz h7 HSM.out HOR.out (by omega)).1 (by rw [hl]; simp)
            obtain ⟨hon, htn⟩ := hcv.tnd h7 HSM.out hl0 hl2
            have HTN : Hid (Tnd (nat f) len (acc (tF (nat f) len l) len 2)) := htn
            have HPK : Hid (pkF (hasK (nat f) len) (ways (nat f) len 0) 2 (opn (nat f) len) = some l) := hl
            have HRC : Hid (∀ S : Nat → Option Addr × Nat × Nat, (∀ k, k < 2 → (S k).2.1 = len) → RCk (len : Nat) 2 S (tF (nat f) len l) 0) := fun S hS => .inr ⟨len, rfl, by omega, by omega, by omega, .inr ⟨rfl, fun k hk => ⟨hS k hk, hon k hk⟩⟩⟩
            have k0 : w5.cell? ⟨b5, 0, none⟩ = some (.slice (T (ix l 0)).1 len (T (ix l 0)).2) := by rw [hown.cellAt 0 (by omega)]; exact map_ix hl0
            have k1 : w5.cell? ⟨b5, L1, none⟩ = some (.slice (T (ix l L1)).1 len (T (ix l L1)).2) := by rw [hown.cellAt L1 (by omega)]; exact map_ix (by omega)
            have HT0 : Hid (∀ w', Below w5.heap.size w5 w' → Row w' (T (ix l 0)).1 len (fun j => (nP (nat f) len (ix l 0) j : Nat))) := fun w' h => HRW.out _ (Below.then HB5.out h) _ (hcv.1 _ (ix_mem hl0))
            have HT1 : Hid (Row w5 (T (ix l L1)).1 len (fun j => (nP (nat f) len (ix l L1) j : Nat))) := HRW.out _ HB5.out _ (hcv.1 _ (ix_mem (by omega)))
            have HTF : Hid (tF (nat f) len l 1 = rvF len (fun j => ((nP (nat f) len (ix l (l.length - 1)) j : Nat) : Int))) := rfl
            have HIX : Hid (ix l (l.length - 1) = ix l L1) := by rw [hL1]; rfl
            have HBW5 : Hid (Below w.heap.size w w5) := Below.then HBW.out HS5.out
            have HZ5 : Hid (ZBox w5 (w.heap.size + 1)) := HZ.out.step HS5.out
            have C0 : Hid (w5.cell? ⟨w.heap.size, 0, none⟩ = some (.int .i64 (len : Nat)) ∧ w5.cell? ⟨w.heap.size, 1, none⟩ = some (.slice a len cap)) := ⟨c0 _ HS5.out, c1 _ HS5.out⟩
            have hsub : ((l.length : Nat) : Int) - 1 = (L1 : Nat) := by omega
            have hLlt : ((L1 : Nat) : Int) < ((l.length : Nat) : Int) := by omega
            rcases hra : T (ix l 0) with ⟨ra, rc⟩
            rcases hqa : T (ix l L1) with ⟨qa, qc⟩
            rw [hra] at k0 HT0
            rw [hqa] at k1 HT1
            simp only at k0 k1 HT0 HT1
            clear hown hcv hl hon htn c0 c1 HRW HLR HB4 HB5 HS5 HS4 HS3 HS HZ HR HR2 HBW HP5 hra hqa
            generalize l.length = LL at hsub hLlt hl0 hl2 hL1 ⊢
            go_wp2_with fail
            refine (clone_any len qa qc (nP (nat f) len (ix l L1)) _ (by omega) HT1.out).mono ?_
            rintro e w7 ⟨⟨v7, rfl, hown7⟩, hb7⟩
            have HB7 : Hid (Below w5.heap.size w5 w7) := hb7
            clear hb7
            go_wp2_with fail
            refine (flip_any (by omega) hown7 HB7.out).mono ?_
            rintro e W ⟨⟨v8, rfl⟩, ⟨a8, c8, rfl, hrow8⟩, hb8⟩
            have HBW : Hid (Below w.heap.size w W) := Below.trans HBW5.out (hb8.mono HBW5.out.size)
            have HR0 : Hid (∀ w', Below W.heap.size W w' → Row w' ra len (tF (nat f) len l 0)) := fun w' h => HT0.out _ (hb8.trans (h.mono hb8.size))
            have HR8 : Hid (∀ w', Below W.heap.size W w' → Row w' a8 len (tF (nat f) len l 1)) := fun w' h => by
              rw [HTF.out, HIX.out]
              exact hrow8.below h
            have hWW : w5.heap.size ≤ W.heap.size := hb8.size
            have lt0 := World.block_lt_of_cell? _ _ C0.out.1
            have ltz := World.block_lt_of_cell? _ _ HZ5.out.1
            have ltb := World.block_lt_of_cell? _ _ k0
            simp only at lt0 ltz ltb
            have HWL : Hid (w.heap.size + 2 ≤ W.heap.size) := by show w.heap.size + 2 ≤ W.heap.size; omega
            have HZW : Hid (ZBox W (w.heap.size + 1)) := HZ5.out.step hb8
            have c0 : ∀ w', Below W.heap.size W w' → w'.cell? ⟨w.heap.size, 0, none⟩ = some (.int .i64 (len : Nat)) := fun w' h => ((hb8.trans (h.mono hb8.size)).cell (p := ⟨w.heap.size, 0, none⟩) lt0).trans C0.out.1
            have c1 : ∀ w', Below W.heap.size W w' → w'.cell? ⟨w.heap.size, 1, none⟩ = some (.slice a len cap) := fun w' h => ((hb8.trans (h.mono hb8.size)).cell (p := ⟨w.heap.size, 1, none⟩) lt0).trans C0.out.2
            have y0 : ∀ w', Below W.heap.size W w' → w'.cell? ⟨b5, 0, none⟩ = some (.slice ra len rc) := fun w' h => ((hb8.trans (h.mono hb8.size)).cell (p := ⟨b5, 0, none⟩) ltb).trans k0
            clear hown7 hrow8 hb8 HT0 HT1 k0 k1 HB7 HBW5 HZ5 C0 lt0 ltz ltb hWW hsub hLlt
            go_wp2_with fail
            refine wp_lates (S := (fun w' => Below W.heap.size W w')) (late := (fun _ => false)) (by kernel_rfl) ?_
            obtain ⟨D, HD⟩ : ∃ D, Hid (D = W.drew) := ⟨_, rfl⟩
            rw [← HD.out]
            have HS : Hid (Below W.heap.size W D) := by rw [HD.out]; exact (Below.refl _ _).drew
            have HSD : Hid (W.heap.size ≤ D.heap.size) := HS.out.size
            refine lates_take (i := 0) (oi := { dst := some 38, op := Go.Op.fieldAddr 24 (Go.Operand.tmp 1) 0, type := 0, pos := "realize.go:55", after := #[], guard := none }) (v := ?_) rfl (by kernel_rfl) (by kernel_rfl) (by kernel_rfl) ⟨rfl, by kernel_rfl⟩ (fun _ _ _ h => h) (Or.inl ⟨by rfl, ?hy⟩) HS.out ?_
            case hy => (intro w9 hSw; (have e0 := c0 _ hSw); (have e1 := c1 _ hSw); (have e2 := y0 _ hSw); go_simp; try with_reducible rfl)
            try simp only [Act.put, List.setIfInBounds_toArray, List.set_cons_zero, List.set_cons_succ]
            refine lates_take (i := 1) (oi := { dst := some 39, op := Go.Op.load 3 (Go.Operand.tmp 38), type := 3, pos := "realize.go:55", after := #[{ on := 0, ground := Go.Ground.data }], guard := none }) (v := ?_) rfl (by kernel_rfl) (by kernel_rfl) (by kernel_rfl) ⟨rfl, by kernel_rfl⟩ (fun _ _ _ h => h) (Or.inl ⟨by rfl, ?hy⟩) HS.out ?_
            case hy => (intro w9 hSw; (have e0 := c0 _ hSw); (have e1 := c1 _ hSw); (have e2 := y0 _ hSw); go_simp; try with_reducible rfl)
            try simp only [Act.put, List.setIfInBounds_toArray, List.set_cons_zero, List.set_cons_succ]
            refine lates_take (i := 2) (oi := { dst := some 40, op := Go.Op.move (Go.Operand.tmp 6), type := 54, pos := "realize.go:55", after := #[], guard := none }) (v := ?_) rfl (by kernel_rfl) (by kernel_rfl) (by kernel_rfl) ⟨rfl, by kernel_rfl⟩ (fun _ _ _ h => h) (Or.inl ⟨by rfl, ?hy⟩) HS.out ?_
            case hy => (intro w9 hSw; (have e0 := c0 _ hSw); (have e1 := c1 _ hSw); (have e2 := y0 _ hSw); go_simp; try with_reducible rfl)
            try simp only [Act.put, List.setIfInBounds_toArray, List.set_cons_zero, List.set_cons_succ]
            refine lates_take (i := 3) (oi := { dst := some 41, op := Go.Op.indexAddr 54 (Go.Operand.tmp 40) (Go.Operand.const (Go.Value.int Go.IntKind.i64 0)), type := 0, pos := "realize.go:55", after := #[{ on := 2, ground := Go.Ground.data }], guard := none }) (v := ?_) rfl (by kernel_rfl) (by kernel_rfl) (by kernel_rfl) ⟨rfl, by kernel_rfl⟩ (fun _ _ _ h => h) (Or.inl ⟨by rfl, ?hy⟩) HS.out ?_
            case hy => (intro w9 hSw; (have e0 := c0 _ hSw); (have e1 := c1 _ hSw); (have e2 := y0 _ hSw); go_simp; try with_reducible rfl)
            try simp only [Act.put, List.setIfInBounds_toArray, List.set_cons_zero, List.set_cons_succ]
            refine lates_take (i := 4) (oi := { dst := some 42, op := Go.Op.load 22 (Go.Operand.tmp 41), type := 22, pos := "realize.go:55", after := #[{ on := 3, ground := Go.Ground.data }], guard := none }) (v := ?_) rfl (by kernel_rfl) (by kernel_rfl) (by kernel_rfl) ⟨rfl, by kernel_rfl⟩ (fun _ _ _ h => h) (Or.inl ⟨by rfl, ?hy⟩) HS.out ?_
            case hy => (intro w9 hSw; (have e0 := c0 _ hSw); (have e1 := c1 _ hSw); (have e2 := y0 _ hSw); go_simp; try with_reducible rfl)
            try simp only [Act.put, List.setIfInBounds_toArray, List.set_cons_zero, List.set_cons_succ]
            refine lates_take (i := 5) (oi := { dst := some 43, op := Go.Op.move (Go.Operand.tmp 8), type := 22, pos := "realize.go:55", after := #[], guard := none }) (v := ?_) rfl (by kernel_rfl) (by kernel_rfl) (by kernel_rfl) ⟨rfl, by kernel_rfl⟩ (fun _ _ _ h => h) (Or.inl ⟨by rfl, ?hy⟩) HS.out ?_
            case hy => (intro w9 hSw; (have e0 := c0 _ hSw); (have e1 := c1 _ hSw); (have e2 := y0 _ hSw); go_simp; try with_reducible rfl)
            try simp only [Act.put, List.setIfInBounds_toArray, List.set_cons_zero, List.set_cons_succ]
            refine lates_ready (rs := [6, 11]) (by kernel_rfl) (by simp) ?_
            refine AllLate.cons (o := { dst := some 44, op := Go.Op.buildSlice 54 2 #[(0, Go.Operand.tmp 42), (1, Go.Operand.tmp 43)], type := 54, pos := "realize.go:55", after := #[{ on := 4, ground := Go.Ground.data }, { on := 5, ground := Go.Ground.data }], guard := none }) rfl (fun K hK => ?_) ?_
            · go_simp
              refine as_world (K := K) ?_
              intro w6 hw6
              obtain ⟨B6, hB6, q0, q1, hN6⟩ := build2 hw6
              rw [← hB6]
              have HN6 : Hid (Below _ _ w6) := hN6
              have HS6 : Hid (Below W.heap.size W w6) := Below.then HS.out hN6
              have HQ6 : Hid (∀ w', Below w6.heap.size w6 w' → RR w' (some ⟨B6, 0, none⟩) 2 (fun i => if i = 0 then (ra, len, rc) else (a8, len, c8)) (tF (nat f) len l)) := fun w' h => two_rows q0 q1 h (by unfold maxLen; omega) (HR0.out _ (Below.then HS6.out h)) (HR8.out _ (Below.then HS6.out h))
              clear hw6 hB6 hN6 q0 q1
              refine hK.out _ _ (fun _ => ?_) ?_
              · exact HS6.out
              have HS := HS6
              clear hK K
              try simp only [Act.put, List.setIfInBounds_toArray, List.set_cons_zero, List.set_cons_succ]
              refine lates_ready (rs := [7, 11]) (by kernel_rfl) (by simp) ?_
              refine AllLate.cons (o := { dst := some 45, op := Go.Op.call { callee := Go.Callee.value (Go.Operand.func 36), args := #[Go.Operand.tmp 39, Go.Operand.tmp 44], argTypes := #[3, 54] }, type := 29, pos := "realize.go:55", after := #[{ on := 1, ground := Go.Ground.data }, { on := 6, ground := Go.Ground.data }], guard := none }) rfl (fun K hK => ?_) ?_
              · go_simp
                refine (rOf_new (len : Nat) (some ⟨B6, 0, none⟩) 2 2 (fun i => if i = 0 then (ra, len, rc) else (a8, len, c8)) (tF (nat f) len l) _ (by decide) (by first | exact HQ6.out _ (Below.refl _ _) | exact HQ6.out _ HN11.out)).mono ?_
                rintro e w7 ⟨⟨c7, x7, rfl, hck7, ho7⟩, hb7⟩
                obtain rfl := RCk.one hck7 (HRC.out _ (fun k _ => by show (if k = 0 then (ra, len, rc) else (a8, len, c8)).2.1 = len; split <;> rfl))
                rcases ho7 with ⟨h0, _⟩ | ⟨_, ax, cx, rfl, hrow7, hnew7, hwr7⟩
                · exact absurd rfl h0
                have HN7 : Hid (Below _ _ w7) := hb7
                have HS7 : Hid (Below W.heap.size W w7) := Below.then HS.out hb7
                have HRW7 : Hid (∀ w', Below w7.heap.size w7 w' → Row w' ax len (fun k => (acc (tF (nat f) len l) len 2 k : Nat))) := fun w' h => hrow7.below h
                have HNW7 : Hid (∀ b off, ax = some ⟨b, off, none⟩ → (World.heap _).size ≤ b) := hnew7
                have HLT7 : Hid (∀ b off, 0 < len → ax = some ⟨b, off, none⟩ → b < w7.heap.size) := fun b off hl e => by
                    obtain ⟨b', off', e', hv⟩ := hrow7 0 hl
                    rw [e] at e'; cases e'
                    exact World.block_lt_of_cell? _ _ hv
                have HWR7 : Hid (∀ k, k < len → ∃ b, ax = some ⟨b, 0, none⟩ ∧ w7.frozen? ⟨b, k, none⟩ = false) := hwr7
                clear hb7 hck7 hrow7 hnew7 hwr7
                refine hK.out _ _ (fun _ => ?_) ?_
                · exact HS7.out
                have HS := HS7
                try (have hz7 : ZBox w7 B11 := (by first | exact HP11.out w7 HN7.out | exact HP11.out w7 (Below.then HN6.out HN7.out)))
                try (obtain ⟨p0, p1, p2, p3⟩ := hz7)
                clear hK K
                try simp only [Act.put, List.setIfInBounds_toArray, List.set_cons_zero, List.set_cons_succ]
                refine lates_take (i := 8) (oi := { dst := some 37, op := Go.Op.move (Go.Operand.tmp 45), type := 29, pos := "realize.go:55", after := #[{ on := 7, ground := Go.Ground.data }], guard := none }) (v := ?_) rfl (by kernel_rfl) (by kernel_rfl) (by kernel_rfl) ⟨rfl, by kernel_rfl⟩ (fun _ _ _ h => h) (Or.inl ⟨by rfl, ?hy⟩) HS.out ?_
                case hy => (intro w9 hSw; (have e0 := c0 _ hSw); (have e1 := c1 _ hSw); (have e2 := y0 _ hSw); go_simp; try with_reducible rfl)
                try simp only [Act.put, List.setIfInBounds_toArray, List.set_cons_zero, List.set_cons_succ]
                refine lates_take (i := 9) (oi := { dst := some 46, op := Go.Op.extract (Go.Operand.tmp 37) 0, type := 24, pos := "realize.go:55", after := #[{ on := 8, ground := Go.Ground.data }], guard := none }) (v := ?_) rfl (by kernel_rfl) (by kernel_rfl) (by kernel_rfl) ⟨rfl, by kernel_rfl⟩ (fun _ _ _ h => h) (Or.inl ⟨by rfl, ?hy⟩) HS.out ?_
                case hy => (intro w9 hSw; (have e0 := c0 _ hSw); (have e1 := c1 _ hSw); (have e2 := y0 _ hSw); go_simp; try with_reducible rfl)
                try simp only [Act.put, List.setIfInBounds_toArray, List.set_cons_zero, List.set_cons_succ]
                refine lates_takeM [13] (i := 10) (oi := { dst := some 47, op := Go.Op.extract (Go.Operand.tmp 37) 1, type := 28, pos := "realize.go:55", after := #[{ on := 8, ground := Go.Ground.data }, { on := 12, ground := Go.Ground.gcOnly Go.Departure.lateStores }], guard := none }) (v := ?_) rfl (by kernel_rfl) (by kernel_rfl) (by kernel_rfl) (by kernel_rfl) (by kernel_rfl) (fun _ _ _ h => h) (Or.inl ⟨by rfl, ?hy⟩) HS.out ?_
                case hy => (intro w9 hSw; (have e0 := c0 _ hSw); (have e1 := c1 _ hSw); (have e2 := y0 _ hSw); go_simp; try with_reducible rfl)
                try simp only [Act.put, List.setIfInBounds_toArray, List.set_cons_zero, List.set_cons_succ]
                refine lates_ready (rs := [11]) (by kernel_rfl) (by simp) ?_
                refine AllLate.cons (o := { dst := some 9, op := Go.Op.alloc 24, type := 0, pos := "realize.go:55", after := #[], guard := none }) rfl (fun K hK => ?_) ?_
                · go_simp
                  refine as_world (K := K) ?_
                  intro w11 hw11
                  obtain ⟨B11, hB11, hz11, hN11⟩ := box25 hw11
                  rw [← hB11]
                  have HN11 : Hid (Below _ _ w11) := hN11
                  have HB11 : Hid (B11 = (World.heap _).size) := hB11
                  have HS11 : Hid (Below W.heap.size W w11) := Below.then HS.out hN11
                  have HP11 : Hid (∀ w', Below w11.heap.size w11 w' → ZBox w' B11) := fun w' h => hz11.step h
                  have HL11 : Hid (B11 < w11.heap.size) := World.block_lt_of_cell? _ _ hz11.1
                  clear hw11 hB11 hN11
                  refine hK.out _ _ (fun _ => ?_) ?_
                  · exact HS11.out
                  have HS := HS11
                  obtain ⟨p0, p1, p2, p3⟩ := hz11
                  clear hK K
                  try simp only [Act.put, List.setIfInBounds_toArray, List.set_cons_zero, List.set_cons_succ]
                  refine lates_ready (rs := [12]) (by kernel_rfl) (by simp) ?_
                  refine AllLate.cons (o := { dst := none, op := Go.Op.store 24 (Go.Operand.tmp 9) (Go.Operand.tmp 46), type := 0, pos := "realize.go:55", after := #[{ on := 11, ground := Go.Ground.data }, { on := 9, ground := Go.Ground.data }, { on := 7, ground := Go.Ground.chain }, { on := 0, ground := Go.Ground.phase }, { on := 1, ground := Go.Ground.phase }, { on := 2, ground := Go.Ground.phase }, { on := 3, ground := Go.Ground.phase }, { on := 4, ground := Go.Ground.phase }, { on := 5, ground := Go.Ground.phase }, { on := 6, ground := Go.Ground.phase }, { on := 7, ground := Go.Ground.phase }, { on := 8, ground := Go.Ground.phase }, { on := 9, ground := Go.Ground.phase }, { on := 10, ground := Go.Ground.textOnly Go.Departure.lateStores }, { on := 11, ground := Go.Ground.phase }], guard := none }) rfl (fun K hK => ?_) ?_
                  · go_simp
                    refine as_world (K := K) ?_
                    intro w12 hw12
                    have HWW : Hid (w12 = _) := hw12
                    clear hw12
                    have HBT : Hid (W.heap.size ≤ B11) := by
                      have h1 := HB11.out
                      show W.heap.size ≤ B11
                      first
                        | (have h3 := HS7.out.size; omega)
                        | (have h3 := HS6.out.size; omega)
                        | (have h3 := HSD.out; omega)
                    have HS12 : Hid (Below W.heap.size W w12) := by
                      rw [HWW.out]
                      exact sets_below HS.out HBT.out
                    refine hK.out _ _ (fun _ => ?_) ?_
                    · exact HS12.out
                    have HSO := HS
                    have HS := HS12
                    clear hK K
                    try simp only [Act.put, List.setIfInBounds_toArray, List.set_cons_zero, List.set_cons_succ]
                    refine lates_take (i := 13) (oi := { dst := some 10, op := Go.Op.assign (Go.Operand.tmp 47), type := 28, pos := "realize.go:55", after := #[{ on := 10, ground := Go.Ground.data }, { on := 12, ground := Go.Ground.chain }, { on := 0, ground := Go.Ground.phase }, { on := 1, ground := Go.Ground.phase }, { on := 2, ground := Go.Ground.phase }, { on := 3, ground := Go.Ground.phase }, { on := 4, ground := Go.Ground.phase }, { on := 5, ground := Go.Ground.phase }, { on := 6, ground := Go.Ground.phase }, { on := 7, ground := Go.Ground.phase }, { on := 8, ground := Go.Ground.phase }, { on := 9, ground := Go.Ground.phase }, { on := 10, ground := Go.Ground.phase }, { on := 11, ground := Go.Ground.phase }, { on := 12, ground := Go.Ground.phase }], guard := none }) (v := ?_) rfl (by kernel_rfl) (by kernel_rfl) (by kernel_rfl) ⟨rfl, by kernel_rfl⟩ (fun _ _ _ h => h) (Or.inl ⟨by rfl, ?hy⟩) HS.out ?_
                    case hy => (intro w9 hSw; (have e0 := c0 _ hSw); (have e1 := c1 _ hSw); (have e2 := y0 _ hSw); go_simp; try with_reducible rfl)
                    try simp only [Act.put, List.setIfInBounds_toArray, List.set_cons_zero, List.set_cons_succ]
                    refine lates_done (by kernel_rfl) ?_ _
                    try simp only [Act.put, List.setIfInBounds_toArray, List.set_cons_zero, List.set_cons_succ]
                    have HNE : Hid (∀ b off, 0 < len → ax = some ⟨b, off, none⟩ → b ≠ B11) := fun b off hl e => by
                      have h1 := HLT7.out b off hl e
                      have h2 := HNW7.out b off e
                      have h3 := HL11.out
                      first
                        | (have h4 := HN6.out.size; omega)
                        | (have h4 := HB11.out; have h5 := HN11.out.size; omega)
                        | omega
                    have HRF : Hid (Row w12 ax len (fun k => (acc (tF (nat f) len l) len 2 k : Nat))) := by
                      rw [HWW.out]
                      exact row_sets (by first | exact HRW7.out _ (Below.refl _ _) | exact HRW7.out _ HN11.out) HNE.out
                    have HWF : Hid (WrB w.heap.size ((w12.setCell ⟨w.heap.size + 1, 0, none⟩ (.int .i64 (len : Nat))).setCell ⟨w.heap.size + 1, 1, none⟩ (.slice ax len cx)) (.agg #[.int .i64 (len : Nat), .slice ax len cx])) := fun N' a' l' cp' e k hk => by
                      simp at e
                      obtain ⟨_, rfl, rfl, _⟩ := e
                      obtain ⟨b, e1, e2⟩ := HWR7.out k hk
                      have h2 := HNW7.out b 0 e1
                      have h3 := HWL.out
                      have h4 := HS6.out.size
                      have h6 := HLT7.out b 0 (by omega) e1
                      have hlt12 : w7.heap.size ≤ w12.heap.size ∧ w12.frozen? ⟨b, k, none⟩ = false := by
                        rw [HWW.out]
                        first
                          | (refine ⟨by simp, ?_⟩; rw [World.frozen?_setCell, World.frozen?_setCell]; exact e2)
                          | (refine ⟨by simpa using HN11.out.size, ?_⟩; rw [World.frozen?_setCell, World.frozen?_setCell]; exact (HN11.out.frozen (p := ⟨b, k, none⟩) h6).trans e2)
                      refine ⟨b, e1, ⟨?_, ?_⟩, ?_⟩
                      · first
                          | omega
                          | (have h5 := HN11.out.size; omega)
                      · have := hlt12.1
                        simp
                        omega
                      · rw [World.frozen?_setCell, World.frozen?_setCell]; exact hlt12.2
                    have HB12 : Hid (Below (w.heap.size + 2) W w12) := HS12.out.mono (by have := HWL.out; omega)
                    have g0 : w12.cell? ⟨B11, 0, none⟩ = some (.int .i64 (len : Nat)) := by rw [HWW.out]; exact sets_c0 p0
                    have g1 : w12.cell? ⟨B11, 1, none⟩ = some (.slice ax len cx) := by rw [HWW.out]; exact sets_c1 p1
                    have HNA : Hid (∀ b off, 0 < len → ax = some ⟨b, off, none⟩ → b ≠ w.heap.size + 1) := fun b off hl e => by
                      have h2 := HNW7.out b off e
                      have h3 := HWL.out
                      have h4 := HS6.out.size
                      first
                        | omega
                        | (have h5 := HN11.out.size; omega)
                    obtain ⟨z0, z1, z2, z3⟩ := zbox_at HZW.out HB12.out
                    have HRE : Hid (Row ((w12.setCell ⟨w.heap.size + 1, 0, none⟩ (.int .i64 (len : Nat))).setCell ⟨w.heap.size + 1, 1, none⟩ (.slice ax len cx)) ax len (fun k => (acc (tF (nat f) len l) len 2 k : Nat))) := row_sets HRF.out HNA.out
                    have HBE : Hid (Below w.heap.size w ((w12.setCell ⟨w.heap.size + 1, 0, none⟩ (.int .i64 (len : Nat))).setCell ⟨w.heap.size + 1, 1, none⟩ (.slice ax len cx))) := sets_below (Below.trans HBW.out (HB12.out.mono (by omega))) (by omega)
                    have HFIN : Hid (TurnPost w.heap.size (len : Nat) len f (.returned (.tuple #[.agg #[.int .i64 (len : Nat), .slice ax len cx], .bool true, .int .i64 0])) ((w12.setCell ⟨w.heap.size + 1, 0, none⟩ (.int .i64 (len : Nat))).setCell ⟨w.heap.size + 1, 1, none⟩ (.slice ax len cx))) := ⟨0, HSC.out, .inr (.inr ⟨rfl, HRZ.out, ax, cx, l, HPK.out, rfl, HRE.out, HTN.out, HWF.out⟩)⟩
                    clear HWF HWR7 p0 p1 p2 p3 HNE HNA HRF HRE HQ6 HS6 HS7 HS11 HS HN6 HN7 HN11 HP11 HL11 HB11 HRW7 HNW7 HLT7 HBT HB12 HWW HS12 HSO
                    go_wp2_with fail
                    exact bodyPost_ret (v := .tuple #[.agg #[.int .i64 (len : Nat), .slice ax len cx], .bool true, .int .i64 0]) (by simp [results, Tryd.results12, go_sem, z0, z1]) rfl ⟨HFIN.out, HBE.out⟩
                  exact AllLate.nil
                exact AllLate.nil
              refine AllLate.cons (o := { dst := some 9, op := Go.Op.alloc 24, type := 0, pos := "realize.go:55", after := #[], guard := none }) rfl (fun K hK => ?_) ?_
              · go_simp
                refine as_world (K := K) ?_
                intro w11 hw11
                obtain ⟨B11, hB11, hz11, hN11⟩ := box25 hw11
                rw [← hB11]
                have HN11 : Hid (Below _ _ w11) := hN11
                have HB11 : Hid (B11 = (World.heap _).size) := hB11
                have HS11 : Hid (Below W.heap.size W w11) := Below.then HS.out hN11
                have HP11 : Hid (∀ w', Below w11.heap.size w11 w' → ZBox w' B11) := fun w' h => hz11.step h
                have HL11 : Hid (B11 < w11.heap.size) := World.block_lt_of_cell? _ _ hz11.1
                clear hw11 hB11 hN11
                refine hK.out _ _ (fun _ => ?_) ?_
                · exact HS11.out
                have HS := HS11
                obtain ⟨p0, p1, p2, p3⟩ := hz11
                clear hK K
                try simp only [Act.put, List.setIfInBounds_toArray, List.set_cons_zero, List.set_cons_succ]
                refine lates_ready (rs := [7]) (by kernel_rfl) (by simp) ?_
                refine AllLate.cons (o := { dst := some 45, op := Go.Op.call { callee := Go.Callee.value (Go.Operand.func 36), args := #[Go.Operand.tmp 39, Go.Operand.tmp 44], argTypes := #[3, 54] }, type := 29, pos := "realize.go:55", after := #[{ on := 1, ground := Go.Ground.data }, { on := 6, ground := Go.Ground.data }], guard := none }) rfl (fun K hK => ?_) ?_
                · go_simp
                  refine (rOf_new (len : Nat) (some ⟨B6, 0, none⟩) 2 2 (fun i => if i = 0 then (ra, len, rc) else (a8, len, c8)) (tF (nat f) len l) _ (by decide) (by first | exact HQ6.out _ (Below.refl _ _) | exact HQ6.out _ HN11.out)).mono ?_
                  rintro e w7 ⟨⟨c7, x7, rfl, hck7, ho7⟩, hb7⟩
                  obtain rfl := RCk.one hck7 (HRC.out _ (fun k _ => by show (if k = 0 then (ra, len, rc) else (a8, len, c8)).2.1 = len; split <;> rfl))
                  rcases ho7 with ⟨h0, _⟩ | ⟨_, ax, cx, rfl, hrow7, hnew7, hwr7⟩
                  · exact absurd rfl h0
                  have HN7 : Hid (Below _ _ w7) := hb7
                  have HS7 : Hid (Below W.heap.size W w7) := Below.then HS.out hb7
                  have HRW7 : Hid (∀ w', Below w7.heap.size w7 w' → Row w' ax len (fun k => (acc (tF (nat f) len l) len 2 k : Nat))) := fun w' h => hrow7.below h
                  have HNW7 : Hid (∀ b off, ax = some ⟨b, off, none⟩ → (World.heap _).size ≤ b) := hnew7
                  have HLT7 : Hid (∀ b off, 0 < len → ax = some ⟨b, off, none⟩ → b < w7.heap.size) := fun b off hl e => by
                      obtain ⟨b', off', e', hv⟩ := hrow7 0 hl
                      rw [e] at e'; cases e'
                      exact World.block_lt_of_cell? _ _ hv
                  have HWR7 : Hid (∀ k, k < len → ∃ b, ax = some ⟨b, 0, none⟩ ∧ w7.frozen? ⟨b, k, none⟩ = false) := hwr7
                  clear hb7 hck7 hrow7 hnew7 hwr7
                  refine hK.out _ _ (fun _ => ?_) ?_
                  · exact HS7.out
                  have HS := HS7
                  try (have hz7 : ZBox w7 B11 := (by first | exact HP11.out w7 HN7.out | exact HP11.out w7 (Below.then HN6.out HN7.out)))
                  try (obtain ⟨p0, p1, p2, p3⟩ := hz7)
                  clear hK K
                  try simp only [Act.put, List.setIfInBounds_toArray, List.set_cons_zero, List.set_cons_succ]
                  refine lates_take (i := 8) (oi := { dst := some 37, op := Go.Op.move (Go.Operand.tmp 45), type := 29, pos := "realize.go:55", after := #[{ on := 7, ground := Go.Ground.data }], guard := none }) (v := ?_) rfl (by kernel_rfl) (by kernel_rfl) (by kernel_rfl) ⟨rfl, by kernel_rfl⟩ (fun _ _ _ h => h) (Or.inl ⟨by rfl, ?hy⟩) HS.out ?_
                  case hy => (intro w9 hSw; (have e0 := c0 _ hSw); (have e1 := c1 _ hSw); (have e2 := y0 _ hSw); go_simp; try with_reducible rfl)
                  try simp only [Act.put, List.setIfInBounds_toArray, List.set_cons_zero, List.set_cons_succ]
                  refine lates_take (i := 9) (oi := { dst := some 46, op := Go.Op.extract (Go.Operand.tmp 37) 0, type := 24, pos := "realize.go:55", after := #[{ on := 8, ground := Go.Ground.data }], guard := none }) (v := ?_) rfl (by kernel_rfl) (by kernel_rfl) (by kernel_rfl) ⟨rfl, by kernel_rfl⟩ (fun _ _ _ h => h) (Or.inl ⟨by rfl, ?hy⟩) HS.out ?_
                  case hy => (intro w9 hSw; (have e0 := c0 _ hSw); (have e1 := c1 _ hSw); (have e2 := y0 _ hSw); go_simp; try with_reducible rfl)
                  try simp only [Act.put, List.setIfInBounds_toArray, List.set_cons_zero, List.set_cons_succ]
                  refine lates_takeM [13] (i := 10) (oi := { dst := some 47, op := Go.Op.extract (Go.Operand.tmp 37) 1, type := 28, pos := "realize.go:55", after := #[{ on := 8, ground := Go.Ground.data }, { on := 12, ground := Go.Ground.gcOnly Go.Departure.lateStores }], guard := none }) (v := ?_) rfl (by kernel_rfl) (by kernel_rfl) (by kernel_rfl) (by kernel_rfl) (by kernel_rfl) (fun _ _ _ h => h) (Or.inl ⟨by rfl, ?hy⟩) HS.out ?_
                  case hy => (intro w9 hSw; (have e0 := c0 _ hSw); (have e1 := c1 _ hSw); (have e2 := y0 _ hSw); go_simp; try with_reducible rfl)
                  try simp only [Act.put, List.setIfInBounds_toArray, List.set_cons_zero, List.set_cons_succ]
                  refine lates_ready (rs := [12]) (by kernel_rfl) (by simp) ?_
                  refine AllLate.cons (o := { dst := none, op := Go.Op.store 24 (Go.Operand.tmp 9) (Go.Operand.tmp 46), type := 0, pos := "realize.go:55", after := #[{ on := 11, ground := Go.Ground.data }, { on := 9, ground := Go.Ground.data }, { on := 7, ground := Go.Ground.chain }, { on := 0, ground := Go.Ground.phase }, { on := 1, ground := Go.Ground.phase }, { on := 2, ground := Go.Ground.phase }, { on := 3, ground := Go.Ground.phase }, { on := 4, ground := Go.Ground.phase }, { on := 5, ground := Go.Ground.phase }, { on := 6, ground := Go.Ground.phase }, { on := 7, ground := Go.Ground.phase }, { on := 8, ground := Go.Ground.phase }, { on := 9, ground := Go.Ground.phase }, { on := 10, ground := Go.Ground.textOnly Go.Departure.lateStores }, { on := 11, ground := Go.Ground.phase }], guard := none }) rfl (fun K hK => ?_) ?_
                  · go_simp
                    refine as_world (K := K) ?_
                    intro w12 hw12
                    have HWW : Hid (w12 = _) := hw12
                    clear hw12
                    have HBT : Hid (W.heap.size ≤ B11) := by
                      have h1 := HB11.out
                      show W.heap.size ≤ B11
                      first
                        | (have h3 := HS7.out.size; omega)
                        | (have h3 := HS6.out.size; omega)
                        | (have h3 := HSD.out; omega)
                    have HS12 : Hid (Below W.heap.size W w12) := by
                      rw [HWW.out]
                      exact sets_below HS.out HBT.out
                    refine hK.out _ _ (fun _ => ?_) ?_
                    · exact HS12.out
                    have HSO := HS
                    have HS := HS12
                    clear hK K
                    try simp only [Act.put, List.setIfInBounds_toArray, List.set_cons_zero, List.set_cons_succ]
                    refine lates_take (i := 13) (oi := { dst := some 10, op := Go.Op.assign (Go.Operand.tmp 47), type := 28, pos := "realize.go:55", after := #[{ on := 10, ground := Go.Ground.data }, { on := 12, ground := Go.Ground.chain }, { on := 0, ground := Go.Ground.phase }, { on := 1, ground := Go.Ground.phase }, { on := 2, ground := Go.Ground.phase }, { on := 3, ground := Go.Ground.phase }, { on := 4, ground := Go.Ground.phase }, { on := 5, ground := Go.Ground.phase }, { on := 6, ground := Go.Ground.phase }, { on := 7, ground := Go.Ground.phase }, { on := 8, ground := Go.Ground.phase }, { on := 9, ground := Go.Ground.phase }, { on := 10, ground := Go.Ground.phase }, { on := 11, ground := Go.Ground.phase }, { on := 12, ground := Go.Ground.phase }], guard := none }) (v := ?_) rfl (by kernel_rfl) (by kernel_rfl) (by kernel_rfl) ⟨rfl, by kernel_rfl⟩ (fun _ _ _ h => h) (Or.inl ⟨by rfl, ?hy⟩) HS.out ?_
                    case hy => (intro w9 hSw; (have e0 := c0 _ hSw); (have e1 := c1 _ hSw); (have e2 := y0 _ hSw); go_simp; try with_reducible rfl)
                    try simp only [Act.put, List.setIfInBounds_toArray, List.set_cons_zero, List.set_cons_succ]
                    refine lates_done (by kernel_rfl) ?_ _
                    try simp only [Act.put, List.setIfInBounds_toArray, List.set_cons_zero, List.set_cons_succ]
                    have HNE : Hid (∀ b off, 0 < len → ax = some ⟨b, off, none⟩ → b ≠ B11) := fun b off hl e => by
                      have h1 := HLT7.out b off hl e
                      have h2 := HNW7.out b off e
                      have h3 := HL11.out
                      first
                        | (have h4 := HN6.out.size; omega)
                        | (have h4 := HB11.out; have h5 := HN11.out.size; omega)
                        | omega
                    have HRF : Hid (Row w12 ax len (fun k => (acc (tF (nat f) len l) len 2 k : Nat))) := by
                      rw [HWW.out]
                      exact row_sets (by first | exact HRW7.out _ (Below.refl _ _) | exact HRW7.out _ HN11.out) HNE.out
                    have HWF : Hid (WrB w.heap.size ((w12.setCell ⟨w.heap.size + 1, 0, none⟩ (.int .i64 (len : Nat))).setCell ⟨w.heap.size + 1, 1, none⟩ (.slice ax len cx)) (.agg #[.int .i64 (len : Nat), .slice ax len cx])) := fun N' a' l' cp' e k hk => by
                      simp at e
                      obtain ⟨_, rfl, rfl, _⟩ := e
                      obtain ⟨b, e1, e2⟩ := HWR7.out k hk
                      have h2 := HNW7.out b 0 e1
                      have h3 := HWL.out
                      have h4 := HS6.out.size
                      have h6 := HLT7.out b 0 (by omega) e1
                      have hlt12 : w7.heap.size ≤ w12.heap.size ∧ w12.frozen? ⟨b, k, none⟩ = false := by
                        rw [HWW.out]
                        first
                          | (refine ⟨by simp, ?_⟩; rw [World.frozen?_setCell, World.frozen?_setCell]; exact e2)
                          | (refine ⟨by simpa using HN11.out.size, ?_⟩; rw [World.frozen?_setCell, World.frozen?_setCell]; exact (HN11.out.frozen (p := ⟨b, k, none⟩) h6).trans e2)
                      refine ⟨b, e1, ⟨?_, ?_⟩, ?_⟩
                      · first
                          | omega
                          | (have h5 := HN11.out.size; omega)
                      · have := hlt12.1
                        simp
                        omega
                      · rw [World.frozen?_setCell, World.frozen?_setCell]; exact hlt12.2
                    have HB12 : Hid (Below (w.heap.size + 2) W w12) := HS12.out.mono (by have := HWL.out; omega)
                    have g0 : w12.cell? ⟨B11, 0, none⟩ = some (.int .i64 (len : Nat)) := by rw [HWW.out]; exact sets_c0 p0
                    have g1 : w12.cell? ⟨B11, 1, none⟩ = some (.slice ax len cx) := by rw [HWW.out]; exact sets_c1 p1
                    have HNA : Hid (∀ b off, 0 < len → ax = some ⟨b, off, none⟩ → b ≠ w.heap.size + 1) := fun b off hl e => by
                      have h2 := HNW7.out b off e
                      have h3 := HWL.out
                      have h4 := HS6.out.size
                      first
                        | omega
                        | (have h5 := HN11.out.size; omega)
                    obtain ⟨z0, z1, z2, z3⟩ := zbox_at HZW.out HB12.out
                    have HRE : Hid (Row ((w12.setCell ⟨w.heap.size + 1, 0, none⟩ (.int .i64 (len : Nat))).setCell ⟨w.heap.size + 1, 1, none⟩ (.slice ax len cx)) ax len (fun k => (acc (tF (nat f) len l) len 2 k : Nat))) := row_sets HRF.out HNA.out
                    have HBE : Hid (Below w.heap.size w ((w12.setCell ⟨w.heap.size + 1, 0, none⟩ (.int .i64 (len : Nat))).setCell ⟨w.heap.size + 1, 1, none⟩ (.slice ax len cx))) := sets_below (Below.trans HBW.out (HB12.out.mono (by omega))) (by omega)
                    have HFIN : Hid (TurnPost w.heap.size (len : Nat) len f (.returned (.tuple #[.agg #[.int .i64 (len : Nat), .slice ax len cx], .bool true, .int .i64 0])) ((w12.setCell ⟨w.heap.size + 1, 0, none⟩ (.int .i64 (len : Nat))).setCell ⟨w.heap.size + 1, 1, none⟩ (.slice ax len cx))) := ⟨0, HSC.out, .inr (.inr ⟨rfl, HRZ.out, ax, cx, l, HPK.out, rfl, HRE.out, HTN.out, HWF.out⟩)⟩
                    clear HWF HWR7 p0 p1 p2 p3 HNE HNA HRF HRE HQ6 HS6 HS7 HS11 HS HN6 HN7 HN11 HP11 HL11 HB11 HRW7 HNW7 HLT7 HBT HB12 HWW HS12 HSO
                    go_wp2_with fail
                    exact bodyPost_ret (v := .tuple #[.agg #[.int .i64 (len : Nat), .slice ax len cx], .bool true, .int .i64 0]) (by simp [results, Tryd.results12, go_sem, z0, z1]) rfl ⟨HFIN.out, HBE.out⟩
                  exact AllLate.nil
                exact AllLate.nil
              exact AllLate.nil
            refine AllLate.cons (o := { dst := some 9, op := Go.Op.alloc 24, type := 0, pos := "realize.go:55", after := #[], guard := none }) rfl (fun K hK => ?_) ?_
            · go_simp
              refine as_world (K := K) ?_
              intro w11 hw11
              obtain ⟨B11, hB11, hz11, hN11⟩ := box25 hw11
              rw [← hB11]
              have HN11 : Hid (Below _ _ w11) := hN11
              have HB11 : Hid (B11 = (World.heap _).size) := hB11
              have HS11 : Hid (Below W.heap.size W w11) := Below.then HS.out hN11
              have HP11 : Hid (∀ w', Below w11.heap.size w11 w' → ZBox w' B11) := fun w' h => hz11.step h
              have HL11 : Hid (B11 < w11.heap.size) := World.block_lt_of_cell? _ _ hz11.1
              clear hw11 hB11 hN11
              refine hK.out _ _ (fun _ => ?_) ?_
              · exact HS11.out
              have HS := HS11
              obtain ⟨p0, p1, p2, p3⟩ := hz11
              clear hK K
              try simp only [Act.put, List.setIfInBounds_toArray, List.set_cons_zero, List.set_cons_succ]
              refine lates_ready (rs := [6]) (by kernel_rfl) (by simp) ?_
              refine AllLate.cons (o := { dst := some 44, op := Go.Op.buildSlice 54 2 #[(0, Go.Operand.tmp 42), (1, Go.Operand.tmp 43)], type := 54, pos := "realize.go:55", after := #[{ on := 4, ground := Go.Ground.data }, { on := 5, ground := Go.Ground.data }], guard := none }) rfl (fun K hK => ?_) ?_
              · go_simp
                refine as_world (K := K) ?_
                intro w6 hw6
                obtain ⟨B6, hB6, q0, q1, hN6⟩ := build2 hw6
                rw [← hB6]
                have HN6 : Hid (Below _ _ w6) := hN6
                have HS6 : Hid (Below W.heap.size W w6) := Below.then HS.out hN6
                have HQ6 : Hid (∀ w', Below w6.heap.size w6 w' → RR w' (some ⟨B6, 0, none⟩) 2 (fun i => if i = 0 then (ra, len, rc) else (a8, len, c8)) (tF (nat f) len l)) := fun w' h => two_rows q0 q1 h (by unfold maxLen; omega) (HR0.out _ (Below.then HS6.out h)) (HR8.out _ (Below.then HS6.out h))
                clear hw6 hB6 hN6 q0 q1
                refine hK.out _ _ (fun _ => ?_) ?_
                · exact HS6.out
                have HS := HS6
                clear hK K
                try simp only [Act.put, List.setIfInBounds_toArray, List.set_cons_zero, List.set_cons_succ]
                refine lates_ready (rs := [7]) (by kernel_rfl) (by simp) ?_
                refine AllLate.cons (o := { dst := some 45, op := Go.Op.call { callee := Go.Callee.value (Go.Operand.func 36), args := #[Go.Operand.tmp 39, Go.Operand.tmp 44], argTypes := #[3, 54] }, type := 29, pos := "realize.go:55", after := #[{ on := 1, ground := Go.Ground.data }, { on := 6, ground := Go.Ground.data }], guard := none }) rfl (fun K hK => ?_) ?_
                · go_simp
                  refine (rOf_new (len : Nat) (some ⟨B6, 0, none⟩) 2 2 (fun i => if i = 0 then (ra, len, rc) else (a8, len, c8)) (tF (nat f) len l) _ (by decide) (by first | exact HQ6.out _ (Below.refl _ _) | exact HQ6.out _ HN11.out)).mono ?_
                  rintro e w7 ⟨⟨c7, x7, rfl, hck7, ho7⟩, hb7⟩
                  obtain rfl := RCk.one hck7 (HRC.out _ (fun k _ => by show (if k = 0 then (ra, len, rc) else (a8, len, c8)).2.1 = len; split <;> rfl))
                  rcases ho7 with ⟨h0, _⟩ | ⟨_, ax, cx, rfl, hrow7, hnew7, hwr7⟩
                  · exact absurd rfl h0
                  have HN7 : Hid (Below _ _ w7) := hb7
                  have HS7 : Hid (Below W.heap.size W w7) := Below.then HS.out hb7
                  have HRW7 : Hid (∀ w', Below w7.heap.size w7 w' → Row w' ax len (fun k => (acc (tF (nat f) len l) len 2 k : Nat))) := fun w' h => hrow7.below h
                  have HNW7 : Hid (∀ b off, ax = some ⟨b, off, none⟩ → (World.heap _).size ≤ b) := hnew7
                  have HLT7 : Hid (∀ b off, 0 < len → ax = some ⟨b, off, none⟩ → b < w7.heap.size) := fun b off hl e => by
                      obtain ⟨b', off', e', hv⟩ := hrow7 0 hl
                      rw [e] at e'; cases e'
                      exact World.block_lt_of_cell? _ _ hv
                  have HWR7 : Hid (∀ k, k < len → ∃ b, ax = some ⟨b, 0, none⟩ ∧ w7.frozen? ⟨b, k, none⟩ = false) := hwr7
                  clear hb7 hck7 hrow7 hnew7 hwr7
                  refine hK.out _ _ (fun _ => ?_) ?_
                  · exact HS7.out
                  have HS := HS7
                  try (have hz7 : ZBox w7 B11 := (by first | exact HP11.out w7 HN7.out | exact HP11.out w7 (Below.then HN6.out HN7.out)))
                  try (obtain ⟨p0, p1, p2, p3⟩ := hz7)
                  clear hK K
                  try simp only [Act.put, List.setIfInBounds_toArray, List.set_cons_zero, List.set_cons_succ]
                  refine lates_take (i := 8) (oi := { dst := some 37, op := Go.Op.move (Go.Operand.tmp 45), type := 29, pos := "realize.go:55", after := #[{ on := 7, ground := Go.Ground.data }], guard := none }) (v := ?_) rfl (by kernel_rfl) (by kernel_rfl) (by kernel_rfl) ⟨rfl, by kernel_rfl⟩ (fun _ _ _ h => h) (Or.inl ⟨by rfl, ?hy⟩) HS.out ?_
                  case hy => (intro w9 hSw; (have e0 := c0 _ hSw); (have e1 := c1 _ hSw); (have e2 := y0 _ hSw); go_simp; try with_reducible rfl)
                  try simp only [Act.put, List.setIfInBounds_toArray, List.set_cons_zero, List.set_cons_succ]
                  refine lates_take (i := 9) (oi := { dst := some 46, op := Go.Op.extract (Go.Operand.tmp 37) 0, type := 24, pos := "realize.go:55", after := #[{ on := 8, ground := Go.Ground.data }], guard := none }) (v := ?_) rfl (by kernel_rfl) (by kernel_rfl) (by kernel_rfl) ⟨rfl, by kernel_rfl⟩ (fun _ _ _ h => h) (Or.inl ⟨by rfl, ?hy⟩) HS.out ?_
                  case hy => (intro w9 hSw; (have e0 := c0 _ hSw); (have e1 := c1 _ hSw); (have e2 := y0 _ hSw); go_simp; try with_reducible rfl)
                  try simp only [Act.put, List.setIfInBounds_toArray, List.set_cons_zero, List.set_cons_succ]
                  refine lates_takeM [13] (i := 10) (oi := { dst := some 47, op := Go.Op.extract (Go.Operand.tmp 37) 1, type := 28, pos := "realize.go:55", after := #[{ on := 8, ground := Go.Ground.data }, { on := 12, ground := Go.Ground.gcOnly Go.Departure.lateStores }], guard := none }) (v := ?_) rfl (by kernel_rfl) (by kernel_rfl) (by kernel_rfl) (by kernel_rfl) (by kernel_rfl) (fun _ _ _ h => h) (Or.inl ⟨by rfl, ?hy⟩) HS.out ?_
                  case hy => (intro w9 hSw; (have e0 := c0 _ hSw); (have e1 := c1 _ hSw); (have e2 := y0 _ hSw); go_simp; try with_reducible rfl)
                  try simp only [Act.put, List.setIfInBounds_toArray, List.set_cons_zero, List.set_cons_succ]
                  refine lates_ready (rs := [12]) (by kernel_rfl) (by simp) ?_
                  refine AllLate.cons (o := { dst := none, op := Go.Op.store 24 (Go.Operand.tmp 9) (Go.Operand.tmp 46), type := 0, pos := "realize.go:55", after := #[{ on := 11, ground := Go.Ground.data }, { on := 9, ground := Go.Ground.data }, { on := 7, ground := Go.Ground.chain }, { on := 0, ground := Go.Ground.phase }, { on := 1, ground := Go.Ground.phase }, { on := 2, ground := Go.Ground.phase }, { on := 3, ground := Go.Ground.phase }, { on := 4, ground := Go.Ground.phase }, { on := 5, ground := Go.Ground.phase }, { on := 6, ground := Go.Ground.phase }, { on := 7, ground := Go.Ground.phase }, { on := 8, ground := Go.Ground.phase }, { on := 9, ground := Go.Ground.phase }, { on := 10, ground := Go.Ground.textOnly Go.Departure.lateStores }, { on := 11, ground := Go.Ground.phase }], guard := none }) rfl (fun K hK => ?_) ?_
                  · go_simp
                    refine as_world (K := K) ?_
                    intro w12 hw12
                    have HWW : Hid (w12 = _) := hw12
                    clear hw12
                    have HBT : Hid (W.heap.size ≤ B11) := by
                      have h1 := HB11.out
                      show W.heap.size ≤ B11
                      first
                        | (have h3 := HS7.out.size; omega)
                        | (have h3 := HS6.out.size; omega)
                        | (have h3 := HSD.out; omega)
                    have HS12 : Hid (Below W.heap.size W w12) := by
                      rw [HWW.out]
                      exact sets_below HS.out HBT.out
                    refine hK.out _ _ (fun _ => ?_) ?_
                    · exact HS12.out
                    have HSO := HS
                    have HS := HS12
                    clear hK K
                    try simp only [Act.put, List.setIfInBounds_toArray, List.set_cons_zero, List.set_cons_succ]
                    refine lates_take (i := 13) (oi := { dst := some 10, op := Go.Op.assign (Go.Operand.tmp 47), type := 28, pos := "realize.go:55", after := #[{ on := 10, ground := Go.Ground.data }, { on := 12, ground := Go.Ground.chain }, { on := 0, ground := Go.Ground.phase }, { on := 1, ground := Go.Ground.phase }, { on := 2, ground := Go.Ground.phase }, { on := 3, ground := Go.Ground.phase }, { on := 4, ground := Go.Ground.phase }, { on := 5, ground := Go.Ground.phase }, { on := 6, ground := Go.Ground.phase }, { on := 7, ground := Go.Ground.phase }, { on := 8, ground := Go.Ground.phase }, { on := 9, ground := Go.Ground.phase }, { on := 10, ground := Go.Ground.phase }, { on := 11, ground := Go.Ground.phase }, { on := 12, ground := Go.Ground.phase }], guard := none }) (v := ?_) rfl (by kernel_rfl) (by kernel_rfl) (by kernel_rfl) ⟨rfl, by kernel_rfl⟩ (fun _ _ _ h => h) (Or.inl ⟨by rfl, ?hy⟩) HS.out ?_
                    case hy => (intro w9 hSw; (have e0 := c0 _ hSw); (have e1 := c1 _ hSw); (have e2 := y0 _ hSw); go_simp; try with_reducible rfl)
                    try simp only [Act.put, List.setIfInBounds_toArray, List.set_cons_zero, List.set_cons_succ]
                    refine lates_done (by kernel_rfl) ?_ _
                    try simp only [Act.put, List.setIfInBounds_toArray, List.set_cons_zero, List.set_cons_succ]
                    have HNE : Hid (∀ b off, 0 < len → ax = some ⟨b, off, none⟩ → b ≠ B11) := fun b off hl e => by
                      have h1 := HLT7.out b off hl e
                      have h2 := HNW7.out b off e
                      have h3 := HL11.out
                      first
                        | (have h4 := HN6.out.size; omega)
                        | (have h4 := HB11.out; have h5 := HN11.out.size; omega)
                        | omega
                    have HRF : Hid (Row w12 ax len (fun k => (acc (tF (nat f) len l) len 2 k : Nat))) := by
                      rw [HWW.out]
                      exact row_sets (by first | exact HRW7.out _ (Below.refl _ _) | exact HRW7.out _ HN11.out) HNE.out
                    have HWF : Hid (WrB w.heap.size ((w12.setCell ⟨w.heap.size + 1, 0, none⟩ (.int .i64 (len : Nat))).setCell ⟨w.heap.size + 1, 1, none⟩ (.slice ax len cx)) (.agg #[.int .i64 (len : Nat), .slice ax len cx])) := fun N' a' l' cp' e k hk => by
                      simp at e
                      obtain ⟨_, rfl, rfl, _⟩ := e
                      obtain ⟨b, e1, e2⟩ := HWR7.out k hk
                      have h2 := HNW7.out b 0 e1
                      have h3 := HWL.out
                      have h4 := HS6.out.size
                      have h6 := HLT7.out b 0 (by omega) e1
                      have hlt12 : w7.heap.size ≤ w12.heap.size ∧ w12.frozen? ⟨b, k, none⟩ = false := by
                        rw [HWW.out]
                        first
                          | (refine ⟨by simp, ?_⟩; rw [World.frozen?_setCell, World.frozen?_setCell]; exact e2)
                          | (refine ⟨by simpa using HN11.out.size, ?_⟩; rw [World.frozen?_setCell, World.frozen?_setCell]; exact (HN11.out.frozen (p := ⟨b, k, none⟩) h6).trans e2)
                      refine ⟨b, e1, ⟨?_, ?_⟩, ?_⟩
                      · first
                          | omega
                          | (have h5 := HN11.out.size; omega)
                      · have := hlt12.1
                        simp
                        omega
                      · rw [World.frozen?_setCell, World.frozen?_setCell]; exact hlt12.2
                    have HB12 : Hid (Below (w.heap.size + 2) W w12) := HS12.out.mono (by have := HWL.out; omega)
                    have g0 : w12.cell? ⟨B11, 0, none⟩ = some (.int .i64 (len : Nat)) := by rw [HWW.out]; exact sets_c0 p0
                    have g1 : w12.cell? ⟨B11, 1, none⟩ = some (.slice ax len cx) := by rw [HWW.out]; exact sets_c1 p1
                    have HNA : Hid (∀ b off, 0 < len → ax = some ⟨b, off, none⟩ → b ≠ w.heap.size + 1) := fun b off hl e => by
                      have h2 := HNW7.out b off e
                      have h3 := HWL.out
                      have h4 := HS6.out.size
                      first
                        | omega
                        | (have h5 := HN11.out.size; omega)
                    obtain ⟨z0, z1, z2, z3⟩ := zbox_at HZW.out HB12.out
                    have HRE : Hid (Row ((w12.setCell ⟨w.heap.size + 1, 0, none⟩ (.int .i64 (len : Nat))).setCell ⟨w.heap.size + 1, 1, none⟩ (.slice ax len cx)) ax len (fun k => (acc (tF (nat f) len l) len 2 k : Nat))) := row_sets HRF.out HNA.out
                    have HBE : Hid (Below w.heap.size w ((w12.setCell ⟨w.heap.size + 1, 0, none⟩ (.int .i64 (len : Nat))).setCell ⟨w.heap.size + 1, 1, none⟩ (.slice ax len cx))) := sets_below (Below.trans HBW.out (HB12.out.mono (by omega))) (by omega)
                    have HFIN : Hid (TurnPost w.heap.size (len : Nat) len f (.returned (.tuple #[.agg #[.int .i64 (len : Nat), .slice ax len cx], .bool true, .int .i64 0])) ((w12.setCell ⟨w.heap.size + 1, 0, none⟩ (.int .i64 (len : Nat))).setCell ⟨w.heap.size + 1, 1, none⟩ (.slice ax len cx))) := ⟨0, HSC.out, .inr (.inr ⟨rfl, HRZ.out, ax, cx, l, HPK.out, rfl, HRE.out, HTN.out, HWF.out⟩)⟩
                    clear HWF HWR7 p0 p1 p2 p3 HNE HNA HRF HRE HQ6 HS6 HS7 HS11 HS HN6 HN7 HN11 HP11 HL11 HB11 HRW7 HNW7 HLT7 HBT HB12 HWW HS12 HSO
                    go_wp2_with fail
                    exact bodyPost_ret (v := .tuple #[.agg #[.int .i64 (len : Nat), .slice ax len cx], .bool true, .int .i64 0]) (by simp [results, Tryd.results12, go_sem, z0, z1]) rfl ⟨HFIN.out, HBE.out⟩
                  exact AllLate.nil
                exact AllLate.nil
              exact AllLate.nil
            exact AllLate.nil
        exact AllLate.nil
      exact AllLate.nil
    exact AllLate.nil
  · have h0 : (c != 0) = true := by simpa using e0
    have HF : Hid (TurnPost w.heap.size n len f (.returned (.tuple #[noOrder, .bool false, .int .i64 c])) ((W0.setCell ⟨w.heap.size + 1, 0, none⟩ (.int .i64 0)).setCell ⟨w.heap.size + 1, 1, none⟩ (.slice none 0 0))) := ⟨c, hc, .inl ⟨e0, rfl⟩⟩
    have HBE : Hid (Below w.heap.size w ((W0.setCell ⟨w.heap.size + 1, 0, none⟩ (.int .i64 0)).setCell ⟨w.heap.size + 1, 1, none⟩ (.slice none 0 0))) := sets_below HBW.out (by omega)
    obtain ⟨z0, z1, z2, z3⟩ := HZ.out
    clear hc g0 g1
    go_wp2_with fail
    exact bodyPost_ret (v := .tuple #[noOrder, .bool false, .int .i64 c]) (by simp [results, Tryd.results12, go_sem, noOrder, z0, z1]) rfl ⟨HF.out, HBE.out⟩
end Go.Proofs.YtinblbkglkhjmaaDoor
