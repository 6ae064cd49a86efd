/-
  What span.stretch answers: how many kinds are smaller than a point's own set, and one less than how many it is not in. Conditions: sets of at most ten points.
-/
import Derived.Deep.RegionHeld3
import Derived.Test.YtkknfnjhpamfbaaSpansM
namespace Go.Proofs.Ytkknfnjhpamfbaa
open Go.RowKit

theorem has_as (s p : Nat) (b : Bool) (w : World) (h : s.testBit p = b) (hs : s < 9223372036854775808) (hp : p < 63) :
    Calls Try.prog 57 #[.int .i64 s, .int .i64 p] w fun e w' => e = .returned (.bool b) ∧ w' = w := by
  rw [← h]; exact (has_any s p w hs hp).mono fun _ _ ⟨h, h'⟩ => ⟨h, h'.symm⟩
/-- A box of two noughts. -/
def BX (X : World) (B : Nat) : Prop := X.cell? ⟨B, 0, none⟩ = some (.int .i64 0) ∧ X.cell? ⟨B, 1, none⟩ = some (.int .i64 0) ∧ X.frozen? ⟨B, 0, none⟩ = false ∧ X.frozen? ⟨B, 1, none⟩ = false

set_option maxHeartbeats 2000000 in
theorem stretch_any (len : Nat) (a : Option Addr) (cap : Nat) (g : Nat → Nat) (pt : Nat) (a' : Option Addr) (m cap' : Nat) (h : Nat → Nat) (w : World) (h10 : len ≤ 10) (hm : m ≤ 10) (hpt : pt < len) (hg : ∀ k, k < len → g k < 1024) (hh : ∀ k, k < m → h k < 1024) (hr : Row w a len (fun k => (g k : Nat))) (hr' : Row w a' m (fun k => (h k : Nat))) :
    Calls Try.prog 33 #[.agg #[.int .i64 len, .slice a len cap], .int .i64 pt, .slice a' m cap'] w fun e w' => e = .returned (.agg #[.int .i64 (cn (fun k => decide (pc (h k) < pc (g pt))) m : Nat), .int .i64 ((cn (fun k => !(h k).testBit pt) m : Nat) - 1)]) ∧ Below w.heap.size w w' := by
  obtain ⟨b0, o0, rfl, hcG0'⟩ := hr pt hpt
  have hcG0 : w.cell? ⟨b0, o0 + pt, none⟩ = some (.int .i64 (g pt : Nat)) := hcG0'
  clear hcG0'
  have hG := hg pt hpt
  generalize g pt = G at *
  clear hg hr
  have HH : Hid (∀ k, k < m → h k < 1024) := hh
  have HB0 : Hid (Below w.heap.size w ((w.alloc (.cells #[.int .i64 len, .slice (some ⟨b0, o0, none⟩) len cap] 25)).alloc (.cells #[.int .i64 0, .int .i64 0] 49))) := ((Below.refl _ _).alloc (Nat.le_refl _) _).alloc (by simp) _
  have hc0 : ((w.alloc (.cells #[.int .i64 len, .slice (some ⟨b0, o0, none⟩) len cap] 25)).alloc (.cells #[.int .i64 0, .int .i64 0] 49)).cell? ⟨w.heap.size, 1, none⟩ = some (.slice (some ⟨b0, o0, none⟩) len cap) := by simp
  have hcG1 : ((w.alloc (.cells #[.int .i64 len, .slice (some ⟨b0, o0, none⟩) len cap] 25)).alloc (.cells #[.int .i64 0, .int .i64 0] 49)).cell? ⟨b0, o0 + pt, none⟩ = some (.int .i64 (G : Nat)) := (HB0.out.cell (World.block_lt_of_cell? _ _ hcG0)).trans hcG0
  have HR0 : Hid (Row ((w.alloc (.cells #[.int .i64 len, .slice (some ⟨b0, o0, none⟩) len cap] 25)).alloc (.cells #[.int .i64 0, .int .i64 0] 49)) a' m (fun k => (h k : Nat))) := hr'.below HB0.out
  have HX0 : Hid (BX ((w.alloc (.cells #[.int .i64 len, .slice (some ⟨b0, o0, none⟩) len cap] 25)).alloc (.cells #[.int .i64 0, .int .i64 0] 49)) (w.heap.size + 1)) := by
    refine ⟨by simp, by simp, ?_, ?_⟩ <;> exact World.frozen?_alloc_at _ _ _ _ (by simp)
  clear hr' hcG0 hh
  go_enter Try.func33, Try.ntmps33
  go_wp2_with fail
  generalize (w.alloc (.cells #[.int .i64 len, .slice (some ⟨b0, o0, none⟩) len cap] 25)).alloc (.cells #[.int .i64 0, .int .i64 0] 49) = W2 at *
  go_loopw [7, 8, 13] (fun x y i wx => ∃ k F L : Nat, k ≤ m ∧ F ≤ k ∧ L ≤ k ∧ i = .int .i64 k ∧ x = .int .i64 F ∧ y = .int .i64 ((L : Int) - 1) ∧ Hid (F = cn (fun k => decide (pc (h k) < pc G)) k) ∧ Hid (L = cn (fun k => !(h k).testBit pt) k) ∧ wx.cell? ⟨w.heap.size, 1, none⟩ = some (.slice (some ⟨b0, o0, none⟩) len cap) ∧ wx.cell? ⟨b0, o0 + pt, none⟩ = some (.int .i64 (G : Nat)) ∧ Hid (Row wx a' m (fun k => (h k : Nat))) ∧ Hid (BX wx (w.heap.size + 1)) ∧ Hid (Below w.heap.size w wx)) (fun _ _ i _ => m - (intOf i).toNat)
  case atStart => exact ⟨0, 0, 0, Nat.zero_le _, Nat.le_refl _, Nat.le_refl _, rfl, rfl, rfl, rfl, rfl, hc0, hcG1, HR0.out, HX0.out, HB0.out⟩
  case round =>
    clear hc0 hcG1 HR0 HX0 HB0
    obtain ⟨k, F, L, hk, hF, hL, rfl, rfl, rfl, HF, HL, hc1, hcG, HR, HX, HB⟩ := hrel
    by_cases hlt : k < m
    · obtain ⟨X, HXe⟩ : ∃ X, Hid (h k = X) := ⟨_, rfl⟩
      have hX : X < 1024 := by rw [← HXe.out]; exact HH.out k hlt
      obtain ⟨b1, o1, rfl, hcX'⟩ := HR.out k hlt
      have hcX : wr.cell? ⟨b1, o1 + k, none⟩ = some (.int .i64 (h k : Nat)) := hcX'
      clear hcX'
      rw [HXe.out] at hcX
      have HRd : Hid (Row wr.drew (some ⟨b1, o1, none⟩) m (fun k => (h k : Nat))) := HR.out
      have HXd : Hid (BX wr.drew (w.heap.size + 1)) := HX.out
      have HBd : Hid (Below w.heap.size w wr.drew) := HB.out.drew
      have hlen' : (pt : Int) < (len : Int) := by omega
      obtain ⟨F', hF', HF'⟩ : ∃ F' : Nat, (F' = if pc X < pc G then F + 1 else F) ∧ Hid (F' = cn (fun k => decide (pc (h k) < pc G)) (k + 1)) := by
        refine ⟨_, rfl, ?_⟩
        have : (if pc X < pc G then F + 1 else F) = cn (fun k => decide (pc (h k) < pc G)) (k + 1) := by
          rw [cn, ← HF.out, HXe.out]
          by_cases e : pc X < pc G
          · simp [e]
          · simp [e]
        exact this
      obtain ⟨L', hL', HL'⟩ : ∃ L' : Nat, (L' = if X.testBit pt = true then L else L + 1) ∧ Hid (L' = cn (fun k => !(h k).testBit pt) (k + 1)) := by
        refine ⟨_, rfl, ?_⟩
        have : (if X.testBit pt = true then L else L + 1) = cn (fun k => !(h k).testBit pt) (k + 1) := by
          rw [cn, ← HL.out, HXe.out]
          by_cases e : X.testBit pt = true
          · simp [e]
          · simp [e]
        exact this
      clear HF HL HXe HX HB HR
      by_cases e1 : pc X < pc G
      · have hsz : decide ((pc X : Int) < (pc G : Int)) = true := by simpa using e1
        rw [if_pos e1] at hF'
        have e1' : (pc X : Int) < (pc G : Int) := by omega
        clear e1
        go_wp2_with fail
        refine wp_region_held_drew (S := (fun w' => w'.cell? ⟨w.heap.size, 1, none⟩ = some (.slice (some ⟨b0, o0, none⟩) len cap) ∧ w'.cell? ⟨b0, o0 + pt, none⟩ = some (.int .i64 (G : Nat)) ∧ Hid (Row w' (some ⟨b1, o1, none⟩) m (fun k => (h k : Nat))) ∧ Hid (BX w' (w.heap.size + 1)) ∧ Hid (Below w.heap.size w w'))) (by kernel_rfl) (⟨hc1, hcG, HRd, HXd, HBd⟩) (fun hHeld => ?_)
        refine wpAnyH_take (i := 0) (oi := { dst := some 17, op := Go.Op.move (Go.Operand.tmp 10), type := 3, pos := "span.go:96", after := #[], guard := none }) (v := ?_) rfl (by kernel_rfl) (by kernel_rfl) (by kernel_rfl) (fun _ _ _ h => h) (Or.inl ⟨by rfl, ?hy⟩) (by assumption) ?_
        case hy => (intro w9 hSw; (try dsimp only at hSw); go_simp; try with_reducible rfl)
        try simp only [Act.put, List.setIfInBounds_toArray, List.set_cons_zero, List.set_cons_succ]
        refine wpAnyH_take (i := 2) (oi := { dst := some 19, op := Go.Op.fieldAddr 25 (Go.Operand.tmp 3) 1, type := 0, pos := "span.go:96", after := #[], guard := none }) (v := ?_) rfl (by kernel_rfl) (by kernel_rfl) (by kernel_rfl) (fun _ _ _ h => h) (Or.inl ⟨by rfl, ?hy⟩) (by assumption) ?_
        case hy => (intro w9 hSw; (try dsimp only at hSw); go_simp; try with_reducible rfl)
        try simp only [Act.put, List.setIfInBounds_toArray, List.set_cons_zero, List.set_cons_succ]
        refine wpAnyH_take (i := 3) (oi := { dst := some 20, op := Go.Op.load 23 (Go.Operand.tmp 19), type := 23, pos := "span.go:96", after := #[{ on := 2, ground := Go.Ground.data }], guard := none }) (v := ?_) rfl (by kernel_rfl) (by kernel_rfl) (by kernel_rfl) (fun _ _ _ h => h) (Or.inl ⟨by rfl, ?hy⟩) (by assumption) ?_
        case hy => (intro w9 hSw; (try dsimp only at hSw); go_simp; try with_reducible rfl)
        try simp only [Act.put, List.setIfInBounds_toArray, List.set_cons_zero, List.set_cons_succ]
        refine wpAnyH_take (i := 4) (oi := { dst := some 21, op := Go.Op.move (Go.Operand.tmp 1), type := 3, pos := "span.go:96", after := #[], guard := none }) (v := ?_) rfl (by kernel_rfl) (by kernel_rfl) (by kernel_rfl) (fun _ _ _ h => h) (Or.inl ⟨by rfl, ?hy⟩) (by assumption) ?_
        case hy => (intro w9 hSw; (try dsimp only at hSw); go_simp; try with_reducible rfl)
        try simp only [Act.put, List.setIfInBounds_toArray, List.set_cons_zero, List.set_cons_succ]
        refine wpAnyH_take (i := 5) (oi := { dst := some 22, op := Go.Op.indexAddr 23 (Go.Operand.tmp 20) (Go.Operand.tmp 21), type := 0, pos := "span.go:96", after := #[{ on := 3, ground := Go.Ground.data }, { on := 4, ground := Go.Ground.data }], guard := none }) (v := ?_) rfl (by kernel_rfl) (by kernel_rfl) (by kernel_rfl) (fun _ _ _ h => h) (Or.inl ⟨by rfl, ?hy⟩) (by assumption) ?_
        case hy => (intro w9 hSw; (try dsimp only at hSw); go_simp; try with_reducible rfl)
        try simp only [Act.put, List.setIfInBounds_toArray, List.set_cons_zero, List.set_cons_succ]
        refine wpAnyH_take (i := 6) (oi := { dst := some 23, op := Go.Op.load 3 (Go.Operand.tmp 22), type := 3, pos := "span.go:96", after := #[{ on := 5, ground := Go.Ground.data }], guard := none }) (v := ?_) rfl (by kernel_rfl) (by kernel_rfl) (by kernel_rfl) (fun _ _ _ h => h) (Or.inl ⟨by rfl, ?hy⟩) (by assumption) ?_
        case hy => (intro w9 hSw; (try dsimp only at hSw); go_simp; try with_reducible rfl)
        try simp only [Act.put, List.setIfInBounds_toArray, List.set_cons_zero, List.set_cons_succ]
        refine wpAnyH_ready (rs := [1]) (by kernel_rfl) (by simp) ?_
        refine AllReadyH.cons (o := { dst := some 18, op := Go.Op.call { callee := Go.Callee.value (Go.Operand.func 56), args := #[Go.Operand.tmp 17], argTypes := #[3] }, type := 3, pos := "span.go:96", after := #[{ on := 0, ground := Go.Ground.data }], guard := none }) rfl (fun K hK => ?_) AllReadyH.nil
        go_simp
        refine (size_any X _ hX).mono ?_
        rintro e w1 ⟨rfl, rfl⟩
        refine hK.out _ _ ?_ (fun hHeld => ?_)
        · assumption
        clear hK K
        try simp only [Act.put, List.setIfInBounds_toArray, List.set_cons_zero, List.set_cons_succ]
        refine wpAnyH_ready (rs := [7]) (by kernel_rfl) (by simp) ?_
        refine AllReadyH.cons (o := { dst := some 24, op := Go.Op.call { callee := Go.Callee.value (Go.Operand.func 56), args := #[Go.Operand.tmp 23], argTypes := #[3] }, type := 3, pos := "span.go:96", after := #[{ on := 6, ground := Go.Ground.data }, { on := 1, ground := Go.Ground.chain }], guard := none }) rfl (fun K hK => ?_) AllReadyH.nil
        go_simp
        refine (size_any G _ hG).mono ?_
        rintro e w1 ⟨rfl, rfl⟩
        refine hK.out _ _ ?_ (fun hHeld => ?_)
        · assumption
        clear hK K
        try simp only [Act.put, List.setIfInBounds_toArray, List.set_cons_zero, List.set_cons_succ]
        refine wpAnyH_take (i := 8) (oi := { dst := some 25, op := Go.Op.binOp Go.BinOp.lss 3 (Go.Operand.tmp 18) (Go.Operand.tmp 24) 3, type := 4, pos := "span.go:96", after := #[{ on := 1, ground := Go.Ground.data }, { on := 7, ground := Go.Ground.data }], guard := none }) (v := .bool true) rfl (by kernel_rfl) (by kernel_rfl) (by kernel_rfl) (fun _ _ _ h => h) (Or.inl ⟨by rfl, ?hy⟩) (by assumption) ?_
        case hy => (intro w9 hSw; (try dsimp only at hSw); go_simp <;> (first | with_reducible rfl | (simp; omega) | omega))
        try simp only [Act.put, List.setIfInBounds_toArray, List.set_cons_zero, List.set_cons_succ]
        refine wpAnyH_done (by kernel_rfl) ?_ _
        try simp only [Act.put, List.setIfInBounds_toArray, List.set_cons_zero, List.set_cons_succ]
        obtain ⟨d1, d2, d3, d4, d5⟩ := hHeld
        clear hc1 hcG HRd HXd HBd
        rcases Bool.eq_false_or_eq_true (X.testBit pt) with e2 | e2
        · rw [if_pos e2] at hL'
          go_wp2_with (go_at_call 57; refine (has_as X pt true _ e2 (by omega) (by omega)).mono ?_; rintro e w' ⟨rfl, rfl⟩)
          go_roundw
          case rel => exact ⟨k + 1, F', L', by omega, by omega, by omega, by go_num, by rw [hF']; go_num, by rw [hL'], HF'.out, HL'.out, d1, d2, d3.out, d4.out, d5.out⟩
          case measure => simp [intOf]; omega
        · rw [if_neg (by simp [e2])] at hL'
          go_wp2_with (go_at_call 57; refine (has_as X pt false _ e2 (by omega) (by omega)).mono ?_; rintro e w' ⟨rfl, rfl⟩)
          go_roundw
          case rel => exact ⟨k + 1, F', L', by omega, by omega, by omega, by go_num, by rw [hF']; go_num, by rw [hL']; go_num, HF'.out, HL'.out, d1, d2, d3.out, d4.out, d5.out⟩
          case measure => simp [intOf]; omega
      · have hsz : decide ((pc X : Int) < (pc G : Int)) = false := by simpa using e1
        rw [if_neg e1] at hF'
        have e1' : ¬ (pc X : Int) < (pc G : Int) := by omega
        clear e1
        go_wp2_with fail
        refine wp_region_held_drew (S := (fun w' => w'.cell? ⟨w.heap.size, 1, none⟩ = some (.slice (some ⟨b0, o0, none⟩) len cap) ∧ w'.cell? ⟨b0, o0 + pt, none⟩ = some (.int .i64 (G : Nat)) ∧ Hid (Row w' (some ⟨b1, o1, none⟩) m (fun k => (h k : Nat))) ∧ Hid (BX w' (w.heap.size + 1)) ∧ Hid (Below w.heap.size w w'))) (by kernel_rfl) (⟨hc1, hcG, HRd, HXd, HBd⟩) (fun hHeld => ?_)
        refine wpAnyH_take (i := 0) (oi := { dst := some 17, op := Go.Op.move (Go.Operand.tmp 10), type := 3, pos := "span.go:96", after := #[], guard := none }) (v := ?_) rfl (by kernel_rfl) (by kernel_rfl) (by kernel_rfl) (fun _ _ _ h => h) (Or.inl ⟨by rfl, ?hy⟩) (by assumption) ?_
        case hy => (intro w9 hSw; (try dsimp only at hSw); go_simp; try with_reducible rfl)
        try simp only [Act.put, List.setIfInBounds_toArray, List.set_cons_zero, List.set_cons_succ]
        refine wpAnyH_take (i := 2) (oi := { dst := some 19, op := Go.Op.fieldAddr 25 (Go.Operand.tmp 3) 1, type := 0, pos := "span.go:96", after := #[], guard := none }) (v := ?_) rfl (by kernel_rfl) (by kernel_rfl) (by kernel_rfl) (fun _ _ _ h => h) (Or.inl ⟨by rfl, ?hy⟩) (by assumption) ?_
        case hy => (intro w9 hSw; (try dsimp only at hSw); go_simp; try with_reducible rfl)
        try simp only [Act.put, List.setIfInBounds_toArray, List.set_cons_zero, List.set_cons_succ]
        refine wpAnyH_take (i := 3) (oi := { dst := some 20, op := Go.Op.load 23 (Go.Operand.tmp 19), type := 23, pos := "span.go:96", after := #[{ on := 2, ground := Go.Ground.data }], guard := none }) (v := ?_) rfl (by kernel_rfl) (by kernel_rfl) (by kernel_rfl) (fun _ _ _ h => h) (Or.inl ⟨by rfl, ?hy⟩) (by assumption) ?_
        case hy => (intro w9 hSw; (try dsimp only at hSw); go_simp; try with_reducible rfl)
        try simp only [Act.put, List.setIfInBounds_toArray, List.set_cons_zero, List.set_cons_succ]
        refine wpAnyH_take (i := 4) (oi := { dst := some 21, op := Go.Op.move (Go.Operand.tmp 1), type := 3, pos := "span.go:96", after := #[], guard := none }) (v := ?_) rfl (by kernel_rfl) (by kernel_rfl) (by kernel_rfl) (fun _ _ _ h => h) (Or.inl ⟨by rfl, ?hy⟩) (by assumption) ?_
        case hy => (intro w9 hSw; (try dsimp only at hSw); go_simp; try with_reducible rfl)
        try simp only [Act.put, List.setIfInBounds_toArray, List.set_cons_zero, List.set_cons_succ]
        refine wpAnyH_take (i := 5) (oi := { dst := some 22, op := Go.Op.indexAddr 23 (Go.Operand.tmp 20) (Go.Operand.tmp 21), type := 0, pos := "span.go:96", after := #[{ on := 3, ground := Go.Ground.data }, { on := 4, ground := Go.Ground.data }], guard := none }) (v := ?_) rfl (by kernel_rfl) (by kernel_rfl) (by kernel_rfl) (fun _ _ _ h => h) (Or.inl ⟨by rfl, ?hy⟩) (by assumption) ?_
        case hy => (intro w9 hSw; (try dsimp only at hSw); go_simp; try with_reducible rfl)
        try simp only [Act.put, List.setIfInBounds_toArray, List.set_cons_zero, List.set_cons_succ]
        refine wpAnyH_take (i := 6) (oi := { dst := some 23, op := Go.Op.load 3 (Go.Operand.tmp 22), type := 3, pos := "span.go:96", after := #[{ on := 5, ground := Go.Ground.data }], guard := none }) (v := ?_) rfl (by kernel_rfl) (by kernel_rfl) (by kernel_rfl) (fun _ _ _ h => h) (Or.inl ⟨by rfl, ?hy⟩) (by assumption) ?_
        case hy => (intro w9 hSw; (try dsimp only at hSw); go_simp; try with_reducible rfl)
        try simp only [Act.put, List.setIfInBounds_toArray, List.set_cons_zero, List.set_cons_succ]
        refine wpAnyH_ready (rs := [1]) (by kernel_rfl) (by simp) ?_
        refine AllReadyH.cons (o := { dst := some 18, op := Go.Op.call { callee := Go.Callee.value (Go.Operand.func 56), args := #[Go.Operand.tmp 17], argTypes := #[3] }, type := 3, pos := "span.go:96", after := #[{ on := 0, ground := Go.Ground.data }], guard := none }) rfl (fun K hK => ?_) AllReadyH.nil
        go_simp
        refine (size_any X _ hX).mono ?_
        rintro e w1 ⟨rfl, rfl⟩
        refine hK.out _ _ ?_ (fun hHeld => ?_)
        · assumption
        clear hK K
        try simp only [Act.put, List.setIfInBounds_toArray, List.set_cons_zero, List.set_cons_succ]
        refine wpAnyH_ready (rs := [7]) (by kernel_rfl) (by simp) ?_
        refine AllReadyH.cons (o := { dst := some 24, op := Go.Op.call { callee := Go.Callee.value (Go.Operand.func 56), args := #[Go.Operand.tmp 23], argTypes := #[3] }, type := 3, pos := "span.go:96", after := #[{ on := 6, ground := Go.Ground.data }, { on := 1, ground := Go.Ground.chain }], guard := none }) rfl (fun K hK => ?_) AllReadyH.nil
        go_simp
        refine (size_any G _ hG).mono ?_
        rintro e w1 ⟨rfl, rfl⟩
        refine hK.out _ _ ?_ (fun hHeld => ?_)
        · assumption
        clear hK K
        try simp only [Act.put, List.setIfInBounds_toArray, List.set_cons_zero, List.set_cons_succ]
        refine wpAnyH_take (i := 8) (oi := { dst := some 25, op := Go.Op.binOp Go.BinOp.lss 3 (Go.Operand.tmp 18) (Go.Operand.tmp 24) 3, type := 4, pos := "span.go:96", after := #[{ on := 1, ground := Go.Ground.data }, { on := 7, ground := Go.Ground.data }], guard := none }) (v := .bool false) rfl (by kernel_rfl) (by kernel_rfl) (by kernel_rfl) (fun _ _ _ h => h) (Or.inl ⟨by rfl, ?hy⟩) (by assumption) ?_
        case hy => (intro w9 hSw; (try dsimp only at hSw); go_simp <;> (first | with_reducible rfl | (simp; omega) | omega))
        try simp only [Act.put, List.setIfInBounds_toArray, List.set_cons_zero, List.set_cons_succ]
        refine wpAnyH_done (by kernel_rfl) ?_ _
        try simp only [Act.put, List.setIfInBounds_toArray, List.set_cons_zero, List.set_cons_succ]
        obtain ⟨d1, d2, d3, d4, d5⟩ := hHeld
        clear hc1 hcG HRd HXd HBd
        rcases Bool.eq_false_or_eq_true (X.testBit pt) with e2 | e2
        · rw [if_pos e2] at hL'
          go_wp2_with (go_at_call 57; refine (has_as X pt true _ e2 (by omega) (by omega)).mono ?_; rintro e w' ⟨rfl, rfl⟩)
          go_roundw
          case rel => exact ⟨k + 1, F', L', by omega, by omega, by omega, by go_num, by rw [hF'], by rw [hL'], HF'.out, HL'.out, d1, d2, d3.out, d4.out, d5.out⟩
          case measure => simp [intOf]; omega
        · rw [if_neg (by simp [e2])] at hL'
          go_wp2_with (go_at_call 57; refine (has_as X pt false _ e2 (by omega) (by omega)).mono ?_; rintro e w' ⟨rfl, rfl⟩)
          go_roundw
          case rel => exact ⟨k + 1, F', L', by omega, by omega, by omega, by go_num, by rw [hF'], by rw [hL']; go_num, HF'.out, HL'.out, d1, d2, d3.out, d4.out, d5.out⟩
          case measure => simp [intOf]; omega
    · obtain rfl : k = m := by omega
      obtain ⟨r0, r1, r2, r3⟩ := HX.out
      clear HX HR hc1 hcG
      rw [HF.out, HL.out] at *
      go_wp2_with fail
      exact bodyPost_ret (v := .agg #[.int .i64 (cn (fun k => decide (pc (h k) < pc G)) k : Nat), .int .i64 ((cn (fun k => !(h k).testBit pt) k : Nat) - 1)]) (by simp [results, Try.results33, go_sem, r0, r1]) rfl ⟨rfl, set2B HB.out (by omega)⟩
end Go.Proofs.Ytkknfnjhpamfbaa
