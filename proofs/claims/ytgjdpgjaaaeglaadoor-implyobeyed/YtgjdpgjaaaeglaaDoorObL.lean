/-
  For every context and rule that are handed in, hasselaw.ImplyObeyed returns true, and writes nothing that was there. Conditions: the table of the least bits; that the rule's numbers are numbers of int.
-/
import Derived.Test.YtgjdpgjaaaeglaaDoorObR
import Derived.Deep.RegionHeld3
namespace Go.Proofs.YtgjdpgjaaaeglaaDoor
open Go.RowKit

set_option maxHeartbeats 4000000 in
set_option maxRecDepth 100000 in
theorem implyObeyed_any (L R : Int) (a : Option Addr) (len cap : Nat) (f : Nat → Int) (X Y : Int) (w : World) (hl : len ≤ maxLen) (hx : X < 9223372036854775808) (hy : Y < 9223372036854775808) (hr : Row w a len f) (hT : Tab w) :
    Calls Tryd.prog 7 #[.agg #[.int .i64 L, .int .i64 R, .slice a len cap], .agg #[.int .i64 X, .int .i64 Y]] w fun e w' => e = .returned (.bool true) ∧ Below w.heap.size w w' := by
  obtain ⟨W0, HW0⟩ : ∃ W0, Hid (W0 = w.alloc (.cells #[.int .i64 L, .int .i64 R, .slice a len cap] 39)) := ⟨_, rfl⟩
  have HB0 : Hid (Below w.heap.size w W0) := by rw [HW0.out]; exact (Below.refl _ _).alloc (Nat.le_refl _) _
  have K00 : GHeld W0 w.heap.size L R a len cap f := by rw [HW0.out]; exact GHeld.box hr
  obtain ⟨W1, HW1⟩ : ∃ W1, Hid (W1 = W0.alloc (.cells #[.int .i64 X, .int .i64 Y] 47)) := ⟨_, rfl⟩
  have HB01 : Hid (Below W0.heap.size W0 W1) := by rw [HW1.out]; exact (Below.refl _ _).alloc (Nat.le_refl _) _
  have HB1 : Hid (Below w.heap.size w W1) := Below.then HB0.out HB01.out
  have HK : Hid (GHeld W1 w.heap.size L R a len cap f) := K00.step HB01.out
  have HS0 : Hid (W0.heap.size = w.heap.size + 1) := by rw [HW0.out]; simp [Hid]
  have HR0 : Hid (W1.cell? ⟨w.heap.size + 1, 0, none⟩ = some (.int .i64 X)) := by rw [HW1.out, ← HS0.out]; simp [Hid]
  have HR1 : Hid (W1.cell? ⟨w.heap.size + 1, 1, none⟩ = some (.int .i64 Y)) := by rw [HW1.out, ← HS0.out]; simp [Hid]
  have HC0 : Hid (∀ w', Below W1.heap.size W1 w' → w'.cell? ⟨w.heap.size + 1, 0, none⟩ = some (.int .i64 X)) := fun w' h => (h.cell (World.block_lt_of_cell? _ _ HR0.out)).trans HR0.out
  have HC1 : Hid (∀ w', Below W1.heap.size W1 w' → w'.cell? ⟨w.heap.size + 1, 1, none⟩ = some (.int .i64 Y)) := fun w' h => (h.cell (World.block_lt_of_cell? _ _ HR1.out)).trans HR1.out
  have HT0 : Hid (Tab W1) := hT.step HB1.out
  have HX : Hid (X < 9223372036854775808) := hx
  have HY : Hid (Y < 9223372036854775808) := hy
  clear hr hT K00 hx hy HR0 HR1
  go_enter Tryd.func7, Tryd.ntmps7
  go_wp2_with fail
  rw [← HW0.out]
  rw [← HW1.out]
  refine (implyBegun_any _ HT0.out).mono ?_
  rintro e w1 ⟨rfl, hb1⟩
  have HBA : Hid (Below W1.heap.size W1 w1) := hb1
  have k0 := (HK.out.step HBA.out).c0
  have k1 := (HK.out.step HBA.out).c1
  have k2 := (HK.out.step HBA.out).c2
  clear hb1
  go_wp2_with fail
  refine (of_any L R a len cap f w1 hl (HK.out.step HBA.out).row).mono ?_
  rintro e w2 ⟨he, hb2⟩
  have HB2 : Hid (Below W1.heap.size W1 w2) := Below.then HBA.out hb2
  clear hb2 k0 k1 k2
  rcases he with ⟨c, h0, hc, rfl⟩ | ⟨r, rfl, rfl, hc, l10, r10, hrng, ⟨_, rfl⟩ | ⟨hL60, v, rfl, hv⟩⟩
  · have hne : (c != 0) = true := by simpa using h0
    clear hc
    go_wp2_with fail
    go_ret
    exact ⟨rfl, Below.then HB1.out HB2.out⟩
  · clear hc
    go_wp2_with fail
    go_ret
    exact ⟨rfl, Below.then HB1.out HB2.out⟩
  · have hh : ∀ k, k < len → nat f k < pw r := fun k hk => by
      have := hrng k hk
      unfold nat; omega
    have hpr10 := pw_le r r10
    have HN : Hid (∀ k, k < len → f k = (nat f k : Int) ∧ nat f k < 1024) := fun k hk => by
      have := hrng k hk
      exact ⟨by unfold nat; omega, by have := hh k hk; omega⟩
    have HTB : Hid (∀ k, k < len → (bas (clm (nat f) len r) (pw r)).all (obe (nat f k)) = true) := fun k hk => thingB r10 hh hk
    have HFB : Hid (∀ x y, x < pw r → y < pw r → obe (clo (bas (clm (nat f) len r) (pw r)) r x) (x, y) = allB (fun k => obe (nat f k) (x, y)) len) := fun x y h1 h2 => cfollowsB r10 hh h1 h2
    have HRI : Hid (RIn r (bas (clm (nat f) len r) (pw r))) := cbas_rin
    clear hc hrng hh
    generalize bas (clm (nat f) len r) (pw r) = Lb at *
    obtain ⟨al, capl, rfl, _, hpr⟩ := hv
    have HPR : Hid (PRow w2 al Lb.length (pairAt Lb)) := hpr
    have HOA : Hid (∀ k, k < len → ∀ w', Below w2.heap.size w2 w' → Calls Tryd.prog 23 #[.int .i64 (nat f k : Nat), .slice al Lb.length capl] w' fun e w'' => e = .returned (.bool true) ∧ Below w'.heap.size w' w'') := fun k hk w' h =>
      (obeysAll_any (nat f k) Lb al Lb.length capl w' (HN.out k hk).2 rfl hL60 (fun j hj => by
        have := HRI.out _ (getD_mem (0, 0) hj)
        omega) (HPR.out.below h)).mono fun e w'' ⟨he, hb⟩ => ⟨by rw [he, HTB.out k hk], hb⟩
    have HFO : Hid (∀ x y : Nat, x < pw r → y < pw r → ∀ w', Below w2.heap.size w2 w' → Calls Tryd.prog 22 #[.int .i64 (r : Nat), .slice al Lb.length capl, .agg #[.int .i64 (x : Nat), .int .i64 (y : Nat)]] w' fun e w'' => e = .returned (.tuple #[.bool (allB (fun k => obe (nat f k) (x, y)) len), .int .i64 0]) ∧ Below w'.heap.size w' w'') := fun x y h1 h2 w' h =>
      (follows_any r al Lb.length capl (pairAt Lb) x y w' (by unfold maxLen; omega) (HPR.out.below h)).mono fun e w'' ⟨he, hb⟩ => ⟨by
        have h3 := fol_ok r10 hL60 (ris_list HRI.out) h1 h2 he
        rw [rls_pairAt] at h3
        rw [h3, HFB.out x y h1 h2], hb⟩
    clear hpr HTB HFB
    go_wp2_with fail
    go_loopw [7, 8] (fun q i wx => ∃ k : Nat, k ≤ len ∧ i = .int .i64 k ∧ q = .bool (allB (fun j => obW (nat f j) X Y) k) ∧ Hid (Below w2.heap.size w2 wx)) (fun _ i _ => len - (intOf i).toNat)
    case atStart => exact ⟨0, Nat.zero_le _, rfl, rfl, Below.refl _ _⟩
    case round =>
      obtain ⟨k, hk, rfl, rfl, HBx⟩ := hrel
      have HKx : Hid (GHeld wr w.heap.size (len : Int) (r : Int) a len cap f) := HK.out.step (Below.then HB2.out HBx.out)
      have k0 := HKx.out.c0
      have k1 := HKx.out.c1
      have k2 := HKx.out.c2
      by_cases hlt : k < len
      · have hlt' : (k : Int) < (len : Int) := by omega
        obtain ⟨b, off, rfl, c1⟩ := HKx.out.row k hlt
        rw [(HN.out k hlt).1] at c1
        have HOK : Hid (Calls Tryd.prog 23 #[.int .i64 (nat f k : Nat), .slice al Lb.length capl] wr fun e w'' => e = .returned (.bool true) ∧ Below wr.heap.size wr w'') := HOA.out k hlt wr HBx.out
        have hs := (HN.out k hlt).2
        have HA1 : Hid (allB (fun j => obW (nat f j) X Y) (k + 1) = (allB (fun j => obW (nat f j) X Y) k && obW (nat f k) X Y)) := rfl
        generalize nat f k = s at *
        go_wp2_with fail
        refine HOK.out.mono ?_
        rintro e w3 ⟨rfl, hb3⟩
        have HB3 : Hid (Below w2.heap.size w2 w3) := Below.then HBx.out hb3
        have HOB : Hid (∀ w', Below w3.heap.size w3 w' → Calls Tryd.prog 24 #[.int .i64 (s : Nat), .agg #[.int .i64 X, .int .i64 Y]] w' fun e w'' => e = .returned (.bool (obW s X Y)) ∧ Below w'.heap.size w' w'') := fun w' _ => obeysW_any s X Y w' hs HX.out HY.out
        have g2 : w3.cell? ⟨w.heap.size, 2, none⟩ = some _ := (hb3.cell (World.block_lt_of_cell? _ _ k2)).trans k2
        have g3 : w3.cell? ⟨b, off + k, none⟩ = some (.int .i64 (s : Nat)) := (hb3.cell (World.block_lt_of_cell? _ _ c1)).trans c1
        have m2 : ∀ w' : World, Below w3.heap.size w3 w' → w'.cell? ⟨w.heap.size, 2, none⟩ = some (.slice (some ⟨b, off, none⟩) len cap) := fun w' h => (h.cell (World.block_lt_of_cell? _ _ g2)).trans g2
        have m3 : ∀ w' : World, Below w3.heap.size w3 w' → w'.cell? ⟨b, off + k, none⟩ = some (.int .i64 (s : Nat)) := fun w' h => (h.cell (World.block_lt_of_cell? _ _ g3)).trans g3
        have m4 : ∀ w' : World, Below w3.heap.size w3 w' → w'.cell? ⟨w.heap.size + 1, 0, none⟩ = some (.int .i64 X) := fun w' h => HC0.out w' (Below.then HB2.out (Below.then HB3.out h))
        have m5 : ∀ w' : World, Below w3.heap.size w3 w' → w'.cell? ⟨w.heap.size + 1, 1, none⟩ = some (.int .i64 Y) := fun w' h => HC1.out w' (Below.then HB2.out (Below.then HB3.out h))
        clear hb3 HOK c1 k0 k1 k2 g2 g3 HKx
        generalize obW s X Y = o at *
        rcases (Bool.eq_false_or_eq_true (allB (fun j => obW (nat f j) X Y) k)).symm with ha | ha
        · rw [ha] at HA1 ⊢
          go_wp2_with fail
          refine wp_region_held_drew (S := (fun w' => Below w3.heap.size w3 w')) (by kernel_rfl) ((Below.refl _ _).drew) (fun hHeld => ?_)
          refine wpAnyH_take (i := 0) (oi := { dst := some 33, op := Go.Op.move (Go.Operand.tmp 7), type := 4, pos := "imply.go:174", after := #[], guard := none }) (v := ?_) rfl (by kernel_rfl) (by kernel_rfl) (by kernel_rfl) (fun _ _ _ h => h) (Or.inl ⟨by rfl, ?hy⟩) (by assumption) ?_
          case hy => (intro w9 hSw; (try dsimp only at hSw); go_simp; try with_reducible rfl)
          try simp only [Act.put, List.setIfInBounds_toArray, List.set_cons_zero, List.set_cons_succ]
          refine wpAnyH_take (i := 1) (oi := { dst := some 34, op := Go.Op.move (Go.Operand.tmp 33), type := 4, pos := "imply.go:174", after := #[{ on := 0, ground := Go.Ground.data }], guard := none }) (v := ?_) rfl (by kernel_rfl) (by kernel_rfl) (by kernel_rfl) (fun _ _ _ h => h) (Or.inl ⟨by rfl, ?hy⟩) (by assumption) ?_
          case hy => (intro w9 hSw; (try dsimp only at hSw); go_simp; try with_reducible rfl)
          try simp only [Act.put, List.setIfInBounds_toArray, List.set_cons_zero, List.set_cons_succ]
          refine wpAnyH_take (i := 2) (oi := { dst := some 35, op := Go.Op.fieldAddr 39 (Go.Operand.tmp 2) 2, type := 0, pos := "imply.go:174", after := #[{ on := 1, ground := Go.Ground.guard }], guard := some (1, true) }) (v := undef) rfl (by kernel_rfl) (by kernel_rfl) (by kernel_rfl) (fun _ _ _ h => h) (Or.inr ⟨by rfl, rfl⟩) (by assumption) ?_
          try simp only [Act.put, List.setIfInBounds_toArray, List.set_cons_zero, List.set_cons_succ]
          refine wpAnyH_take (i := 3) (oi := { dst := some 36, op := Go.Op.load 23 (Go.Operand.tmp 35), type := 23, pos := "imply.go:174", after := #[{ on := 2, ground := Go.Ground.data }, { on := 1, ground := Go.Ground.guard }], guard := some (1, true) }) (v := undef) rfl (by kernel_rfl) (by kernel_rfl) (by kernel_rfl) (fun _ _ _ h => h) (Or.inr ⟨by rfl, rfl⟩) (by assumption) ?_
          try simp only [Act.put, List.setIfInBounds_toArray, List.set_cons_zero, List.set_cons_succ]
          refine wpAnyH_take (i := 4) (oi := { dst := some 37, op := Go.Op.move (Go.Operand.tmp 8), type := 3, pos := "imply.go:174", after := #[{ on := 1, ground := Go.Ground.guard }], guard := some (1, true) }) (v := undef) rfl (by kernel_rfl) (by kernel_rfl) (by kernel_rfl) (fun _ _ _ h => h) (Or.inr ⟨by rfl, rfl⟩) (by assumption) ?_
          try simp only [Act.put, List.setIfInBounds_toArray, List.set_cons_zero, List.set_cons_succ]
          refine wpAnyH_take (i := 5) (oi := { dst := some 38, op := Go.Op.indexAddr 23 (Go.Operand.tmp 36) (Go.Operand.tmp 37), type := 0, pos := "imply.go:174", after := #[{ on := 3, ground := Go.Ground.data }, { on := 4, ground := Go.Ground.data }, { on := 1, ground := Go.Ground.guard }], guard := some (1, true) }) (v := undef) rfl (by kernel_rfl) (by kernel_rfl) (by kernel_rfl) (fun _ _ _ h => h) (Or.inr ⟨by rfl, rfl⟩) (by assumption) ?_
          try simp only [Act.put, List.setIfInBounds_toArray, List.set_cons_zero, List.set_cons_succ]
          refine wpAnyH_take (i := 6) (oi := { dst := some 39, op := Go.Op.load 3 (Go.Operand.tmp 38), type := 3, pos := "imply.go:174", after := #[{ on := 5, ground := Go.Ground.data }, { on := 1, ground := Go.Ground.guard }], guard := some (1, true) }) (v := undef) rfl (by kernel_rfl) (by kernel_rfl) (by kernel_rfl) (fun _ _ _ h => h) (Or.inr ⟨by rfl, rfl⟩) (by assumption) ?_
          try simp only [Act.put, List.setIfInBounds_toArray, List.set_cons_zero, List.set_cons_succ]
          refine wpAnyH_take (i := 7) (oi := { dst := some 40, op := Go.Op.load 47 (Go.Operand.tmp 3), type := 47, pos := "imply.go:174", after := #[{ on := 1, ground := Go.Ground.guard }], guard := some (1, true) }) (v := undef) rfl (by kernel_rfl) (by kernel_rfl) (by kernel_rfl) (fun _ _ _ h => h) (Or.inr ⟨by rfl, rfl⟩) (by assumption) ?_
          try simp only [Act.put, List.setIfInBounds_toArray, List.set_cons_zero, List.set_cons_succ]
          refine wpAnyH_take (i := 8) (oi := { dst := some 41, op := Go.Op.call { callee := Go.Callee.value (Go.Operand.func 24), args := #[Go.Operand.tmp 39, Go.Operand.tmp 40], argTypes := #[3, 47] }, type := 4, pos := "imply.go:174", after := #[{ on := 6, ground := Go.Ground.data }, { on := 7, ground := Go.Ground.data }, { on := 1, ground := Go.Ground.chain }, { on := 1, ground := Go.Ground.guard }], guard := some (1, true) }) (v := undef) rfl (by kernel_rfl) (by kernel_rfl) (by kernel_rfl) (fun _ _ _ h => h) (Or.inr ⟨by rfl, rfl⟩) (by assumption) ?_
          try simp only [Act.put, List.setIfInBounds_toArray, List.set_cons_zero, List.set_cons_succ]
          refine wpAnyH_take (i := 9) (oi := { dst := some 42, op := Go.Op.pick (Go.Operand.tmp 34) (Go.Operand.tmp 41) (Go.Operand.const (Go.Value.bool false)), type := 4, pos := "imply.go:174", after := #[{ on := 1, ground := Go.Ground.data }, { on := 8, ground := Go.Ground.data }], guard := none }) (v := ?_) rfl (by kernel_rfl) (by kernel_rfl) (by kernel_rfl) (fun _ _ _ h => h) (Or.inl ⟨by rfl, ?hy⟩) (by assumption) ?_
          case hy => (intro w9 hSw; (try dsimp only at hSw); go_simp; try with_reducible rfl)
          try simp only [Act.put, List.setIfInBounds_toArray, List.set_cons_zero, List.set_cons_succ]
          refine wpAnyH_take (i := 10) (oi := { dst := some 7, op := Go.Op.assign (Go.Operand.tmp 42), type := 4, pos := "imply.go:174", after := #[{ on := 9, ground := Go.Ground.data }, { on := 8, ground := Go.Ground.chain }, { on := 0, ground := Go.Ground.phase }, { on := 1, ground := Go.Ground.phase }, { on := 2, ground := Go.Ground.phase }, { on := 3, ground := Go.Ground.phase }, { on := 4, ground := Go.Ground.phase }, { on := 5, ground := Go.Ground.phase }, { on := 6, ground := Go.Ground.phase }, { on := 7, ground := Go.Ground.phase }, { on := 8, ground := Go.Ground.phase }, { on := 9, ground := Go.Ground.phase }], guard := none }) (v := ?_) rfl (by kernel_rfl) (by kernel_rfl) (by kernel_rfl) (fun _ _ _ h => h) (Or.inl ⟨by rfl, ?hy⟩) (by assumption) ?_
          case hy => (intro w9 hSw; (try dsimp only at hSw); go_simp; try with_reducible rfl)
          try simp only [Act.put, List.setIfInBounds_toArray, List.set_cons_zero, List.set_cons_succ]
          refine wpAnyH_done (by kernel_rfl) ?_ _
          try simp only [Act.put, List.setIfInBounds_toArray, List.set_cons_zero, List.set_cons_succ]
          go_wp2_with fail
          go_roundw
          case rel => exact ⟨k + 1, by omega, by go_num, by rw [HA1.out]; rfl, Below.then HB3.out (Below.refl _ _).drew⟩
          case measure => simp [intOf]; omega
        · rw [ha] at HA1 ⊢
          go_wp2_with fail
          refine wp_region_held_drew (S := (fun w' => Below w3.heap.size w3 w')) (by kernel_rfl) ((Below.refl _ _).drew) (fun hHeld => ?_)
          refine wpAnyH_take (i := 0) (oi := { dst := some 33, op := Go.Op.move (Go.Operand.tmp 7), type := 4, pos := "imply.go:174", after := #[], guard := none }) (v := ?_) rfl (by kernel_rfl) (by kernel_rfl) (by kernel_rfl) (fun _ _ _ h => h) (Or.inl ⟨by rfl, ?hy⟩) (by assumption) ?_
          case hy => (intro w9 hSw; (try dsimp only at hSw); go_simp; try with_reducible rfl)
          try simp only [Act.put, List.setIfInBounds_toArray, List.set_cons_zero, List.set_cons_succ]
          refine wpAnyH_take (i := 1) (oi := { dst := some 34, op := Go.Op.move (Go.Operand.tmp 33), type := 4, pos := "imply.go:174", after := #[{ on := 0, ground := Go.Ground.data }], guard := none }) (v := ?_) rfl (by kernel_rfl) (by kernel_rfl) (by kernel_rfl) (fun _ _ _ h => h) (Or.inl ⟨by rfl, ?hy⟩) (by assumption) ?_
          case hy => (intro w9 hSw; (try dsimp only at hSw); go_simp; try with_reducible rfl)
          try simp only [Act.put, List.setIfInBounds_toArray, List.set_cons_zero, List.set_cons_succ]
          refine wpAnyH_take (i := 2) (oi := { dst := some 35, op := Go.Op.fieldAddr 39 (Go.Operand.tmp 2) 2, type := 0, pos := "imply.go:174", after := #[{ on := 1, ground := Go.Ground.guard }], guard := some (1, true) }) (v := ?_) rfl (by kernel_rfl) (by kernel_rfl) (by kernel_rfl) (fun _ _ _ h => h) (Or.inl ⟨by rfl, ?hy⟩) (by assumption) ?_
          case hy => (intro w9 hSw; (try dsimp only at hSw); go_simp; try with_reducible rfl)
          try simp only [Act.put, List.setIfInBounds_toArray, List.set_cons_zero, List.set_cons_succ]
          refine wpAnyH_take (i := 3) (oi := { dst := some 36, op := Go.Op.load 23 (Go.Operand.tmp 35), type := 23, pos := "imply.go:174", after := #[{ on := 2, ground := Go.Ground.data }, { on := 1, ground := Go.Ground.guard }], guard := some (1, true) }) (v := ?_) rfl (by kernel_rfl) (by kernel_rfl) (by kernel_rfl) (fun _ _ _ h => h) (Or.inl ⟨by rfl, ?hy⟩) (by assumption) ?_
          case hy => (intro w9 hSw; (try dsimp only at hSw); go_simp; try with_reducible rfl)
          try simp only [Act.put, List.setIfInBounds_toArray, List.set_cons_zero, List.set_cons_succ]
          refine wpAnyH_take (i := 4) (oi := { dst := some 37, op := Go.Op.move (Go.Operand.tmp 8), type := 3, pos := "imply.go:174", after := #[{ on := 1, ground := Go.Ground.guard }], guard := some (1, true) }) (v := ?_) rfl (by kernel_rfl) (by kernel_rfl) (by kernel_rfl) (fun _ _ _ h => h) (Or.inl ⟨by rfl, ?hy⟩) (by assumption) ?_
          case hy => (intro w9 hSw; (try dsimp only at hSw); go_simp; try with_reducible rfl)
          try simp only [Act.put, List.setIfInBounds_toArray, List.set_cons_zero, List.set_cons_succ]
          refine wpAnyH_take (i := 5) (oi := { dst := some 38, op := Go.Op.indexAddr 23 (Go.Operand.tmp 36) (Go.Operand.tmp 37), type := 0, pos := "imply.go:174", after := #[{ on := 3, ground := Go.Ground.data }, { on := 4, ground := Go.Ground.data }, { on := 1, ground := Go.Ground.guard }], guard := some (1, true) }) (v := ?_) rfl (by kernel_rfl) (by kernel_rfl) (by kernel_rfl) (fun _ _ _ h => h) (Or.inl ⟨by rfl, ?hy⟩) (by assumption) ?_
          case hy => (intro w9 hSw; (try dsimp only at hSw); go_simp; try with_reducible rfl)
          try simp only [Act.put, List.setIfInBounds_toArray, List.set_cons_zero, List.set_cons_succ]
          refine wpAnyH_take (i := 6) (oi := { dst := some 39, op := Go.Op.load 3 (Go.Operand.tmp 38), type := 3, pos := "imply.go:174", after := #[{ on := 5, ground := Go.Ground.data }, { on := 1, ground := Go.Ground.guard }], guard := some (1, true) }) (v := ?_) rfl (by kernel_rfl) (by kernel_rfl) (by kernel_rfl) (fun _ _ _ h => h) (Or.inl ⟨by rfl, ?hy⟩) (by assumption) ?_
          case hy => (intro w9 hSw; (try dsimp only at hSw); go_simp; try with_reducible rfl)
          try simp only [Act.put, List.setIfInBounds_toArray, List.set_cons_zero, List.set_cons_succ]
          refine wpAnyH_take (i := 7) (oi := { dst := some 40, op := Go.Op.load 47 (Go.Operand.tmp 3), type := 47, pos := "imply.go:174", after := #[{ on := 1, ground := Go.Ground.guard }], guard := some (1, true) }) (v := ?_) rfl (by kernel_rfl) (by kernel_rfl) (by kernel_rfl) (fun _ _ _ h => h) (Or.inl ⟨by rfl, ?hy⟩) (by assumption) ?_
          case hy => (intro w9 hSw; (try dsimp only at hSw); go_simp; try with_reducible rfl)
          try simp only [Act.put, List.setIfInBounds_toArray, List.set_cons_zero, List.set_cons_succ]
          refine wpAnyH_ready (rs := [8]) (by kernel_rfl) (by simp) ?_
          refine AllReadyH.cons (o := { dst := some 41, op := Go.Op.call { callee := Go.Callee.value (Go.Operand.func 24), args := #[Go.Operand.tmp 39, Go.Operand.tmp 40], argTypes := #[3, 47] }, type := 4, pos := "imply.go:174", after := #[{ on := 6, ground := Go.Ground.data }, { on := 7, ground := Go.Ground.data }, { on := 1, ground := Go.Ground.chain }, { on := 1, ground := Go.Ground.guard }], guard := some (1, true) }) rfl (fun K hK => ?_) AllReadyH.nil
          go_simp
          refine (HOB.out _ hHeld).mono ?_
          rintro e w5 ⟨rfl, hb5⟩
          refine hK.out _ _ ?_ (fun hHeld => ?_)
          · first | assumption | exact Below.then (by assumption) (by assumption)
          clear hK K
          try simp only [Act.put, List.setIfInBounds_toArray, List.set_cons_zero, List.set_cons_succ]
          refine wpAnyH_take (i := 9) (oi := { dst := some 42, op := Go.Op.pick (Go.Operand.tmp 34) (Go.Operand.tmp 41) (Go.Operand.const (Go.Value.bool false)), type := 4, pos := "imply.go:174", after := #[{ on := 1, ground := Go.Ground.data }, { on := 8, ground := Go.Ground.data }], guard := none }) (v := ?_) rfl (by kernel_rfl) (by kernel_rfl) (by kernel_rfl) (fun _ _ _ h => h) (Or.inl ⟨by rfl, ?hy⟩) (by assumption) ?_
          case hy => (intro w9 hSw; (try dsimp only at hSw); go_simp; try with_reducible rfl)
          try simp only [Act.put, List.setIfInBounds_toArray, List.set_cons_zero, List.set_cons_succ]
          refine wpAnyH_take (i := 10) (oi := { dst := some 7, op := Go.Op.assign (Go.Operand.tmp 42), type := 4, pos := "imply.go:174", after := #[{ on := 9, ground := Go.Ground.data }, { on := 8, ground := Go.Ground.chain }, { on := 0, ground := Go.Ground.phase }, { on := 1, ground := Go.Ground.phase }, { on := 2, ground := Go.Ground.phase }, { on := 3, ground := Go.Ground.phase }, { on := 4, ground := Go.Ground.phase }, { on := 5, ground := Go.Ground.phase }, { on := 6, ground := Go.Ground.phase }, { on := 7, ground := Go.Ground.phase }, { on := 8, ground := Go.Ground.phase }, { on := 9, ground := Go.Ground.phase }], guard := none }) (v := ?_) rfl (by kernel_rfl) (by kernel_rfl) (by kernel_rfl) (fun _ _ _ h => h) (Or.inl ⟨by rfl, ?hy⟩) (by assumption) ?_
          case hy => (intro w9 hSw; (try dsimp only at hSw); go_simp; try with_reducible rfl)
          try simp only [Act.put, List.setIfInBounds_toArray, List.set_cons_zero, List.set_cons_succ]
          refine wpAnyH_done (by kernel_rfl) ?_ _
          try simp only [Act.put, List.setIfInBounds_toArray, List.set_cons_zero, List.set_cons_succ]
          have HB5 : Hid (Below w3.heap.size w3 w5) := by assumption
          go_wp2_with fail
          go_roundw
          case rel => exact ⟨k + 1, by omega, by go_num, by rw [HA1.out]; rfl, Below.then HB3.out HB5.out⟩
          case measure => simp [intOf]; omega
      · have hle : (len : Int) ≤ (k : Int) := by omega
        have hkl : k = len := by omega
        have r0 := HC0.out wr (Below.then HB2.out HBx.out)
        have r1 := HC1.out wr (Below.then HB2.out HBx.out)
        rcases (Bool.eq_false_or_eq_true (riB X Y r)).symm with hri | hri
        · go_wp2_with fail
          refine (wrongRule_any r X Y wr r10).mono ?_
          rintro e w4 ⟨rfl, hb4⟩
          rw [hri]
          have HB4 : Hid (Below w2.heap.size w2 w4) := Below.then HBx.out hb4
          clear hb4
          go_wp2_with fail
          go_ret
          exact ⟨rfl, Below.then HB1.out (Below.then HB2.out HB4.out)⟩
        · have hq := riB_iff.1 hri
          have HG : Hid (allB (fun j => obW (nat f j) X Y) k = allB (fun j => obe (nat f j) (X.toNat, Y.toNat)) len) := by
            have e1 : (fun j => obW (nat f j) X Y) = fun j => obe (nat f j) (X.toNat, Y.toNat) := funext fun j => by
              rw [← obW_nat]
              rw [Int.toNat_of_nonneg hq.1.1, Int.toNat_of_nonneg hq.2.1]
            show allB _ k = _
            rw [e1, hkl]
          have HFX : Hid (∀ w', Below w2.heap.size w2 w' → Calls Tryd.prog 22 #[.int .i64 (r : Nat), .slice al Lb.length capl, .agg #[.int .i64 X, .int .i64 Y]] w' fun e w'' => e = .returned (.tuple #[.bool (allB (fun k => obe (nat f k) (X.toNat, Y.toNat)) len), .int .i64 0]) ∧ Below w'.heap.size w' w'') := fun w' h => by
            have h2 := HFO.out X.toNat Y.toNat (by omega) (by omega) w' h
            rw [Int.toNat_of_nonneg hq.1.1, Int.toNat_of_nonneg hq.2.1] at h2
            exact h2
          rw [HG.out]
          generalize allB (fun j => obe (nat f j) (X.toNat, Y.toNat)) len = g at *
          clear HFO HG hq
          go_wp2_with fail
          refine (wrongRule_any r X Y wr r10).mono ?_
          rintro e w4 ⟨rfl, hb4⟩
          rw [hri]
          have HB4 : Hid (Below w2.heap.size w2 w4) := Below.then HBx.out hb4
          have HK4 : Hid (GHeld w4 w.heap.size (len : Int) (r : Int) a len cap f) := HK.out.step (Below.then HB2.out HB4.out)
          clear hb4 r0 r1 k0 k1 k2
          have k1 := HK4.out.c1
          have r0 := HC0.out w4 (Below.then HB2.out HB4.out)
          have r1 := HC1.out w4 (Below.then HB2.out HB4.out)
          go_wp2_with fail
          refine (HFX.out w4 HB4.out).mono ?_
          rintro e w6 ⟨rfl, hb6⟩
          have HB6 : Hid (Below w2.heap.size w2 w6) := Below.then HB4.out hb6
          clear hb6 k1 r0 r1 HFX
          cases g <;>
          · go_wp2_with fail
            go_ret
            exact ⟨rfl, Below.then HB1.out (Below.then HB2.out HB6.out)⟩
end Go.Proofs.YtgjdpgjaaaeglaaDoor
