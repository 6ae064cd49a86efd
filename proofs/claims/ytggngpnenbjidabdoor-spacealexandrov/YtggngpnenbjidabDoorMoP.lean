/-
  What fix.Monotone answers, and what it asks; hasselaw.mapsTo. No condition but that slices read as slices of numbers.
-/
import Derived.Deep.RegionHeld3
import Derived.Laws.BitsAllLaws
import Derived.WalkKit
import Derived.WalkSpells
import Derived.WalkLawsBesides
import Derived.Deep.QuietTactic
import Derived.BigQuiet
import Derived.RangeFuncNested
import Derived.RangeFuncBox
import Derived.RangeFuncLeaves
import Derived.Shelf.Abstract
import Derived.OwnWalkIn
import Derived.TacticsInMore
import Derived.LoopNIn
import Derived.LoopIn
import Derived.Maps.AppendAt
import Derived.Shelf.Spec.TrailingZeros
import Derived.RangeFuncBound
import Derived.RangeFuncCalls
import Derived.Shelf.RegionOpen
import Derived.Test.YtggngpnenbjidabDoorSpB
namespace Go.Proofs.YtggngpnenbjidabDoor
set_option maxRecDepth 100000
open Go.RowKit

theorem isPoint_any (p n : Int) (w : World) :
    Calls Tryd.prog 46 #[.int .i64 p, .int .i64 n] w fun e w' => e = .returned (.bool (pnt p n)) ∧ w = w' := by
  by_cases h0 : 0 ≤ p
  · by_cases h1 : p < n
    · go_enter Tryd.func46, Tryd.ntmps46
      go_wp2
      go_ret
      exact ⟨ret_bool (by simp [pnt, h0, h1]), rfl⟩
    · go_enter Tryd.func46, Tryd.ntmps46
      go_wp2
      go_ret
      exact ⟨ret_bool (by simp [pnt, h1]), rfl⟩
  · have h0' : decide (0 ≤ p) = false := by simp; omega
    go_enter Tryd.func46, Tryd.ntmps46
    go_wp2
    go_ret
    exact ⟨ret_bool (by simp [pnt]; omega), rfl⟩
theorem cell_step {w w' : World} {p : Addr} {v : Value} (hb : Below w.heap.size w w') (h : w.cell? p = some v) : w'.cell? p = some v := (hb.cell (World.block_lt_of_cell? _ _ h)).trans h
/-- A truth that says whether Q. -/
def BIs (e : Ending) (Q : Prop) : Prop := ∃ v, e = .returned (.bool v) ∧ (v = true ↔ Q)
theorem isPoint_as (p n : Int) (w : World) (v : Bool) (h : pnt p n = v) :
    Calls Tryd.prog 46 #[.int .i64 p, .int .i64 n] w fun e w' => e = .returned (.bool v) ∧ w = w' :=
  (isPoint_any p n w).mono fun _ _ ⟨h1, h2⟩ => ⟨by rw [← h]; exact h1, h2⟩
/-- A closure that answers P of two numbers below n, wherever what lay at first still lies. -/
def Clo2 (n F : Nat) (caps : Array Value) (P : Nat → Nat → Bool) (w : World) : Prop :=
  ∀ x y : Nat, x < n → y < n → ∀ W : World, Below w.heap.size w W → Calls Tryd.prog F (#[.int .i64 (x : Nat), .int .i64 (y : Nat)] ++ caps) W fun e w' => e = .returned (.bool (P x y)) ∧ Below W.heap.size W w'
/-- Monotone, of the first k. -/
def MonP (P Q : Nat → Nat → Bool) (f : Nat → Nat) (k : Nat) : Prop := ∀ y, y < k → ∀ x, x < k → P x y = true → Q (f x) (f y) = true
/-- Up to here. -/
def MonU (P Q : Nat → Nat → Bool) (f : Nat → Nat) (k y x : Nat) : Prop := ∀ b, b < k → ∀ a, a < k → (b < y ∨ (b = y ∧ a < x)) → P a b = true → Q (f a) (f b) = true
theorem MonU.zero (P Q : Nat → Nat → Bool) (f : Nat → Nat) (k : Nat) : MonU P Q f k 0 0 := fun b _ a _ h => by omega
theorem MonU.next {P Q : Nat → Nat → Bool} {f : Nat → Nat} {k y x : Nat} (h : MonU P Q f k y x) (e : P x y = true → Q (f x) (f y) = true) : MonU P Q f k y (x + 1) := fun b hb a ha q => by
  by_cases r : b = y ∧ a = x
  · obtain ⟨rfl, rfl⟩ := r; exact e
  · exact h b hb a ha (by omega)
theorem MonU.row {P Q : Nat → Nat → Bool} {f : Nat → Nat} {k y : Nat} (h : MonU P Q f k y k) : MonU P Q f k (y + 1) 0 := fun b hb a ha q => h b hb a ha (by omega)
set_option maxHeartbeats 4000000 in
theorem isMonotone_any (k n n' G1 G2 : Nat) (caps1 caps2 : Array Value) (P Q : Nat → Nat → Bool) (fa : Option Addr) (fc : Nat) (f : Nat → Nat) (w : World) (h40 : k ≤ 40) (hk : k ≤ n) (hF1 : Ent G1) (hF2 : Ent G2) (hc1 : Clo2 n G1 caps1 P w) (hc2 : Clo2 n' G2 caps2 Q w) (hf : ∀ x, x < k → f x < n') (hr : Row w fa k (fun x => (f x : Nat))) :
    Calls Tryd.prog 32 #[.slice fa k fc, .func (.func G1) #[] caps1, .func (.func G2) #[] caps2] w fun e w' => BIs e (MonP P Q f k) ∧ Below w.heap.size w w' := by
  have HC1 : Hid (Clo2 n G1 caps1 P w) := hc1
  have HC2 : Hid (Clo2 n' G2 caps2 Q w) := hc2
  have HF : Hid (∀ x, x < k → f x < n') := hf
  have HR : Hid (Row w fa k (fun x => (f x : Nat))) := hr
  clear hc1 hc2 hf hr
  go_enter Tryd.func32, Tryd.ntmps32
  go_wp2_with fail
  go_loopw [11] (fun i wx => ∃ y : Nat, y ≤ k ∧ i = .int .i64 y ∧ Hid (Below w.heap.size w wx) ∧ Hid (MonU P Q f k y 0)) (fun i _ => k - (intOf i).toNat)
  case atStart => exact ⟨0, Nat.zero_le _, rfl, Below.refl _ _, MonU.zero _ _ _ _⟩
  case round =>
    obtain ⟨y, hy, rfl, HW, HU⟩ := hrel
    by_cases hyl : y < k
    · obtain ⟨fb, fo, rfl, hcy⟩ := HR.out y hyl
      go_wp2_with fail
      go_loopw [16] (fun i wx => ∃ x : Nat, x ≤ k ∧ i = .int .i64 x ∧ Hid (Below w.heap.size w wx) ∧ Hid (MonU P Q f k y x)) (fun i _ => k - (intOf i).toNat)
      case atStart => exact ⟨0, Nat.zero_le _, rfl, HW, HU⟩
      case round =>
        clear HW HU
        obtain ⟨x, hx, rfl, HW, HU⟩ := hrel
        by_cases hxl : x < k
        · obtain ⟨_, _, e, hcx⟩ := HR.out x hxl
          cases e
          have hfx := HF.out x hxl
          have hfy := HF.out y hyl
          have KK : Below w.heap.size w wr.drew := HW.out.drew
          have KX : Hid (Below w.heap.size w wr) := HW.out
          have i1 : (x : Int) < (k : Int) := by omega
          have i2 : (y : Int) < (k : Int) := by omega
          have d0 : ∀ w', Below w.heap.size w w' → w'.cell? ⟨fb, fo + x, none⟩ = some (.int .i64 (f x : Nat)) := fun w' h => cell_step h hcx
          have d1 : ∀ w', Below w.heap.size w w' → w'.cell? ⟨fb, fo + y, none⟩ = some (.int .i64 (f y : Nat)) := fun w' h => cell_step h hcy
          rcases hp : P x y with _ | _
          · have HN : Hid (MonU P Q f k y (x + 1)) := HU.out.next fun h => by rw [hp] at h; cases h
            go_wp2_with fail
            clear HW
            refine wp_region_held_drew (S := (fun w' => Below w.heap.size w w')) (by kernel_rfl) (KK) (fun hHeld => ?_)
            refine wpAnyH_take (i := 0) (oi := { dst := some 19, op := Go.Op.move (Go.Operand.tmp 1), type := 51, pos := "maps.go:26", after := #[], guard := none }) (v := ?_) rfl (by kernel_rfl) (by kernel_rfl) (by kernel_rfl) (fun _ _ _ h => h) (Or.inl ⟨by rfl, ?hy⟩) (by assumption) ?_
            case hy => (intro w9 hSw; (try dsimp only at hSw); go_simp; try with_reducible rfl)
            try simp only [Act.put, List.setIfInBounds_toArray, List.set_cons_zero, List.set_cons_succ]
            refine wpAnyH_take (i := 1) (oi := { dst := some 20, op := Go.Op.move (Go.Operand.tmp 8), type := 3, pos := "maps.go:26", after := #[], guard := none }) (v := ?_) rfl (by kernel_rfl) (by kernel_rfl) (by kernel_rfl) (fun _ _ _ h => h) (Or.inl ⟨by rfl, ?hy⟩) (by assumption) ?_
            case hy => (intro w9 hSw; (try dsimp only at hSw); go_simp; try with_reducible rfl)
            try simp only [Act.put, List.setIfInBounds_toArray, List.set_cons_zero, List.set_cons_succ]
            refine wpAnyH_take (i := 2) (oi := { dst := some 21, op := Go.Op.move (Go.Operand.tmp 7), type := 3, pos := "maps.go:26", after := #[], guard := none }) (v := ?_) rfl (by kernel_rfl) (by kernel_rfl) (by kernel_rfl) (fun _ _ _ h => h) (Or.inl ⟨by rfl, ?hy⟩) (by assumption) ?_
            case hy => (intro w9 hSw; (try dsimp only at hSw); go_simp; try with_reducible rfl)
            try simp only [Act.put, List.setIfInBounds_toArray, List.set_cons_zero, List.set_cons_succ]
            refine wpAnyH_ready (rs := [3]) (by kernel_rfl) (by simp) ?_
            refine AllReadyH.cons (o := { dst := some 22, op := Go.Op.call { callee := Go.Callee.value (Go.Operand.tmp 19), args := #[Go.Operand.tmp 20, Go.Operand.tmp 21], argTypes := #[3, 3] }, type := 4, pos := "maps.go:26", after := #[{ on := 0, ground := Go.Ground.data }, { on := 1, ground := Go.Ground.data }, { on := 2, ground := Go.Ground.data }], guard := none }) rfl (fun K hK => ?_) AllReadyH.nil
            go_simp
            rw [hF1, Oper.upon_enter]
            refine (HC1.out x y (by omega) (by omega) _ (by assumption)).mono ?_
            rintro e w8 ⟨rfl, hb8⟩
            rw [hp]
            refine hK.out _ _ ?_ (fun hHeld => ?_)
            · first | assumption | exact Below.then (by assumption) (by assumption)
            clear hK K
            try simp only [Act.put, List.setIfInBounds_toArray, List.set_cons_zero, List.set_cons_succ]
            refine wpAnyH_take (i := 4) (oi := { dst := some 23, op := Go.Op.move (Go.Operand.tmp 22), type := 4, pos := "maps.go:26", after := #[{ on := 3, ground := Go.Ground.data }, { on := 3, ground := Go.Ground.chain }], guard := none }) (v := ?_) rfl (by kernel_rfl) (by kernel_rfl) (by kernel_rfl) (fun _ _ _ h => h) (Or.inl ⟨by rfl, ?hy⟩) (by assumption) ?_
            case hy => (intro w9 hSw; (try dsimp only at hSw); go_simp; try with_reducible rfl)
            try simp only [Act.put, List.setIfInBounds_toArray, List.set_cons_zero, List.set_cons_succ]
            refine wpAnyH_take (i := 5) (oi := { dst := some 24, op := Go.Op.move (Go.Operand.tmp 2), type := 51, pos := "maps.go:26", after := #[{ on := 4, ground := Go.Ground.guard }], guard := some (4, true) }) (v := undef) rfl (by kernel_rfl) (by kernel_rfl) (by kernel_rfl) (fun _ _ _ h => h) (Or.inr ⟨by rfl, rfl⟩) (by assumption) ?_
            try simp only [Act.put, List.setIfInBounds_toArray, List.set_cons_zero, List.set_cons_succ]
            refine wpAnyH_take (i := 6) (oi := { dst := some 25, op := Go.Op.move (Go.Operand.tmp 0), type := 22, pos := "maps.go:26", after := #[{ on := 4, ground := Go.Ground.guard }], guard := some (4, true) }) (v := undef) rfl (by kernel_rfl) (by kernel_rfl) (by kernel_rfl) (fun _ _ _ h => h) (Or.inr ⟨by rfl, rfl⟩) (by assumption) ?_
            try simp only [Act.put, List.setIfInBounds_toArray, List.set_cons_zero, List.set_cons_succ]
            refine wpAnyH_take (i := 7) (oi := { dst := some 26, op := Go.Op.move (Go.Operand.tmp 8), type := 3, pos := "maps.go:26", after := #[{ on := 4, ground := Go.Ground.guard }], guard := some (4, true) }) (v := undef) rfl (by kernel_rfl) (by kernel_rfl) (by kernel_rfl) (fun _ _ _ h => h) (Or.inr ⟨by rfl, rfl⟩) (by assumption) ?_
            try simp only [Act.put, List.setIfInBounds_toArray, List.set_cons_zero, List.set_cons_succ]
            refine wpAnyH_take (i := 8) (oi := { dst := some 27, op := Go.Op.indexAddr 22 (Go.Operand.tmp 25) (Go.Operand.tmp 26), type := 0, pos := "maps.go:26", after := #[{ on := 6, ground := Go.Ground.data }, { on := 7, ground := Go.Ground.data }, { on := 4, ground := Go.Ground.guard }], guard := some (4, true) }) (v := undef) rfl (by kernel_rfl) (by kernel_rfl) (by kernel_rfl) (fun _ _ _ h => h) (Or.inr ⟨by rfl, rfl⟩) (by assumption) ?_
            try simp only [Act.put, List.setIfInBounds_toArray, List.set_cons_zero, List.set_cons_succ]
            refine wpAnyH_take (i := 9) (oi := { dst := some 28, op := Go.Op.load 3 (Go.Operand.tmp 27), type := 3, pos := "maps.go:26", after := #[{ on := 8, ground := Go.Ground.data }, { on := 4, ground := Go.Ground.guard }], guard := some (4, true) }) (v := undef) rfl (by kernel_rfl) (by kernel_rfl) (by kernel_rfl) (fun _ _ _ h => h) (Or.inr ⟨by rfl, rfl⟩) (by assumption) ?_
            try simp only [Act.put, List.setIfInBounds_toArray, List.set_cons_zero, List.set_cons_succ]
            refine wpAnyH_take (i := 10) (oi := { dst := some 29, op := Go.Op.move (Go.Operand.tmp 0), type := 22, pos := "maps.go:26", after := #[{ on := 4, ground := Go.Ground.guard }], guard := some (4, true) }) (v := undef) rfl (by kernel_rfl) (by kernel_rfl) (by kernel_rfl) (fun _ _ _ h => h) (Or.inr ⟨by rfl, rfl⟩) (by assumption) ?_
            try simp only [Act.put, List.setIfInBounds_toArray, List.set_cons_zero, List.set_cons_succ]
            refine wpAnyH_take (i := 11) (oi := { dst := some 30, op := Go.Op.move (Go.Operand.tmp 7), type := 3, pos := "maps.go:26", after := #[{ on := 4, ground := Go.Ground.guard }], guard := some (4, true) }) (v := undef) rfl (by kernel_rfl) (by kernel_rfl) (by kernel_rfl) (fun _ _ _ h => h) (Or.inr ⟨by rfl, rfl⟩) (by assumption) ?_
            try simp only [Act.put, List.setIfInBounds_toArray, List.set_cons_zero, List.set_cons_succ]
            refine wpAnyH_take (i := 12) (oi := { dst := some 31, op := Go.Op.indexAddr 22 (Go.Operand.tmp 29) (Go.Operand.tmp 30), type := 0, pos := "maps.go:26", after := #[{ on := 10, ground := Go.Ground.data }, { on := 11, ground := Go.Ground.data }, { on := 4, ground := Go.Ground.guard }], guard := some (4, true) }) (v := undef) rfl (by kernel_rfl) (by kernel_rfl) (by kernel_rfl) (fun _ _ _ h => h) (Or.inr ⟨by rfl, rfl⟩) (by assumption) ?_
            try simp only [Act.put, List.setIfInBounds_toArray, List.set_cons_zero, List.set_cons_succ]
            refine wpAnyH_take (i := 13) (oi := { dst := some 32, op := Go.Op.load 3 (Go.Operand.tmp 31), type := 3, pos := "maps.go:26", after := #[{ on := 12, ground := Go.Ground.data }, { on := 4, ground := Go.Ground.guard }], guard := some (4, true) }) (v := undef) rfl (by kernel_rfl) (by kernel_rfl) (by kernel_rfl) (fun _ _ _ h => h) (Or.inr ⟨by rfl, rfl⟩) (by assumption) ?_
            try simp only [Act.put, List.setIfInBounds_toArray, List.set_cons_zero, List.set_cons_succ]
            refine wpAnyH_take (i := 14) (oi := { dst := some 33, op := Go.Op.call { callee := Go.Callee.value (Go.Operand.tmp 24), args := #[Go.Operand.tmp 28, Go.Operand.tmp 32], argTypes := #[3, 3] }, type := 4, pos := "maps.go:26", after := #[{ on := 5, ground := Go.Ground.data }, { on := 9, ground := Go.Ground.data }, { on := 13, ground := Go.Ground.data }, { on := 4, ground := Go.Ground.chain }, { on := 4, ground := Go.Ground.guard }], guard := some (4, true) }) (v := undef) rfl (by kernel_rfl) (by kernel_rfl) (by kernel_rfl) (fun _ _ _ h => h) (Or.inr ⟨by rfl, rfl⟩) (by assumption) ?_
            try simp only [Act.put, List.setIfInBounds_toArray, List.set_cons_zero, List.set_cons_succ]
            refine wpAnyH_take (i := 15) (oi := { dst := some 34, op := Go.Op.unOp Go.UnOp.not 4 (Go.Operand.tmp 33), type := 4, pos := "maps.go:26", after := #[{ on := 14, ground := Go.Ground.data }, { on := 4, ground := Go.Ground.guard }], guard := some (4, true) }) (v := undef) rfl (by kernel_rfl) (by kernel_rfl) (by kernel_rfl) (fun _ _ _ h => h) (Or.inr ⟨by rfl, rfl⟩) (by assumption) ?_
            try simp only [Act.put, List.setIfInBounds_toArray, List.set_cons_zero, List.set_cons_succ]
            refine wpAnyH_take (i := 16) (oi := { dst := some 35, op := Go.Op.pick (Go.Operand.tmp 23) (Go.Operand.tmp 34) (Go.Operand.const (Go.Value.bool false)), type := 4, pos := "maps.go:26", after := #[{ on := 4, ground := Go.Ground.data }, { on := 15, ground := Go.Ground.data }], guard := none }) (v := ?_) rfl (by kernel_rfl) (by kernel_rfl) (by kernel_rfl) (fun _ _ _ h => h) (Or.inl ⟨by rfl, ?hy⟩) (by assumption) ?_
            case hy => (intro w9 hSw; (try dsimp only at hSw); go_simp; try with_reducible rfl)
            try simp only [Act.put, List.setIfInBounds_toArray, List.set_cons_zero, List.set_cons_succ]
            refine wpAnyH_done (by kernel_rfl) ?_ _
            try simp only [Act.put, List.setIfInBounds_toArray, List.set_cons_zero, List.set_cons_succ]
            go_wp2_with fail
            go_roundw
            case rel => exact ⟨x + 1, by omega, by go_num, by first | assumption | exact hHeld, HN.out⟩
            case measure => simp [intOf]; omega
          · rcases hq : Q (f x) (f y) with _ | _
            · have HN : Hid (¬ MonP P Q f k) := fun h => by have := h y hyl x hxl hp; rw [hq] at this; cases this
              go_wp2_with fail
              clear HW
              refine wp_region_held_drew (S := (fun w' => Below w.heap.size w w')) (by kernel_rfl) (KK) (fun hHeld => ?_)
              refine wpAnyH_take (i := 0) (oi := { dst := some 19, op := Go.Op.move (Go.Operand.tmp 1), type := 51, pos := "maps.go:26", after := #[], guard := none }) (v := ?_) rfl (by kernel_rfl) (by kernel_rfl) (by kernel_rfl) (fun _ _ _ h => h) (Or.inl ⟨by rfl, ?hy⟩) (by assumption) ?_
              case hy => (intro w9 hSw; (try dsimp only at hSw); go_simp; try with_reducible rfl)
              try simp only [Act.put, List.setIfInBounds_toArray, List.set_cons_zero, List.set_cons_succ]
              refine wpAnyH_take (i := 1) (oi := { dst := some 20, op := Go.Op.move (Go.Operand.tmp 8), type := 3, pos := "maps.go:26", after := #[], guard := none }) (v := ?_) rfl (by kernel_rfl) (by kernel_rfl) (by kernel_rfl) (fun _ _ _ h => h) (Or.inl ⟨by rfl, ?hy⟩) (by assumption) ?_
              case hy => (intro w9 hSw; (try dsimp only at hSw); go_simp; try with_reducible rfl)
              try simp only [Act.put, List.setIfInBounds_toArray, List.set_cons_zero, List.set_cons_succ]
              refine wpAnyH_take (i := 2) (oi := { dst := some 21, op := Go.Op.move (Go.Operand.tmp 7), type := 3, pos := "maps.go:26", after := #[], guard := none }) (v := ?_) rfl (by kernel_rfl) (by kernel_rfl) (by kernel_rfl) (fun _ _ _ h => h) (Or.inl ⟨by rfl, ?hy⟩) (by assumption) ?_
              case hy => (intro w9 hSw; (try dsimp only at hSw); go_simp; try with_reducible rfl)
              try simp only [Act.put, List.setIfInBounds_toArray, List.set_cons_zero, List.set_cons_succ]
              refine wpAnyH_ready (rs := [3]) (by kernel_rfl) (by simp) ?_
              refine AllReadyH.cons (o := { dst := some 22, op := Go.Op.call { callee := Go.Callee.value (Go.Operand.tmp 19), args := #[Go.Operand.tmp 20, Go.Operand.tmp 21], argTypes := #[3, 3] }, type := 4, pos := "maps.go:26", after := #[{ on := 0, ground := Go.Ground.data }, { on := 1, ground := Go.Ground.data }, { on := 2, ground := Go.Ground.data }], guard := none }) rfl (fun K hK => ?_) AllReadyH.nil
              go_simp
              rw [hF1, Oper.upon_enter]
              refine (HC1.out x y (by omega) (by omega) _ (by assumption)).mono ?_
              rintro e w8 ⟨rfl, hb8⟩
              rw [hp]
              refine hK.out _ _ ?_ (fun hHeld => ?_)
              · first | assumption | exact Below.then (by assumption) (by assumption)
              clear hK K
              try simp only [Act.put, List.setIfInBounds_toArray, List.set_cons_zero, List.set_cons_succ]
              refine wpAnyH_take (i := 4) (oi := { dst := some 23, op := Go.Op.move (Go.Operand.tmp 22), type := 4, pos := "maps.go:26", after := #[{ on := 3, ground := Go.Ground.data }, { on := 3, ground := Go.Ground.chain }], guard := none }) (v := ?_) rfl (by kernel_rfl) (by kernel_rfl) (by kernel_rfl) (fun _ _ _ h => h) (Or.inl ⟨by rfl, ?hy⟩) (by assumption) ?_
              case hy => (intro w9 hSw; (try dsimp only at hSw); go_simp; try with_reducible rfl)
              try simp only [Act.put, List.setIfInBounds_toArray, List.set_cons_zero, List.set_cons_succ]
              refine wpAnyH_take (i := 5) (oi := { dst := some 24, op := Go.Op.move (Go.Operand.tmp 2), type := 51, pos := "maps.go:26", after := #[{ on := 4, ground := Go.Ground.guard }], guard := some (4, true) }) (v := ?_) rfl (by kernel_rfl) (by kernel_rfl) (by kernel_rfl) (fun _ _ _ h => h) (Or.inl ⟨by rfl, ?hy⟩) (by assumption) ?_
              case hy => (intro w9 hSw; (try dsimp only at hSw); go_simp; try with_reducible rfl)
              try simp only [Act.put, List.setIfInBounds_toArray, List.set_cons_zero, List.set_cons_succ]
              refine wpAnyH_take (i := 6) (oi := { dst := some 25, op := Go.Op.move (Go.Operand.tmp 0), type := 22, pos := "maps.go:26", after := #[{ on := 4, ground := Go.Ground.guard }], guard := some (4, true) }) (v := ?_) rfl (by kernel_rfl) (by kernel_rfl) (by kernel_rfl) (fun _ _ _ h => h) (Or.inl ⟨by rfl, ?hy⟩) (by assumption) ?_
              case hy => (intro w9 hSw; (try dsimp only at hSw); go_simp; try with_reducible rfl)
              try simp only [Act.put, List.setIfInBounds_toArray, List.set_cons_zero, List.set_cons_succ]
              refine wpAnyH_take (i := 7) (oi := { dst := some 26, op := Go.Op.move (Go.Operand.tmp 8), type := 3, pos := "maps.go:26", after := #[{ on := 4, ground := Go.Ground.guard }], guard := some (4, true) }) (v := ?_) rfl (by kernel_rfl) (by kernel_rfl) (by kernel_rfl) (fun _ _ _ h => h) (Or.inl ⟨by rfl, ?hy⟩) (by assumption) ?_
              case hy => (intro w9 hSw; (try dsimp only at hSw); go_simp; try with_reducible rfl)
              try simp only [Act.put, List.setIfInBounds_toArray, List.set_cons_zero, List.set_cons_succ]
              refine wpAnyH_take (i := 8) (oi := { dst := some 27, op := Go.Op.indexAddr 22 (Go.Operand.tmp 25) (Go.Operand.tmp 26), type := 0, pos := "maps.go:26", after := #[{ on := 6, ground := Go.Ground.data }, { on := 7, ground := Go.Ground.data }, { on := 4, ground := Go.Ground.guard }], guard := some (4, true) }) (v := ?_) rfl (by kernel_rfl) (by kernel_rfl) (by kernel_rfl) (fun _ _ _ h => h) (Or.inl ⟨by rfl, ?hy⟩) (by assumption) ?_
              case hy => (intro w9 hSw; (try dsimp only at hSw); go_simp; try with_reducible rfl)
              try simp only [Act.put, List.setIfInBounds_toArray, List.set_cons_zero, List.set_cons_succ]
              refine wpAnyH_take (i := 9) (oi := { dst := some 28, op := Go.Op.load 3 (Go.Operand.tmp 27), type := 3, pos := "maps.go:26", after := #[{ on := 8, ground := Go.Ground.data }, { on := 4, ground := Go.Ground.guard }], guard := some (4, true) }) (v := ?_) rfl (by kernel_rfl) (by kernel_rfl) (by kernel_rfl) (fun _ _ _ h => h) (Or.inl ⟨by rfl, ?hy⟩) (by assumption) ?_
              case hy => (intro w9 hSw; (try dsimp only at hSw); go_simp; try with_reducible rfl)
              try simp only [Act.put, List.setIfInBounds_toArray, List.set_cons_zero, List.set_cons_succ]
              refine wpAnyH_take (i := 10) (oi := { dst := some 29, op := Go.Op.move (Go.Operand.tmp 0), type := 22, pos := "maps.go:26", after := #[{ on := 4, ground := Go.Ground.guard }], guard := some (4, true) }) (v := ?_) rfl (by kernel_rfl) (by kernel_rfl) (by kernel_rfl) (fun _ _ _ h => h) (Or.inl ⟨by rfl, ?hy⟩) (by assumption) ?_
              case hy => (intro w9 hSw; (try dsimp only at hSw); go_simp; try with_reducible rfl)
              try simp only [Act.put, List.setIfInBounds_toArray, List.set_cons_zero, List.set_cons_succ]
              refine wpAnyH_take (i := 11) (oi := { dst := some 30, op := Go.Op.move (Go.Operand.tmp 7), type := 3, pos := "maps.go:26", after := #[{ on := 4, ground := Go.Ground.guard }], guard := some (4, true) }) (v := ?_) rfl (by kernel_rfl) (by kernel_rfl) (by kernel_rfl) (fun _ _ _ h => h) (Or.inl ⟨by rfl, ?hy⟩) (by assumption) ?_
              case hy => (intro w9 hSw; (try dsimp only at hSw); go_simp; try with_reducible rfl)
              try simp only [Act.put, List.setIfInBounds_toArray, List.set_cons_zero, List.set_cons_succ]
              refine wpAnyH_take (i := 12) (oi := { dst := some 31, op := Go.Op.indexAddr 22 (Go.Operand.tmp 29) (Go.Operand.tmp 30), type := 0, pos := "maps.go:26", after := #[{ on := 10, ground := Go.Ground.data }, { on := 11, ground := Go.Ground.data }, { on := 4, ground := Go.Ground.guard }], guard := some (4, true) }) (v := ?_) rfl (by kernel_rfl) (by kernel_rfl) (by kernel_rfl) (fun _ _ _ h => h) (Or.inl ⟨by rfl, ?hy⟩) (by assumption) ?_
              case hy => (intro w9 hSw; (try dsimp only at hSw); go_simp; try with_reducible rfl)
              try simp only [Act.put, List.setIfInBounds_toArray, List.set_cons_zero, List.set_cons_succ]
              refine wpAnyH_take (i := 13) (oi := { dst := some 32, op := Go.Op.load 3 (Go.Operand.tmp 31), type := 3, pos := "maps.go:26", after := #[{ on := 12, ground := Go.Ground.data }, { on := 4, ground := Go.Ground.guard }], guard := some (4, true) }) (v := ?_) rfl (by kernel_rfl) (by kernel_rfl) (by kernel_rfl) (fun _ _ _ h => h) (Or.inl ⟨by rfl, ?hy⟩) (by assumption) ?_
              case hy => (intro w9 hSw; (try dsimp only at hSw); go_simp; try with_reducible rfl)
              try simp only [Act.put, List.setIfInBounds_toArray, List.set_cons_zero, List.set_cons_succ]
              refine wpAnyH_ready (rs := [14]) (by kernel_rfl) (by simp) ?_
              refine AllReadyH.cons (o := { dst := some 33, op := Go.Op.call { callee := Go.Callee.value (Go.Operand.tmp 24), args := #[Go.Operand.tmp 28, Go.Operand.tmp 32], argTypes := #[3, 3] }, type := 4, pos := "maps.go:26", after := #[{ on := 5, ground := Go.Ground.data }, { on := 9, ground := Go.Ground.data }, { on := 13, ground := Go.Ground.data }, { on := 4, ground := Go.Ground.chain }, { on := 4, ground := Go.Ground.guard }], guard := some (4, true) }) rfl (fun K hK => ?_) AllReadyH.nil
              go_simp
              rw [hF2, Oper.upon_enter]
              refine (HC2.out (f x) (f y) hfx hfy _ (by assumption)).mono ?_
              rintro e w9 ⟨rfl, hb9⟩
              rw [hq]
              refine hK.out _ _ ?_ (fun hHeld => ?_)
              · first | assumption | exact Below.then (by assumption) (by assumption)
              clear hK K
              try simp only [Act.put, List.setIfInBounds_toArray, List.set_cons_zero, List.set_cons_succ]
              refine wpAnyH_take (i := 15) (oi := { dst := some 34, op := Go.Op.unOp Go.UnOp.not 4 (Go.Operand.tmp 33), type := 4, pos := "maps.go:26", after := #[{ on := 14, ground := Go.Ground.data }, { on := 4, ground := Go.Ground.guard }], guard := some (4, true) }) (v := ?_) rfl (by kernel_rfl) (by kernel_rfl) (by kernel_rfl) (fun _ _ _ h => h) (Or.inl ⟨by rfl, ?hy⟩) (by assumption) ?_
              case hy => (intro w9 hSw; (try dsimp only at hSw); go_simp; try with_reducible rfl)
              try simp only [Act.put, List.setIfInBounds_toArray, List.set_cons_zero, List.set_cons_succ]
              refine wpAnyH_take (i := 16) (oi := { dst := some 35, op := Go.Op.pick (Go.Operand.tmp 23) (Go.Operand.tmp 34) (Go.Operand.const (Go.Value.bool false)), type := 4, pos := "maps.go:26", after := #[{ on := 4, ground := Go.Ground.data }, { on := 15, ground := Go.Ground.data }], guard := none }) (v := ?_) rfl (by kernel_rfl) (by kernel_rfl) (by kernel_rfl) (fun _ _ _ h => h) (Or.inl ⟨by rfl, ?hy⟩) (by assumption) ?_
              case hy => (intro w9 hSw; (try dsimp only at hSw); go_simp; try with_reducible rfl)
              try simp only [Act.put, List.setIfInBounds_toArray, List.set_cons_zero, List.set_cons_succ]
              refine wpAnyH_done (by kernel_rfl) ?_ _
              try simp only [Act.put, List.setIfInBounds_toArray, List.set_cons_zero, List.set_cons_succ]
              have HE : Hid (Below w.heap.size w w9) := by first | assumption | exact hHeld
              go_wp2_with fail
              go_ret
              exact ⟨⟨false, rfl, fun h => (by cases h), fun h => absurd h HN.out⟩, HE.out⟩
            · have HN : Hid (MonU P Q f k y (x + 1)) := HU.out.next fun _ => hq
              go_wp2_with fail
              clear HW
              refine wp_region_held_drew (S := (fun w' => Below w.heap.size w w')) (by kernel_rfl) (KK) (fun hHeld => ?_)
              refine wpAnyH_take (i := 0) (oi := { dst := some 19, op := Go.Op.move (Go.Operand.tmp 1), type := 51, pos := "maps.go:26", after := #[], guard := none }) (v := ?_) rfl (by kernel_rfl) (by kernel_rfl) (by kernel_rfl) (fun _ _ _ h => h) (Or.inl ⟨by rfl, ?hy⟩) (by assumption) ?_
              case hy => (intro w9 hSw; (try dsimp only at hSw); go_simp; try with_reducible rfl)
              try simp only [Act.put, List.setIfInBounds_toArray, List.set_cons_zero, List.set_cons_succ]
              refine wpAnyH_take (i := 1) (oi := { dst := some 20, op := Go.Op.move (Go.Operand.tmp 8), type := 3, pos := "maps.go:26", after := #[], guard := none }) (v := ?_) rfl (by kernel_rfl) (by kernel_rfl) (by kernel_rfl) (fun _ _ _ h => h) (Or.inl ⟨by rfl, ?hy⟩) (by assumption) ?_
              case hy => (intro w9 hSw; (try dsimp only at hSw); go_simp; try with_reducible rfl)
              try simp only [Act.put, List.setIfInBounds_toArray, List.set_cons_zero, List.set_cons_succ]
              refine wpAnyH_take (i := 2) (oi := { dst := some 21, op := Go.Op.move (Go.Operand.tmp 7), type := 3, pos := "maps.go:26", after := #[], guard := none }) (v := ?_) rfl (by kernel_rfl) (by kernel_rfl) (by kernel_rfl) (fun _ _ _ h => h) (Or.inl ⟨by rfl, ?hy⟩) (by assumption) ?_
              case hy => (intro w9 hSw; (try dsimp only at hSw); go_simp; try with_reducible rfl)
              try simp only [Act.put, List.setIfInBounds_toArray, List.set_cons_zero, List.set_cons_succ]
              refine wpAnyH_ready (rs := [3]) (by kernel_rfl) (by simp) ?_
              refine AllReadyH.cons (o := { dst := some 22, op := Go.Op.call { callee := Go.Callee.value (Go.Operand.tmp 19), args := #[Go.Operand.tmp 20, Go.Operand.tmp 21], argTypes := #[3, 3] }, type := 4, pos := "maps.go:26", after := #[{ on := 0, ground := Go.Ground.data }, { on := 1, ground := Go.Ground.data }, { on := 2, ground := Go.Ground.data }], guard := none }) rfl (fun K hK => ?_) AllReadyH.nil
              go_simp
              rw [hF1, Oper.upon_enter]
              refine (HC1.out x y (by omega) (by omega) _ (by assumption)).mono ?_
              rintro e w8 ⟨rfl, hb8⟩
              rw [hp]
              refine hK.out _ _ ?_ (fun hHeld => ?_)
              · first | assumption | exact Below.then (by assumption) (by assumption)
              clear hK K
              try simp only [Act.put, List.setIfInBounds_toArray, List.set_cons_zero, List.set_cons_succ]
              refine wpAnyH_take (i := 4) (oi := { dst := some 23, op := Go.Op.move (Go.Operand.tmp 22), type := 4, pos := "maps.go:26", after := #[{ on := 3, ground := Go.Ground.data }, { on := 3, ground := Go.Ground.chain }], guard := none }) (v := ?_) rfl (by kernel_rfl) (by kernel_rfl) (by kernel_rfl) (fun _ _ _ h => h) (Or.inl ⟨by rfl, ?hy⟩) (by assumption) ?_
              case hy => (intro w9 hSw; (try dsimp only at hSw); go_simp; try with_reducible rfl)
              try simp only [Act.put, List.setIfInBounds_toArray, List.set_cons_zero, List.set_cons_succ]
              refine wpAnyH_take (i := 5) (oi := { dst := some 24, op := Go.Op.move (Go.Operand.tmp 2), type := 51, pos := "maps.go:26", after := #[{ on := 4, ground := Go.Ground.guard }], guard := some (4, true) }) (v := ?_) rfl (by kernel_rfl) (by kernel_rfl) (by kernel_rfl) (fun _ _ _ h => h) (Or.inl ⟨by rfl, ?hy⟩) (by assumption) ?_
              case hy => (intro w9 hSw; (try dsimp only at hSw); go_simp; try with_reducible rfl)
              try simp only [Act.put, List.setIfInBounds_toArray, List.set_cons_zero, List.set_cons_succ]
              refine wpAnyH_take (i := 6) (oi := { dst := some 25, op := Go.Op.move (Go.Operand.tmp 0), type := 22, pos := "maps.go:26", after := #[{ on := 4, ground := Go.Ground.guard }], guard := some (4, true) }) (v := ?_) rfl (by kernel_rfl) (by kernel_rfl) (by kernel_rfl) (fun _ _ _ h => h) (Or.inl ⟨by rfl, ?hy⟩) (by assumption) ?_
              case hy => (intro w9 hSw; (try dsimp only at hSw); go_simp; try with_reducible rfl)
              try simp only [Act.put, List.setIfInBounds_toArray, List.set_cons_zero, List.set_cons_succ]
              refine wpAnyH_take (i := 7) (oi := { dst := some 26, op := Go.Op.move (Go.Operand.tmp 8), type := 3, pos := "maps.go:26", after := #[{ on := 4, ground := Go.Ground.guard }], guard := some (4, true) }) (v := ?_) rfl (by kernel_rfl) (by kernel_rfl) (by kernel_rfl) (fun _ _ _ h => h) (Or.inl ⟨by rfl, ?hy⟩) (by assumption) ?_
              case hy => (intro w9 hSw; (try dsimp only at hSw); go_simp; try with_reducible rfl)
              try simp only [Act.put, List.setIfInBounds_toArray, List.set_cons_zero, List.set_cons_succ]
              refine wpAnyH_take (i := 8) (oi := { dst := some 27, op := Go.Op.indexAddr 22 (Go.Operand.tmp 25) (Go.Operand.tmp 26), type := 0, pos := "maps.go:26", after := #[{ on := 6, ground := Go.Ground.data }, { on := 7, ground := Go.Ground.data }, { on := 4, ground := Go.Ground.guard }], guard := some (4, true) }) (v := ?_) rfl (by kernel_rfl) (by kernel_rfl) (by kernel_rfl) (fun _ _ _ h => h) (Or.inl ⟨by rfl, ?hy⟩) (by assumption) ?_
              case hy => (intro w9 hSw; (try dsimp only at hSw); go_simp; try with_reducible rfl)
              try simp only [Act.put, List.setIfInBounds_toArray, List.set_cons_zero, List.set_cons_succ]
              refine wpAnyH_take (i := 9) (oi := { dst := some 28, op := Go.Op.load 3 (Go.Operand.tmp 27), type := 3, pos := "maps.go:26", after := #[{ on := 8, ground := Go.Ground.data }, { on := 4, ground := Go.Ground.guard }], guard := some (4, true) }) (v := ?_) rfl (by kernel_rfl) (by kernel_rfl) (by kernel_rfl) (fun _ _ _ h => h) (Or.inl ⟨by rfl, ?hy⟩) (by assumption) ?_
              case hy => (intro w9 hSw; (try dsimp only at hSw); go_simp; try with_reducible rfl)
              try simp only [Act.put, List.setIfInBounds_toArray, List.set_cons_zero, List.set_cons_succ]
              refine wpAnyH_take (i := 10) (oi := { dst := some 29, op := Go.Op.move (Go.Operand.tmp 0), type := 22, pos := "maps.go:26", after := #[{ on := 4, ground := Go.Ground.guard }], guard := some (4, true) }) (v := ?_) rfl (by kernel_rfl) (by kernel_rfl) (by kernel_rfl) (fun _ _ _ h => h) (Or.inl ⟨by rfl, ?hy⟩) (by assumption) ?_
              case hy => (intro w9 hSw; (try dsimp only at hSw); go_simp; try with_reducible rfl)
              try simp only [Act.put, List.setIfInBounds_toArray, List.set_cons_zero, List.set_cons_succ]
              refine wpAnyH_take (i := 11) (oi := { dst := some 30, op := Go.Op.move (Go.Operand.tmp 7), type := 3, pos := "maps.go:26", after := #[{ on := 4, ground := Go.Ground.guard }], guard := some (4, true) }) (v := ?_) rfl (by kernel_rfl) (by kernel_rfl) (by kernel_rfl) (fun _ _ _ h => h) (Or.inl ⟨by rfl, ?hy⟩) (by assumption) ?_
              case hy => (intro w9 hSw; (try dsimp only at hSw); go_simp; try with_reducible rfl)
              try simp only [Act.put, List.setIfInBounds_toArray, List.set_cons_zero, List.set_cons_succ]
              refine wpAnyH_take (i := 12) (oi := { dst := some 31, op := Go.Op.indexAddr 22 (Go.Operand.tmp 29) (Go.Operand.tmp 30), type := 0, pos := "maps.go:26", after := #[{ on := 10, ground := Go.Ground.data }, { on := 11, ground := Go.Ground.data }, { on := 4, ground := Go.Ground.guard }], guard := some (4, true) }) (v := ?_) rfl (by kernel_rfl) (by kernel_rfl) (by kernel_rfl) (fun _ _ _ h => h) (Or.inl ⟨by rfl, ?hy⟩) (by assumption) ?_
              case hy => (intro w9 hSw; (try dsimp only at hSw); go_simp; try with_reducible rfl)
              try simp only [Act.put, List.setIfInBounds_toArray, List.set_cons_zero, List.set_cons_succ]
              refine wpAnyH_take (i := 13) (oi := { dst := some 32, op := Go.Op.load 3 (Go.Operand.tmp 31), type := 3, pos := "maps.go:26", after := #[{ on := 12, ground := Go.Ground.data }, { on := 4, ground := Go.Ground.guard }], guard := some (4, true) }) (v := ?_) rfl (by kernel_rfl) (by kernel_rfl) (by kernel_rfl) (fun _ _ _ h => h) (Or.inl ⟨by rfl, ?hy⟩) (by assumption) ?_
              case hy => (intro w9 hSw; (try dsimp only at hSw); go_simp; try with_reducible rfl)
              try simp only [Act.put, List.setIfInBounds_toArray, List.set_cons_zero, List.set_cons_succ]
              refine wpAnyH_ready (rs := [14]) (by kernel_rfl) (by simp) ?_
              refine AllReadyH.cons (o := { dst := some 33, op := Go.Op.call { callee := Go.Callee.value (Go.Operand.tmp 24), args := #[Go.Operand.tmp 28, Go.Operand.tmp 32], argTypes := #[3, 3] }, type := 4, pos := "maps.go:26", after := #[{ on := 5, ground := Go.Ground.data }, { on := 9, ground := Go.Ground.data }, { on := 13, ground := Go.Ground.data }, { on := 4, ground := Go.Ground.chain }, { on := 4, ground := Go.Ground.guard }], guard := some (4, true) }) rfl (fun K hK => ?_) AllReadyH.nil
              go_simp
              rw [hF2, Oper.upon_enter]
              refine (HC2.out (f x) (f y) hfx hfy _ (by assumption)).mono ?_
              rintro e w9 ⟨rfl, hb9⟩
              rw [hq]
              refine hK.out _ _ ?_ (fun hHeld => ?_)
              · first | assumption | exact Below.then (by assumption) (by assumption)
              clear hK K
              try simp only [Act.put, List.setIfInBounds_toArray, List.set_cons_zero, List.set_cons_succ]
              refine wpAnyH_take (i := 15) (oi := { dst := some 34, op := Go.Op.unOp Go.UnOp.not 4 (Go.Operand.tmp 33), type := 4, pos := "maps.go:26", after := #[{ on := 14, ground := Go.Ground.data }, { on := 4, ground := Go.Ground.guard }], guard := some (4, true) }) (v := ?_) rfl (by kernel_rfl) (by kernel_rfl) (by kernel_rfl) (fun _ _ _ h => h) (Or.inl ⟨by rfl, ?hy⟩) (by assumption) ?_
              case hy => (intro w9 hSw; (try dsimp only at hSw); go_simp; try with_reducible rfl)
              try simp only [Act.put, List.setIfInBounds_toArray, List.set_cons_zero, List.set_cons_succ]
              refine wpAnyH_take (i := 16) (oi := { dst := some 35, op := Go.Op.pick (Go.Operand.tmp 23) (Go.Operand.tmp 34) (Go.Operand.const (Go.Value.bool false)), type := 4, pos := "maps.go:26", after := #[{ on := 4, ground := Go.Ground.data }, { on := 15, ground := Go.Ground.data }], guard := none }) (v := ?_) rfl (by kernel_rfl) (by kernel_rfl) (by kernel_rfl) (fun _ _ _ h => h) (Or.inl ⟨by rfl, ?hy⟩) (by assumption) ?_
              case hy => (intro w9 hSw; (try dsimp only at hSw); go_simp; try with_reducible rfl)
              try simp only [Act.put, List.setIfInBounds_toArray, List.set_cons_zero, List.set_cons_succ]
              refine wpAnyH_done (by kernel_rfl) ?_ _
              try simp only [Act.put, List.setIfInBounds_toArray, List.set_cons_zero, List.set_cons_succ]
              go_wp2_with fail
              go_roundw
              case rel => exact ⟨x + 1, by omega, by go_num, by first | assumption | exact hHeld, HN.out⟩
              case measure => simp [intOf]; omega
        · obtain rfl : x = k := by omega
          have HN : Hid (MonU P Q f x (y + 1) 0) := HU.out.row
          go_wp2_with fail
          go_roundw
          case rel => exact ⟨y + 1, by omega, by go_num, HW, HN.out⟩
          case measure => simp [intOf]; omega
    · obtain rfl : y = k := by omega
      have HN : Hid (MonP P Q f y) := fun b hb a ha => HU.out b hb a ha (.inl hb)
      go_wp2_with fail
      go_ret
      exact ⟨⟨true, rfl, fun _ => HN.out, fun _ => rfl⟩, HW.out⟩
/-- A point and what is below it. -/
def up (g : Nat → Nat) (x : Nat) : Nat := g x ||| pw x
/-- Up to: the same or below. -/
def upB (g : Nat → Nat) (x y : Nat) : Bool := (up g y).testBit x
theorem inOrder_any (n : Int) (a : Option Addr) (la ca : Nat) (w : World) :
    Calls Tryd.prog 33 #[.agg #[.int .i64 n, .slice a la ca]] w fun e w' => e = .returned (.func (.func 47) #[] #[.pointer (some ⟨w.heap.size, 0, none⟩)]) ∧ w' = w.alloc (.cells #[.int .i64 n, .slice a la ca] 24) := by
  go_enter Tryd.func33, Tryd.ntmps33
  go_wp2
  go_ret
  exact ⟨rfl, rfl⟩
theorem ent_inOrder1 : Ent 47 := fun _ _ => rfl
set_option maxHeartbeats 1000000 in
theorem inOrder1_any (n b : Nat) (a : Option Addr) (ca : Nat) (g : Nat → Nat) (w : World) (h10 : n ≤ 10) (hg : ∀ k, k < n → g k < 1024) (c0 : w.cell? ⟨b, 0, none⟩ = some (.int .i64 (n : Nat))) (c1 : w.cell? ⟨b, 1, none⟩ = some (.slice a n ca)) (hr : Row w a n (fun k => (g k : Nat))) :
    Clo2 n 47 #[.pointer (some ⟨b, 0, none⟩)] (upB g) w := fun x y hx hy W hW => by
  show Calls Tryd.prog 47 #[.int .i64 (x : Nat), .int .i64 (y : Nat), .pointer (some ⟨b, 0, none⟩)] W _
  have d0 := cell_step hW c0
  have d1 := cell_step hW c1
  have HR : Hid (Row W a n (fun k => (g k : Nat))) := hr.below hW
  have hs : up g y < 1024 := by
    unfold up
    have h1 := hg y hy
    have h2 : pw y < 1024 := by
      have : pw y < 2 ^ 10 := Nat.pow_lt_pow_right (by decide) (by omega)
      omega
    exact Nat.or_lt_two_pow (n := 10) h1 h2
  have HG : Hid (∀ k, k < n → g k < 1024) := hg
  clear c0 c1 hr hW hg
  go_enter Tryd.func47, Tryd.ntmps47
  go_wp2_with fail
  refine (upTo_any (n : Nat) a n ca g y _ h10 HG.out HR.out hy).mono ?_
  rintro e w1 ⟨rfl, hb1⟩
  have HB1 : Hid (Below W.heap.size W w1) := hb1
  clear hb1 d0 d1 HR
  go_wp2_with fail
  refine (has_any (up g y) x _ (by omega) (by omega)).mono ?_
  rintro e w2 ⟨rfl, rfl⟩
  go_wp2_with fail
  go_ret
  exact ⟨rfl, HB1.out⟩
/-- An order as it comes in. -/
structure OA where
  n : Int
  a : Option Addr
  la : Nat
  ca : Nat
  F : Nat → Int
def OA.v (o : OA) : Value := .agg #[.int .i64 o.n, .slice o.a o.la o.ca]
def OA.In (o : OA) (w : World) : Prop := o.la ≤ maxLen ∧ Row w o.a o.la o.F
theorem OA.In.step {o : OA} {w w' : World} (h : o.In w) (hb : Below w.heap.size w w') : o.In w' := ⟨h.1, h.2.below hb⟩
def OA.Ck (o : OA) (c : Int) : Prop := Chk o.n o.la o.F c
def OA.q (o : OA) : Nat := o.n.toNat
def OA.g (o : OA) : Nat → Nat := nat o.F
def OB (w : World) (B : Nat) (n : Int) (a : Option Addr) (la ca : Nat) : Prop := w.cell? ⟨B, 0, none⟩ = some (.int .i64 n) ∧ w.cell? ⟨B, 1, none⟩ = some (.slice a la ca)
theorem OB.step {w w' : World} {B : Nat} {n : Int} {a : Option Addr} {la ca : Nat} (h : OB w B n a la ca) (hb : Below w.heap.size w w') : OB w' B n a la ca := ⟨cell_step hb h.1, cell_step hb h.2⟩
theorem OB.new (w : World) (n : Int) (a : Option Addr) (la ca : Nat) : OB (w.alloc (.cells #[.int .i64 n, .slice a la ca] 24)) w.heap.size n a la ca := ⟨by simp, by simp⟩
/-- Two orders boxed. -/
def two (w : World) (A B : OA) : World := (w.alloc (.cells #[.int .i64 A.n, .slice A.a A.la A.ca] 24)).alloc (.cells #[.int .i64 B.n, .slice B.a B.la B.ca] 24)
theorem two_below (w : World) (A B : OA) : Below w.heap.size w (two w A B) := ((Below.refl _ _).alloc (Nat.le_refl _) _).alloc (by simp) _
theorem two_a (w : World) (A B : OA) : OB (two w A B) w.heap.size A.n A.a A.la A.ca := (OB.new w _ _ _ _).step ((Below.refl _ _).alloc (Nat.le_refl _) _)
theorem two_b (w : World) (A B : OA) : OB (two w A B) (w.heap.size + 1) B.n B.a B.la B.ca := by
  have := OB.new (w.alloc (.cells #[.int .i64 A.n, .slice A.a A.la A.ca] 24)) B.n B.a B.la B.ca
  rw [World.size_alloc] at this
  exact this
/-- What is wrong with two orders. -/
def Ck2 (A B : OA) (c : Int) : Prop := (c ≠ 0 ∧ A.Ck c) ∨ (A.Ck 0 ∧ B.Ck c)
theorem Ck2.one {A B : OA} {c d : Int} (h : Ck2 A B c) (h' : Ck2 A B d) : c = d := by
  rcases h with ⟨h0, h⟩ | ⟨h, h1⟩ <;> rcases h' with ⟨h0', h'⟩ | ⟨h', h1'⟩
  · exact Chk.unique h h'
  · exact absurd (Chk.unique h h') h0
  · exact absurd (Chk.unique h' h) h0'
  · exact Chk.unique h1 h1'
set_option maxHeartbeats 1000000 in
theorem checkBoth_any (A B : OA) (w : World) (hA : A.In w) (hB : B.In w) :
    Calls Tryd.prog 30 #[A.v, B.v] w fun e w' => (∃ c, e = .returned (.int .i64 c) ∧ Ck2 A B c) ∧ Below w.heap.size w w' := by
  have HB1 : Hid (Below w.heap.size w (two w A B)) := two_below w A B
  have HA1 : Hid (A.In (two w A B)) := hA.step (two_below w A B)
  have HB2 : Hid (B.In (two w A B)) := hB.step (two_below w A B)
  have xa := two_a w A B
  have xb := two_b w A B
  have eW : Hid (two w A B = (w.alloc (.cells #[.int .i64 A.n, .slice A.a A.la A.ca] 24)).alloc (.cells #[.int .i64 B.n, .slice B.a B.la B.ca] 24)) := rfl
  generalize two w A B = W at *
  obtain ⟨n, a, la, ca, F⟩ := A
  obtain ⟨n', a', la', ca', F'⟩ := B
  simp only [OA.v] at *
  obtain ⟨l0, l1⟩ := xa
  clear hA hB
  go_enter Tryd.func30, Tryd.ntmps30
  go_wp2_with fail
  rw [← eW.out]
  go_wp2_with fail
  refine (check_any n a la ca F _ HA1.out.1 HA1.out.2).mono ?_
  rintro e w1 ⟨⟨c, rfl, hc⟩, hb1⟩
  have HB3 : Hid (Below w.heap.size w w1) := Below.then HB1.out hb1
  have HB4 : Hid (OA.In ⟨n', a', la', ca', F'⟩ w1) := HB2.out.step hb1
  obtain ⟨k0, k1⟩ := xb.step hb1
  clear hb1 HB1 HB2 l0 l1 xb
  by_cases h0 : c = 0
  · subst h0
    have HC : Hid (Chk n la F 0) := hc
    clear hc
    go_wp2_with fail
    refine (check_any n' a' la' ca' F' _ HB4.out.1 HB4.out.2).mono ?_
    rintro e w2 ⟨⟨c, rfl, hc⟩, hb2⟩
    have HB5 : Hid (Below w.heap.size w w2) := Below.then HB3.out hb2
    have HM : Hid (Chk n' la' F' c) := hc
    clear hb2 hc
    go_wp2_with fail
    go_ret
    exact ⟨⟨c, rfl, .inr ⟨HC.out, HM.out⟩⟩, HB5.out⟩
  · have hne : (c != 0) = true := by simpa using h0
    have HM : Hid (Chk n la F c) := hc
    clear hc
    go_wp2_with fail
    go_ret
    exact ⟨⟨c, rfl, .inl ⟨h0, HM.out⟩⟩, HB3.out⟩
/-- Where the first k elements come together. -/
def en (m : Nat → Nat → Nat) : Nat → Nat
  | 0 => 0
  | k + 1 => m (en m k) k
/-- A list as it comes in. -/
structure MA where
  a : Option Addr
  la : Nat
  ca : Nat
  F : Nat → Int
def MA.v (f : MA) : Value := .slice f.a f.la f.ca
def MA.In (f : MA) (w : World) : Prop := f.la ≤ maxLen ∧ Row w f.a f.la f.F
theorem MA.In.step {f : MA} {w w' : World} (h : f.In w) (hb : Below w.heap.size w w') : f.In w' := ⟨h.1, h.2.below hb⟩
def MA.f (f : MA) : Nat → Nat := nat f.F
/-- What is wrong with a map of n to n' elements. -/
def MCk (n n' : Int) (la : Nat) (F : Nat → Int) (c : Int) : Prop :=
  (c = 1 ∧ ¬ (la : Int) = n) ∨ ((la : Int) = n ∧ ((c = 3 ∧ ¬ (∀ k, k < la → 0 ≤ F k ∧ F k < n')) ∨ (c = 0 ∧ ∀ k, k < la → 0 ≤ F k ∧ F k < n')))
theorem MCk.one {n n' : Int} {la : Nat} {F : Nat → Int} {c d : Int} (h : MCk n n' la F c) (h' : MCk n n' la F d) : c = d := by
  rcases h with ⟨rfl, h⟩ | ⟨h1, ⟨rfl, h⟩ | ⟨rfl, h⟩⟩ <;> rcases h' with ⟨rfl, h'⟩ | ⟨h1', ⟨rfl, h'⟩ | ⟨rfl, h'⟩⟩ <;> first | rfl | exact absurd (by assumption) h | exact absurd (by assumption) h'
set_option maxHeartbeats 1000000 in
theorem checkMap_any (f : MA) (n n' : Int) (w : World) (hf : f.In w) :
    Calls Tryd.prog 31 #[f.v, .int .i64 n, .int .i64 n'] w fun e w' => (∃ c, e = .returned (.int .i64 c) ∧ MCk n n' f.la f.F c) ∧ w = w' := by
  obtain ⟨a, la, ca, F⟩ := f
  obtain ⟨hl, hr⟩ := hf
  simp only [MA.v] at *
  have HR : Hid (Row w a la F) := hr
  clear hr
  unfold maxLen at hl
  by_cases hn : (la : Int) = n
  · subst hn
    go_enter Tryd.func31, Tryd.ntmps31
    go_wp2_with fail
    go_loopw [15] (fun i wx => ∃ k : Nat, k ≤ la ∧ i = .int .i64 k ∧ wx = w ∧ Hid (∀ j, j < k → 0 ≤ F j ∧ F j < n')) (fun i _ => la - (intOf i).toNat)
    case atStart => exact ⟨0, Nat.zero_le _, rfl, rfl, fun j hj => absurd hj (Nat.not_lt_zero _)⟩
    case round =>
      obtain ⟨k, hk, rfl, rfl, HK⟩ := hrel
      by_cases hlt : k < la
      · obtain ⟨b, off, rfl, hc⟩ := HR.out k hlt
        obtain ⟨p, hp⟩ : ∃ p, pnt (F k) n' = p := ⟨_, rfl⟩
        rcases p with _ | _
        · have HN : Hid (MCk (la : Int) n' la F 3) := .inr ⟨rfl, .inl ⟨rfl, fun h => by
            have := h k hlt
            simp [pnt] at hp; omega⟩⟩
          go_wp2_with (go_at_call 46; refine (isPoint_as _ _ _ _ hp).mono ?_; rintro e w' ⟨rfl, hww⟩; subst hww)
          go_ret
          exact ⟨⟨_, rfl, HN.out⟩, rfl⟩
        · have HN : Hid (∀ j, j < k + 1 → 0 ≤ F j ∧ F j < n') := fun j hj => by
            by_cases e : j = k
            · subst e; simp [pnt] at hp; exact hp
            · exact HK.out j (by omega)
          go_wp2_with (go_at_call 46; refine (isPoint_as _ _ _ _ hp).mono ?_; rintro e w' ⟨rfl, hww⟩; subst hww)
          go_roundw
          case rel => exact ⟨k + 1, by omega, by go_num, by first | rfl | trivial, HN.out⟩
          case measure => simp [intOf]; omega
      · obtain rfl : k = la := by omega
        have HN : Hid (MCk (k : Int) n' k F 0) := .inr ⟨rfl, .inr ⟨rfl, HK.out⟩⟩
        go_wp2_with fail
        go_ret
        exact ⟨⟨_, rfl, HN.out⟩, rfl⟩
  · have hn' : ((la : Int) != n) = true := by simpa using hn
    have HN : Hid (MCk n n' la F 1) := .inl ⟨rfl, hn⟩
    go_enter Tryd.func31, Tryd.ntmps31
    go_wp2_with fail
    go_ret
    exact ⟨⟨_, rfl, HN.out⟩, rfl⟩
/-- Two orders boxed, and a list. -/
structure GO (A B : OA) (f : MA) (s : Nat) (w : World) : Prop where
  ia : A.In w
  ib : B.In w
  fi : f.In w
  xa : OB w s A.n A.a A.la A.ca
  xb : OB w (s + 1) B.n B.a B.la B.ca
theorem GO.step {A B : OA} {f : MA} {s : Nat} {w w' : World} (h : GO A B f s w) (hb : Below w.heap.size w w') : GO A B f s w' := ⟨h.ia.step hb, h.ib.step hb, h.fi.step hb, h.xa.step hb, h.xb.step hb⟩
theorem GO.new {A B : OA} {f : MA} {w : World} (hA : A.In w) (hB : B.In w) (hf : f.In w) : GO A B f w.heap.size (two w A B) := ⟨hA.step (two_below w A B), hB.step (two_below w A B), hf.step (two_below w A B), two_a w A B, two_b w A B⟩
def MoCk (A B : OA) (f : MA) (c : Int) : Prop := (c ≠ 0 ∧ Ck2 A B c) ∨ (Ck2 A B 0 ∧ MCk A.n B.n f.la f.F c)
theorem MoCk.one {A B : OA} {f : MA} {c d : Int} (h : MoCk A B f c) (h' : MoCk A B f d) : c = d := by
  rcases h with ⟨h0, h⟩ | ⟨h, h1⟩ <;> rcases h' with ⟨h0', h'⟩ | ⟨h', h1'⟩
  · exact h.one h'
  · exact absurd (h.one h') h0
  · exact absurd (h'.one h) h0'
  · exact MCk.one h1 h1'
def MonL (A B : OA) (f : MA) : Prop := MonP (upB A.g) (upB B.g) f.f A.q
def MoPost (A B : OA) (f : MA) (e : Ending) : Prop := ∃ c v, MoCk A B f c ∧ e = .returned (.tuple #[.bool v, .int .i64 c]) ∧ ((c ≠ 0 ∧ v = false) ∨ (c = 0 ∧ (v = true ↔ MonL A B f)))
/-- What is known of an order in which nothing is wrong. -/
theorem OA.open {A : OA} (h : A.Ck 0) : A.n = (A.q : Nat) ∧ A.la = A.q ∧ A.q ≤ 10 ∧ (∀ k, k < A.q → A.g k < 1024) ∧ ∀ w, A.In w → Row w A.a A.q (fun k => (A.g k : Nat)) := by
  obtain ⟨n, a, la, ca, F⟩ := A
  obtain ⟨en, h10, hrg, hord⟩ := Chk.good h
  have en' : n = (la : Nat) := en
  subst en'
  refine ⟨rfl, rfl, h10, fun k hk => Nat.lt_of_lt_of_le (hrg.small k hk) (pw_le la h10), fun w hw => hrg.row hw.2⟩
theorem MA.open {f : MA} {n n' : Nat} (h : MCk (n : Nat) (n' : Nat) f.la f.F 0) : f.la = n ∧ (∀ k, k < n → f.f k < n') ∧ ∀ w, f.In w → Row w f.a n (fun k => (f.f k : Nat)) := by
  have h2 : f.la = n ∧ ∀ k, k < f.la → 0 ≤ f.F k ∧ f.F k < (n' : Int) := by
    rcases h with ⟨h, _⟩ | ⟨h1, ⟨h, _⟩ | ⟨_, h⟩⟩
    · omega
    · omega
    · exact ⟨by omega, h⟩
  obtain ⟨e, h3⟩ := h2
  subst e
  refine ⟨rfl, fun k hk => by have := h3 k hk; unfold MA.f nat; omega, fun w hw k hk => ?_⟩
  obtain ⟨b, o, e1, e2⟩ := hw.2 k hk
  refine ⟨b, o, e1, ?_⟩
  rw [e2]
  have := h3 k hk
  exact congrArg (fun z => some (Value.int .i64 z)) (show f.F k = ((f.f k : Nat) : Int) by unfold MA.f nat; omega)
theorem inOrder_box (n : Int) (a : Option Addr) (la ca : Nat) (w : World) :
    Calls Tryd.prog 33 #[.agg #[.int .i64 n, .slice a la ca]] w fun e w' => e = .returned (.func (.func 47) #[] #[.pointer (some ⟨w.heap.size, 0, none⟩)]) ∧ OB w' w.heap.size n a la ca ∧ Below w.heap.size w w' :=
  (inOrder_any n a la ca w).mono fun e w' h => ⟨h.1, by rw [h.2]; exact OB.new _ _ _ _ _, by rw [h.2]; exact (Below.refl _ _).alloc (Nat.le_refl _) _⟩
set_option maxHeartbeats 8000000 in
theorem monotone_any (A B : OA) (f : MA) (w : World) (hA : A.In w) (hB : B.In w) (hf : f.In w) :
    Calls Tryd.prog 11 #[A.v, B.v, f.v] w fun e w' => MoPost A B f e ∧ Below w.heap.size w w' := by
  have HB1 : Hid (Below w.heap.size w (two w A B)) := two_below w A B
  have hG := GO.new hA hB hf
  have eW : Hid (two w A B = (w.alloc (.cells #[.int .i64 A.n, .slice A.a A.la A.ca] 24)).alloc (.cells #[.int .i64 B.n, .slice B.a B.la B.ca] 24)) := rfl
  generalize two w A B = W at *
  obtain ⟨X, hX⟩ : ∃ X, X = A := ⟨_, rfl⟩
  obtain ⟨Y, hY⟩ : ∃ Y, Y = B := ⟨_, rfl⟩
  obtain ⟨Z, hZ⟩ : ∃ Z, Z = f := ⟨_, rfl⟩
  have HG : Hid (GO X Y Z w.heap.size W) := by rw [hX, hY, hZ]; exact hG
  have HCB : Hid (∀ wx, GO X Y Z w.heap.size wx → Calls Tryd.prog 30 #[A.v, B.v] wx fun e w' => (∃ c, e = .returned (.int .i64 c) ∧ Ck2 X Y c) ∧ Below wx.heap.size wx w') := fun wx h => by
    rw [hX, hY, hZ] at h
    rw [hX, hY]
    exact checkBoth_any A B wx h.ia h.ib
  have HCM : Hid (∀ wx, GO X Y Z w.heap.size wx → Calls Tryd.prog 31 #[f.v, .int .i64 A.n, .int .i64 B.n] wx fun e w' => (∃ c, e = .returned (.int .i64 c) ∧ MCk X.n Y.n Z.la Z.F c) ∧ wx = w') := fun wx h => by
    rw [hX, hY, hZ] at h
    rw [hX, hY, hZ]
    exact checkMap_any f A.n B.n wx h.fi
  have HE : Hid (X = A ∧ Y = B ∧ Z = f) := ⟨hX, hY, hZ⟩
  have HX : Hid (∀ wx, GO X Y Z w.heap.size wx → OB wx w.heap.size A.n A.a A.la A.ca ∧ OB wx (w.heap.size + 1) B.n B.a B.la B.ca) := fun wx h => by
    rw [hX, hY, hZ] at h
    exact ⟨h.xa, h.xb⟩
  rw [← hX, ← hY, ← hZ]
  rw [show X.v = A.v by rw [hX], show Y.v = B.v by rw [hY], show Z.v = f.v by rw [hZ]]
  clear hX hY hZ hA hB hf hG
  obtain ⟨n0, a, la, ca, F⟩ := A
  obtain ⟨n1, a', la', ca', F'⟩ := B
  obtain ⟨fa, fl, fc, FF⟩ := f
  simp only [OA.v, MA.v] at *
  obtain ⟨⟨l0, l1⟩, k0, k1⟩ := HX.out _ HG.out
  go_enter Tryd.func11, Tryd.ntmps11
  go_wp2_with fail
  rw [← eW.out]
  go_wp2_with fail
  clear eW
  refine (HCB.out _ HG.out).mono ?_
  rintro e w1 ⟨⟨c, rfl, hc⟩, hb1⟩
  have HB2 : Hid (Below w.heap.size w w1) := Below.then HB1.out hb1
  have HG1 : Hid (GO X Y Z w.heap.size w1) := HG.out.step hb1
  clear hb1 HG HB1 HCB l0 l1 k0 k1
  by_cases h0 : c = 0
  · subst h0
    have HC : Hid (Ck2 X Y 0) := hc
    clear hc
    obtain ⟨⟨l0, l1⟩, k0, k1⟩ := HX.out _ HG1.out
    go_wp2_with fail
    refine (HCM.out _ HG1.out).mono ?_
    rintro e w2 ⟨⟨c, rfl, hc⟩, hw2⟩
    have hw2' := hw2.symm
    subst hw2'
    clear hw2
    by_cases h0 : c = 0
    · subst h0
      have HM : Hid (MCk X.n Y.n Z.la Z.F 0) := hc
      have hck : X.Ck 0 ∧ Y.Ck 0 := by
        rcases HC.out with ⟨h, _⟩ | h
        · exact absurd rfl h
        · exact h
      obtain ⟨en, el, h10, hg, hr1⟩ := OA.open hck.1
      obtain ⟨en', el', h10', hg', hr2⟩ := OA.open hck.2
      have hmm := HM.out
      rw [en, en'] at hmm
      obtain ⟨ef, hff, hr⟩ := MA.open hmm
      obtain ⟨q, HQ⟩ : ∃ q, Hid (q = X.q) := ⟨_, rfl⟩
      obtain ⟨q', HQ'⟩ : ∃ q', Hid (q' = Y.q) := ⟨_, rfl⟩
      obtain ⟨g, HGE⟩ : ∃ g, Hid (g = X.g) := ⟨_, rfl⟩
      obtain ⟨g', HGE'⟩ : ∃ g', Hid (g' = Y.g) := ⟨_, rfl⟩
      obtain ⟨f, HFE⟩ : ∃ f, Hid (f = Z.f) := ⟨_, rfl⟩
      rw [← HQ.out] at en el h10 hg hr1 ef hff hr
      rw [← HQ'.out] at en' el' h10' hg' hr2 hff
      rw [← HGE.out] at hg hr1
      rw [← HGE'.out] at hg' hr2
      rw [← HFE.out] at hff hr
      have HGG : Hid (∀ k, k < q → g k < 1024) := hg
      have HGG' : Hid (∀ k, k < q' → g' k < 1024) := hg'
      have HFF : Hid (∀ x, x < q → f x < q') := hff
      have HR1 : Hid (∀ wx, Below w2.heap.size w2 wx → Row wx a q (fun k => (g k : Nat))) := fun wx hx => by
        have := hr1 _ (HG1.out.ia.step hx)
        rw [HE.out.1] at this
        exact this
      have HR2 : Hid (∀ wx, Below w2.heap.size w2 wx → Row wx a' q' (fun k => (g' k : Nat))) := fun wx hx => by
        have := hr2 _ (HG1.out.ib.step hx)
        rw [HE.out.2.1] at this
        exact this
      have HR : Hid (∀ wx, Below w2.heap.size w2 wx → Row wx fa q (fun k => (f k : Nat))) := fun wx hx => by
        have := hr _ (HG1.out.fi.step hx)
        rw [HE.out.2.2] at this
        exact this
      have HO : Hid (MoCk X Y Z 0) := .inr ⟨HC.out, HM.out⟩
      have HML : Hid (MonP (upB g) (upB g') f q ↔ MonL X Y Z) := by
        rw [HQ.out, HGE.out, HGE'.out, HFE.out]; exact Iff.rfl
      rw [HE.out.1] at en el
      rw [HE.out.2.1] at en' el'
      rw [HE.out.2.2] at ef
      have e1 : n0 = (q : Nat) := en
      have e2 : q = la := el.symm
      have e3 : n1 = (q' : Nat) := en'
      have e4 : q' = la' := el'.symm
      have e5 : q = fl := ef.symm
      subst e1
      subst e2
      subst e3
      subst e4
      subst e5
      have a0 : ∀ w', Below w2.heap.size w2 w' → w'.cell? ⟨w.heap.size, 0, none⟩ = some (.int .i64 (q : Nat)) := fun w' h => cell_step h l0
      have a1 : ∀ w', Below w2.heap.size w2 w' → w'.cell? ⟨w.heap.size, 1, none⟩ = some (.slice a q ca) := fun w' h => cell_step h l1
      have b0 : ∀ w', Below w2.heap.size w2 w' → w'.cell? ⟨w.heap.size + 1, 0, none⟩ = some (.int .i64 (q' : Nat)) := fun w' h => cell_step h k0
      have b1 : ∀ w', Below w2.heap.size w2 w' → w'.cell? ⟨w.heap.size + 1, 1, none⟩ = some (.slice a' q' ca') := fun w' h => cell_step h k1
      have KK : Below w2.heap.size w2 w2.drew := (Below.refl _ _).drew
      clear hc hck hmm en el hg hr1 en' el' hg' hr2 ef hff hr HX HCM HE HG1 HC HM HQ HQ' HGE HGE' HFE
      go_wp2_with fail
      refine wp_region_held_drew (S := (fun w' => Below w2.heap.size w2 w')) (by kernel_rfl) (KK) (fun hHeld => ?_)
      refine wpAnyH_take (i := 0) (oi := { dst := some 25, op := Go.Op.move (Go.Operand.tmp 2), type := 22, pos := "fix.go:20", after := #[], guard := none }) (v := ?_) rfl (by kernel_rfl) (by kernel_rfl) (by kernel_rfl) (fun _ _ _ h => h) (Or.inl ⟨by rfl, ?hy⟩) (by assumption) ?_
      case hy => (intro w9 hSw; (try dsimp only at hSw); go_simp; try with_reducible rfl)
      try simp only [Act.put, List.setIfInBounds_toArray, List.set_cons_zero, List.set_cons_succ]
      refine wpAnyH_take (i := 1) (oi := { dst := some 26, op := Go.Op.load 24 (Go.Operand.tmp 3), type := 24, pos := "fix.go:20", after := #[], guard := none }) (v := ?_) rfl (by kernel_rfl) (by kernel_rfl) (by kernel_rfl) (fun _ _ _ h => h) (Or.inl ⟨by rfl, ?hy⟩) (by assumption) ?_
      case hy => (intro w9 hSw; (try dsimp only at hSw); go_simp; try with_reducible rfl)
      try simp only [Act.put, List.setIfInBounds_toArray, List.set_cons_zero, List.set_cons_succ]
      refine wpAnyH_take (i := 3) (oi := { dst := some 28, op := Go.Op.load 24 (Go.Operand.tmp 4), type := 24, pos := "fix.go:20", after := #[], guard := none }) (v := ?_) rfl (by kernel_rfl) (by kernel_rfl) (by kernel_rfl) (fun _ _ _ h => h) (Or.inl ⟨by rfl, ?hy⟩) (by assumption) ?_
      case hy => (intro w9 hSw; (try dsimp only at hSw); go_simp; try with_reducible rfl)
      try simp only [Act.put, List.setIfInBounds_toArray, List.set_cons_zero, List.set_cons_succ]
      refine wpAnyH_ready (rs := [2]) (by kernel_rfl) (by simp) ?_
      refine AllReadyH.cons (o := { dst := some 27, op := Go.Op.call { callee := Go.Callee.value (Go.Operand.func 33), args := #[Go.Operand.tmp 26], argTypes := #[24] }, type := 51, pos := "fix.go:20", after := #[{ on := 1, ground := Go.Ground.data }], guard := none }) rfl (fun K hK => ?_) AllReadyH.nil
      go_simp
      refine (inOrder_box (q : Nat) a q ca _).mono ?_
      rintro e w5 ⟨rfl, HL5, hb5⟩
      refine hK.out _ _ ?_ (fun hHeld => ?_)
      · first | assumption | exact Below.then (by assumption) (by assumption)
      clear hK K
      try simp only [Act.put, List.setIfInBounds_toArray, List.set_cons_zero, List.set_cons_succ]
      refine wpAnyH_ready (rs := [4]) (by kernel_rfl) (by simp) ?_
      refine AllReadyH.cons (o := { dst := some 29, op := Go.Op.call { callee := Go.Callee.value (Go.Operand.func 33), args := #[Go.Operand.tmp 28], argTypes := #[24] }, type := 51, pos := "fix.go:20", after := #[{ on := 3, ground := Go.Ground.data }, { on := 2, ground := Go.Ground.chain }], guard := none }) rfl (fun K hK => ?_) AllReadyH.nil
      go_simp
      refine (inOrder_box (q' : Nat) a' q' ca' _).mono ?_
      rintro e w6 ⟨rfl, HL6, hb6⟩
      have hW6 : Below w2.heap.size w2 w6 := Below.then (by assumption) hb6
      refine hK.out _ _ ?_ (fun hHeld => ?_)
      · first | assumption | exact Below.then (by assumption) (by assumption)
      clear hK K
      try simp only [Act.put, List.setIfInBounds_toArray, List.set_cons_zero, List.set_cons_succ]
      refine wpAnyH_ready (rs := [5]) (by kernel_rfl) (by simp) ?_
      refine AllReadyH.cons (o := { dst := some 30, op := Go.Op.call { callee := Go.Callee.value (Go.Operand.func 32), args := #[Go.Operand.tmp 25, Go.Operand.tmp 27, Go.Operand.tmp 29], argTypes := #[22, 51, 51] }, type := 4, pos := "fix.go:20", after := #[{ on := 0, ground := Go.Ground.data }, { on := 2, ground := Go.Ground.data }, { on := 4, ground := Go.Ground.data }, { on := 4, ground := Go.Ground.chain }], guard := none }) rfl (fun K hK => ?_) AllReadyH.nil
      go_simp
      refine (isMonotone_any q q q' 47 47 _ _ (upB g) (upB g') fa fc f w6 (by omega) (Nat.le_refl _) ent_inOrder1 ent_inOrder1 (inOrder1_any q _ a ca g w6 h10 HGG.out (HL5.step hb6).1 (HL5.step hb6).2 (HR1.out _ hW6)) (inOrder1_any q' _ a' ca' g' w6 h10' HGG'.out HL6.1 HL6.2 (HR2.out _ hW6)) HFF.out (HR.out _ hW6)).mono ?_
      rintro e w7 ⟨⟨vm, rfl, hvm⟩, hb7⟩
      refine hK.out _ _ ?_ (fun hHeld => ?_)
      · first | assumption | exact Below.then (by assumption) (by assumption)
      clear hK K
      try simp only [Act.put, List.setIfInBounds_toArray, List.set_cons_zero, List.set_cons_succ]
      refine wpAnyH_take (i := 6) (oi := { dst := some 6, op := Go.Op.assign (Go.Operand.tmp 30), type := 4, pos := "fix.go:20", after := #[{ on := 5, ground := Go.Ground.data }, { on := 5, ground := Go.Ground.chain }, { on := 0, ground := Go.Ground.phase }, { on := 1, ground := Go.Ground.phase }, { on := 2, ground := Go.Ground.phase }, { on := 3, ground := Go.Ground.phase }, { on := 4, ground := Go.Ground.phase }, { on := 5, ground := Go.Ground.phase }], guard := none }) (v := ?_) rfl (by kernel_rfl) (by kernel_rfl) (by kernel_rfl) (fun _ _ _ h => h) (Or.inl ⟨by rfl, ?hy⟩) (by assumption) ?_
      case hy => (intro w9 hSw; (try dsimp only at hSw); go_simp; try with_reducible rfl)
      try simp only [Act.put, List.setIfInBounds_toArray, List.set_cons_zero, List.set_cons_succ]
      refine wpAnyH_take (i := 7) (oi := { dst := some 7, op := Go.Op.assign (Go.Operand.const (Go.Value.int Go.IntKind.i64 0)), type := 26, pos := "fix.go:20", after := #[{ on := 6, ground := Go.Ground.chain }, { on := 0, ground := Go.Ground.phase }, { on := 1, ground := Go.Ground.phase }, { on := 2, ground := Go.Ground.phase }, { on := 3, ground := Go.Ground.phase }, { on := 4, ground := Go.Ground.phase }, { on := 5, ground := Go.Ground.phase }, { on := 6, ground := Go.Ground.phase }], guard := none }) (v := ?_) rfl (by kernel_rfl) (by kernel_rfl) (by kernel_rfl) (fun _ _ _ h => h) (Or.inl ⟨by rfl, ?hy⟩) (by assumption) ?_
      case hy => (intro w9 hSw; (try dsimp only at hSw); go_simp; try with_reducible rfl)
      try simp only [Act.put, List.setIfInBounds_toArray, List.set_cons_zero, List.set_cons_succ]
      refine wpAnyH_done (by kernel_rfl) ?_ _
      try simp only [Act.put, List.setIfInBounds_toArray, List.set_cons_zero, List.set_cons_succ]
      have HBV : Hid (Below w2.heap.size w2 w7) := by first | assumption | exact hHeld
      have HVM : Hid (vm = true ↔ MonL X Y Z) := hvm.trans HML.out
      clear HL5 HL6 hb5 hb6 hb7 hW6 a0 a1 b0 b1 KK hHeld hvm
      go_wp2_with fail
      go_ret2
      exact ⟨⟨0, vm, HO.out, rfl, .inr ⟨rfl, HVM.out⟩⟩, Below.then HB2.out HBV.out⟩
    · have hne : (c != 0) = true := by simpa using h0
      have HO : Hid (MoCk X Y Z c) := .inr ⟨HC.out, hc⟩
      clear hc
      go_wp2_with fail
      go_ret2
      exact ⟨⟨c, false, HO.out, rfl, .inl ⟨h0, rfl⟩⟩, HB2.out⟩
  · have hne : (c != 0) = true := by simpa using h0
    have HO : Hid (MoCk X Y Z c) := .inl ⟨h0, hc⟩
    clear hc
    go_wp2_with fail
    go_ret2
    exact ⟨⟨c, false, HO.out, rfl, .inl ⟨h0, rfl⟩⟩, HB2.out⟩
/-- A slice of two orders at the head of block b. -/
def Two (w : World) (b : Nat) (n1 : Int) (a1 : Option Addr) (len1 cap1 : Nat) (n2 : Int) (a2 : Option Addr) (len2 cap2 : Nat) : Prop :=
  w.cell? ⟨b, 0, none⟩ = some (.int .i64 n1) ∧ w.cell? ⟨b, 1, none⟩ = some (.slice a1 len1 cap1) ∧ w.cell? ⟨b, 2, none⟩ = some (.int .i64 n2) ∧ w.cell? ⟨b, 3, none⟩ = some (.slice a2 len2 cap2)
theorem Two.step {w w' : World} {b : Nat} {n1 : Int} {a1 : Option Addr} {len1 cap1 : Nat} {n2 : Int} {a2 : Option Addr} {len2 cap2 : Nat} (h : Two w b n1 a1 len1 cap1 n2 a2 len2 cap2) (hb : Below w.heap.size w w') : Two w' b n1 a1 len1 cap1 n2 a2 len2 cap2 := by
  obtain ⟨h1, h2, h3, h4⟩ := h
  exact ⟨(hb.cell (World.block_lt_of_cell? _ _ h1)).trans h1, (hb.cell (World.block_lt_of_cell? _ _ h2)).trans h2, (hb.cell (World.block_lt_of_cell? _ _ h3)).trans h3, (hb.cell (World.block_lt_of_cell? _ _ h4)).trans h4⟩
end Go.Proofs.YtggngpnenbjidabDoor
