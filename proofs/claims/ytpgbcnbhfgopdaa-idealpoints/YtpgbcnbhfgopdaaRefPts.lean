/-
  What the reference's LatticePoints answers. Conditions: tables of at most forty elements; ten points at most.
-/
import Derived.Deep.RegionHeld3
import Derived.Test.YtpgbcnbhfgopdaaRefIrr
import Derived.Test.YtpgbcnbhfgopdaaPointsP
import Derived.Test.YtpgbcnbhfgopdaaOfAny
namespace Go.Proofs.Ytpgbcnbhfgopdaa
open Go.RowKit

theorem ent_lpt : Ent 46 := fun _ _ => rfl
set_option maxHeartbeats 2000000 in
theorem lpt1_any (n B b1 o1 ca : Nat) (b2 : Option Addr) (lb cb : Nat) (R1 : Nat → Nat × Nat × Nat) (m : Nat → Nat → Nat) (C : Nat) (P : List Nat) (q : Nat) (pa : Option Addr) (pc : Nat) (w : World) (hL : LB w B (n : Int) (some ⟨b1, o1, none⟩) n ca b2 lb cb) (ht : Tb w b1 o1 n R1 m)
    (hC : w.cell? ⟨C, 0, none⟩ = some (.slice pa q pc)) (hr : Row w pa q (fun k => (nth P k : Nat))) (hP : ∀ k, k < q → nth P k < n) :
    ∀ (x y : Nat) (W : World), x < q → y < q → Below w.heap.size w W → Calls Try.prog 46 (#[.int .i64 (x : Nat), .int .i64 (y : Nat)] ++ #[.pointer (some ⟨B, 0, none⟩), .pointer (some ⟨C, 0, none⟩)]) W fun e w' => e = .returned (.bool (!(x == y) && leB m (nth P x) (nth P y))) ∧ Below W.heap.size W w' := fun x y W hx hy hW => by
  show Calls Try.prog 46 #[.int .i64 (x : Nat), .int .i64 (y : Nat), .pointer (some ⟨B, 0, none⟩), .pointer (some ⟨C, 0, none⟩)] W _
  have L1 := hL.step hW
  obtain ⟨rb, ro, rfl, hcx⟩ := hr.below hW x hx
  have hcy : W.cell? ⟨rb, ro + y, none⟩ = some (.int .i64 (nth P y : Nat)) := by
    obtain ⟨rb', ro', e, h⟩ := hr.below hW y hy
    cases e; exact h
  have hcC := cell_step hW hC
  have LT : Hid (∀ w', Below W.heap.size W w' → Tb w' b1 o1 n R1 m) := fun w' h => (ht.step hW).step h
  have l0 : ∀ w', Below W.heap.size W w' → w'.cell? ⟨B, 0, none⟩ = some (.int .i64 (n : Int)) := fun w' h => (L1.step h).1
  have l1 : ∀ w', Below W.heap.size W w' → w'.cell? ⟨B, 1, none⟩ = some (.slice (some ⟨b1, o1, none⟩) n ca) := fun w' h => (L1.step h).2.1
  have l2 : ∀ w', Below W.heap.size W w' → w'.cell? ⟨B, 2, none⟩ = some (.slice b2 lb cb) := fun w' h => (L1.step h).2.2
  have l3 : ∀ w', Below W.heap.size W w' → w'.cell? ⟨C, 0, none⟩ = some (.slice (some ⟨rb, ro, none⟩) q pc) := fun w' h => cell_step h hcC
  have l4 : ∀ w', Below W.heap.size W w' → w'.cell? ⟨rb, ro + x, none⟩ = some (.int .i64 (nth P x : Nat)) := fun w' h => cell_step h hcx
  have l5 : ∀ w', Below W.heap.size W w' → w'.cell? ⟨rb, ro + y, none⟩ = some (.int .i64 (nth P y : Nat)) := fun w' h => cell_step h hcy
  have hpx := hP x hx
  have hpy := hP y hy
  have ix : (x : Int) < (q : Int) := by omega
  have iy : (y : Int) < (q : Int) := by omega
  have KK : Below W.heap.size W W.drew := (Below.refl _ _).drew
  clear L1 hL ht hW hC hr hP hcx hcy hcC
  by_cases e : x = y
  · have hq : ((x : Int) != (y : Int)) = false := by simp; omega
    have HR : Hid ((!(x == y) && leB m (nth P x) (nth P y)) = false) := by rw [Hid]; simp [e]
    rw [HR.out]
    have HKK : Hid (Below W.heap.size W W.drew) := KK
    clear e HR
    go_enter Try.func46, Try.ntmps46
    go_wp2_with fail
    refine wp_region_held_drew (S := (fun w' => Below W.heap.size W w')) (by kernel_rfl) (KK) (fun hHeld => ?_)
    refine wpAnyH_take (i := 0) (oi := { dst := some 7, op := Go.Op.move (Go.Operand.tmp 0), type := 3, pos := "lattice.go:520", after := #[], guard := none }) (v := ?_) rfl (by kernel_rfl) (by kernel_rfl) (by kernel_rfl) (fun _ _ _ h => h) (Or.inl ⟨by rfl, ?hy⟩) (by assumption) ?_
    case hy => (intro w9 hSw; (try dsimp only at hSw); go_simp; try with_reducible rfl)
    try simp only [Act.put, List.setIfInBounds_toArray, List.set_cons_zero, List.set_cons_succ]
    refine wpAnyH_take (i := 1) (oi := { dst := some 8, op := Go.Op.move (Go.Operand.tmp 1), type := 3, pos := "lattice.go:520", after := #[], guard := none }) (v := ?_) rfl (by kernel_rfl) (by kernel_rfl) (by kernel_rfl) (fun _ _ _ h => h) (Or.inl ⟨by rfl, ?hy⟩) (by assumption) ?_
    case hy => (intro w9 hSw; (try dsimp only at hSw); go_simp; try with_reducible rfl)
    try simp only [Act.put, List.setIfInBounds_toArray, List.set_cons_zero, List.set_cons_succ]
    refine wpAnyH_take (i := 2) (oi := { dst := some 9, op := Go.Op.binOp Go.BinOp.neq 3 (Go.Operand.tmp 7) (Go.Operand.tmp 8) 3, type := 4, pos := "lattice.go:520", after := #[{ on := 0, ground := Go.Ground.data }, { on := 1, ground := Go.Ground.data }], guard := none }) (v := ?_) rfl (by kernel_rfl) (by kernel_rfl) (by kernel_rfl) (fun _ _ _ h => h) (Or.inl ⟨by rfl, ?hy⟩) (by assumption) ?_
    case hy => (intro w9 hSw; (try dsimp only at hSw); go_simp; try with_reducible rfl)
    try simp only [Act.put, List.setIfInBounds_toArray, List.set_cons_zero, List.set_cons_succ]
    refine wpAnyH_take (i := 3) (oi := { dst := some 10, op := Go.Op.move (Go.Operand.tmp 9), type := 4, pos := "lattice.go:520", after := #[{ on := 2, ground := Go.Ground.data }], guard := none }) (v := ?_) rfl (by kernel_rfl) (by kernel_rfl) (by kernel_rfl) (fun _ _ _ h => h) (Or.inl ⟨by rfl, ?hy⟩) (by assumption) ?_
    case hy => (intro w9 hSw; (try dsimp only at hSw); go_simp; try with_reducible rfl)
    try simp only [Act.put, List.setIfInBounds_toArray, List.set_cons_zero, List.set_cons_succ]
    refine wpAnyH_take (i := 4) (oi := { dst := some 11, op := Go.Op.load 27 (Go.Operand.tmp 2), type := 27, pos := "lattice.go:520", after := #[{ on := 3, ground := Go.Ground.guard }], guard := some (3, true) }) (v := undef) rfl (by kernel_rfl) (by kernel_rfl) (by kernel_rfl) (fun _ _ _ h => h) (Or.inr ⟨by rfl, rfl⟩) (by assumption) ?_
    try simp only [Act.put, List.setIfInBounds_toArray, List.set_cons_zero, List.set_cons_succ]
    refine wpAnyH_take (i := 5) (oi := { dst := some 12, op := Go.Op.load 22 (Go.Operand.tmp 3), type := 22, pos := "lattice.go:520", after := #[{ on := 3, ground := Go.Ground.guard }], guard := some (3, true) }) (v := undef) rfl (by kernel_rfl) (by kernel_rfl) (by kernel_rfl) (fun _ _ _ h => h) (Or.inr ⟨by rfl, rfl⟩) (by assumption) ?_
    try simp only [Act.put, List.setIfInBounds_toArray, List.set_cons_zero, List.set_cons_succ]
    refine wpAnyH_take (i := 6) (oi := { dst := some 13, op := Go.Op.move (Go.Operand.tmp 0), type := 3, pos := "lattice.go:520", after := #[{ on := 3, ground := Go.Ground.guard }], guard := some (3, true) }) (v := undef) rfl (by kernel_rfl) (by kernel_rfl) (by kernel_rfl) (fun _ _ _ h => h) (Or.inr ⟨by rfl, rfl⟩) (by assumption) ?_
    try simp only [Act.put, List.setIfInBounds_toArray, List.set_cons_zero, List.set_cons_succ]
    refine wpAnyH_take (i := 7) (oi := { dst := some 14, op := Go.Op.indexAddr 22 (Go.Operand.tmp 12) (Go.Operand.tmp 13), type := 0, pos := "lattice.go:520", after := #[{ on := 5, ground := Go.Ground.data }, { on := 6, ground := Go.Ground.data }, { on := 3, ground := Go.Ground.guard }], guard := some (3, true) }) (v := undef) rfl (by kernel_rfl) (by kernel_rfl) (by kernel_rfl) (fun _ _ _ h => h) (Or.inr ⟨by rfl, rfl⟩) (by assumption) ?_
    try simp only [Act.put, List.setIfInBounds_toArray, List.set_cons_zero, List.set_cons_succ]
    refine wpAnyH_take (i := 8) (oi := { dst := some 15, op := Go.Op.load 3 (Go.Operand.tmp 14), type := 3, pos := "lattice.go:520", after := #[{ on := 7, ground := Go.Ground.data }, { on := 3, ground := Go.Ground.guard }], guard := some (3, true) }) (v := undef) rfl (by kernel_rfl) (by kernel_rfl) (by kernel_rfl) (fun _ _ _ h => h) (Or.inr ⟨by rfl, rfl⟩) (by assumption) ?_
    try simp only [Act.put, List.setIfInBounds_toArray, List.set_cons_zero, List.set_cons_succ]
    refine wpAnyH_take (i := 9) (oi := { dst := some 16, op := Go.Op.load 22 (Go.Operand.tmp 3), type := 22, pos := "lattice.go:520", after := #[{ on := 3, ground := Go.Ground.guard }], guard := some (3, true) }) (v := undef) rfl (by kernel_rfl) (by kernel_rfl) (by kernel_rfl) (fun _ _ _ h => h) (Or.inr ⟨by rfl, rfl⟩) (by assumption) ?_
    try simp only [Act.put, List.setIfInBounds_toArray, List.set_cons_zero, List.set_cons_succ]
    refine wpAnyH_take (i := 10) (oi := { dst := some 17, op := Go.Op.move (Go.Operand.tmp 1), type := 3, pos := "lattice.go:520", after := #[{ on := 3, ground := Go.Ground.guard }], guard := some (3, true) }) (v := undef) rfl (by kernel_rfl) (by kernel_rfl) (by kernel_rfl) (fun _ _ _ h => h) (Or.inr ⟨by rfl, rfl⟩) (by assumption) ?_
    try simp only [Act.put, List.setIfInBounds_toArray, List.set_cons_zero, List.set_cons_succ]
    refine wpAnyH_take (i := 11) (oi := { dst := some 18, op := Go.Op.indexAddr 22 (Go.Operand.tmp 16) (Go.Operand.tmp 17), type := 0, pos := "lattice.go:520", after := #[{ on := 9, ground := Go.Ground.data }, { on := 10, ground := Go.Ground.data }, { on := 3, ground := Go.Ground.guard }], guard := some (3, true) }) (v := undef) rfl (by kernel_rfl) (by kernel_rfl) (by kernel_rfl) (fun _ _ _ h => h) (Or.inr ⟨by rfl, rfl⟩) (by assumption) ?_
    try simp only [Act.put, List.setIfInBounds_toArray, List.set_cons_zero, List.set_cons_succ]
    refine wpAnyH_take (i := 12) (oi := { dst := some 19, op := Go.Op.load 3 (Go.Operand.tmp 18), type := 3, pos := "lattice.go:520", after := #[{ on := 11, ground := Go.Ground.data }, { on := 3, ground := Go.Ground.guard }], guard := some (3, true) }) (v := undef) rfl (by kernel_rfl) (by kernel_rfl) (by kernel_rfl) (fun _ _ _ h => h) (Or.inr ⟨by rfl, rfl⟩) (by assumption) ?_
    try simp only [Act.put, List.setIfInBounds_toArray, List.set_cons_zero, List.set_cons_succ]
    refine wpAnyH_take (i := 13) (oi := { dst := some 20, op := Go.Op.call { callee := Go.Callee.value (Go.Operand.func 31), args := #[Go.Operand.tmp 11, Go.Operand.tmp 15, Go.Operand.tmp 19], argTypes := #[27, 3, 3] }, type := 4, pos := "lattice.go:520", after := #[{ on := 4, ground := Go.Ground.data }, { on := 8, ground := Go.Ground.data }, { on := 12, ground := Go.Ground.data }, { on := 3, ground := Go.Ground.chain }, { on := 3, ground := Go.Ground.guard }], guard := some (3, true) }) (v := undef) rfl (by kernel_rfl) (by kernel_rfl) (by kernel_rfl) (fun _ _ _ h => h) (Or.inr ⟨by rfl, rfl⟩) (by assumption) ?_
    try simp only [Act.put, List.setIfInBounds_toArray, List.set_cons_zero, List.set_cons_succ]
    refine wpAnyH_take (i := 14) (oi := { dst := some 21, op := Go.Op.pick (Go.Operand.tmp 10) (Go.Operand.tmp 20) (Go.Operand.const (Go.Value.bool false)), type := 4, pos := "lattice.go:520", after := #[{ on := 3, ground := Go.Ground.data }, { on := 13, ground := Go.Ground.data }], guard := none }) (v := ?_) rfl (by kernel_rfl) (by kernel_rfl) (by kernel_rfl) (fun _ _ _ h => h) (Or.inl ⟨by rfl, ?hy⟩) (by assumption) ?_
    case hy => (intro w9 hSw; (try dsimp only at hSw); go_simp; try with_reducible rfl)
    try simp only [Act.put, List.setIfInBounds_toArray, List.set_cons_zero, List.set_cons_succ]
    refine wpAnyH_take (i := 15) (oi := { dst := some 6, op := Go.Op.assign (Go.Operand.tmp 21), type := 4, pos := "lattice.go:520", after := #[{ on := 14, ground := Go.Ground.data }, { on := 13, ground := Go.Ground.chain }, { on := 0, ground := Go.Ground.phase }, { on := 1, ground := Go.Ground.phase }, { on := 2, ground := Go.Ground.phase }, { on := 3, ground := Go.Ground.phase }, { on := 4, ground := Go.Ground.phase }, { on := 5, ground := Go.Ground.phase }, { on := 6, ground := Go.Ground.phase }, { on := 7, ground := Go.Ground.phase }, { on := 8, ground := Go.Ground.phase }, { on := 9, ground := Go.Ground.phase }, { on := 10, ground := Go.Ground.phase }, { on := 11, ground := Go.Ground.phase }, { on := 12, ground := Go.Ground.phase }, { on := 13, ground := Go.Ground.phase }, { on := 14, ground := Go.Ground.phase }], guard := none }) (v := ?_) rfl (by kernel_rfl) (by kernel_rfl) (by kernel_rfl) (fun _ _ _ h => h) (Or.inl ⟨by rfl, ?hy⟩) (by assumption) ?_
    case hy => (intro w9 hSw; (try dsimp only at hSw); go_simp; try with_reducible rfl)
    try simp only [Act.put, List.setIfInBounds_toArray, List.set_cons_zero, List.set_cons_succ]
    refine wpAnyH_done (by kernel_rfl) ?_ _
    try simp only [Act.put, List.setIfInBounds_toArray, List.set_cons_zero, List.set_cons_succ]
    go_wp2_with fail
    go_ret
    exact ⟨rfl, HKK.out⟩
  · have hq : ((x : Int) != (y : Int)) = true := by simp; omega
    obtain ⟨v, hv⟩ : ∃ v, leB m (nth P x) (nth P y) = v := ⟨_, rfl⟩
    have HR : Hid ((!(x == y) && leB m (nth P x) (nth P y)) = v) := by rw [Hid]; simp [e, hv]
    rw [HR.out]
    clear e HR
    go_enter Try.func46, Try.ntmps46
    go_wp2_with fail
    refine wp_region_held_drew (S := (fun w' => Below W.heap.size W w')) (by kernel_rfl) (KK) (fun hHeld => ?_)
    refine wpAnyH_take (i := 0) (oi := { dst := some 7, op := Go.Op.move (Go.Operand.tmp 0), type := 3, pos := "lattice.go:520", after := #[], guard := none }) (v := ?_) rfl (by kernel_rfl) (by kernel_rfl) (by kernel_rfl) (fun _ _ _ h => h) (Or.inl ⟨by rfl, ?hy⟩) (by assumption) ?_
    case hy => (intro w9 hSw; (try dsimp only at hSw); go_simp; try with_reducible rfl)
    try simp only [Act.put, List.setIfInBounds_toArray, List.set_cons_zero, List.set_cons_succ]
    refine wpAnyH_take (i := 1) (oi := { dst := some 8, op := Go.Op.move (Go.Operand.tmp 1), type := 3, pos := "lattice.go:520", after := #[], guard := none }) (v := ?_) rfl (by kernel_rfl) (by kernel_rfl) (by kernel_rfl) (fun _ _ _ h => h) (Or.inl ⟨by rfl, ?hy⟩) (by assumption) ?_
    case hy => (intro w9 hSw; (try dsimp only at hSw); go_simp; try with_reducible rfl)
    try simp only [Act.put, List.setIfInBounds_toArray, List.set_cons_zero, List.set_cons_succ]
    refine wpAnyH_take (i := 2) (oi := { dst := some 9, op := Go.Op.binOp Go.BinOp.neq 3 (Go.Operand.tmp 7) (Go.Operand.tmp 8) 3, type := 4, pos := "lattice.go:520", after := #[{ on := 0, ground := Go.Ground.data }, { on := 1, ground := Go.Ground.data }], guard := none }) (v := ?_) rfl (by kernel_rfl) (by kernel_rfl) (by kernel_rfl) (fun _ _ _ h => h) (Or.inl ⟨by rfl, ?hy⟩) (by assumption) ?_
    case hy => (intro w9 hSw; (try dsimp only at hSw); go_simp; try with_reducible rfl)
    try simp only [Act.put, List.setIfInBounds_toArray, List.set_cons_zero, List.set_cons_succ]
    refine wpAnyH_take (i := 3) (oi := { dst := some 10, op := Go.Op.move (Go.Operand.tmp 9), type := 4, pos := "lattice.go:520", after := #[{ on := 2, ground := Go.Ground.data }], guard := none }) (v := ?_) rfl (by kernel_rfl) (by kernel_rfl) (by kernel_rfl) (fun _ _ _ h => h) (Or.inl ⟨by rfl, ?hy⟩) (by assumption) ?_
    case hy => (intro w9 hSw; (try dsimp only at hSw); go_simp; try with_reducible rfl)
    try simp only [Act.put, List.setIfInBounds_toArray, List.set_cons_zero, List.set_cons_succ]
    refine wpAnyH_take (i := 4) (oi := { dst := some 11, op := Go.Op.load 27 (Go.Operand.tmp 2), type := 27, pos := "lattice.go:520", after := #[{ on := 3, ground := Go.Ground.guard }], guard := some (3, true) }) (v := ?_) rfl (by kernel_rfl) (by kernel_rfl) (by kernel_rfl) (fun _ _ _ h => h) (Or.inl ⟨by rfl, ?hy⟩) (by assumption) ?_
    case hy => (intro w9 hSw; (try dsimp only at hSw); go_simp; try with_reducible rfl)
    try simp only [Act.put, List.setIfInBounds_toArray, List.set_cons_zero, List.set_cons_succ]
    refine wpAnyH_take (i := 5) (oi := { dst := some 12, op := Go.Op.load 22 (Go.Operand.tmp 3), type := 22, pos := "lattice.go:520", after := #[{ on := 3, ground := Go.Ground.guard }], guard := some (3, true) }) (v := ?_) rfl (by kernel_rfl) (by kernel_rfl) (by kernel_rfl) (fun _ _ _ h => h) (Or.inl ⟨by rfl, ?hy⟩) (by assumption) ?_
    case hy => (intro w9 hSw; (try dsimp only at hSw); go_simp; try with_reducible rfl)
    try simp only [Act.put, List.setIfInBounds_toArray, List.set_cons_zero, List.set_cons_succ]
    refine wpAnyH_take (i := 6) (oi := { dst := some 13, op := Go.Op.move (Go.Operand.tmp 0), type := 3, pos := "lattice.go:520", after := #[{ on := 3, ground := Go.Ground.guard }], guard := some (3, true) }) (v := ?_) rfl (by kernel_rfl) (by kernel_rfl) (by kernel_rfl) (fun _ _ _ h => h) (Or.inl ⟨by rfl, ?hy⟩) (by assumption) ?_
    case hy => (intro w9 hSw; (try dsimp only at hSw); go_simp; try with_reducible rfl)
    try simp only [Act.put, List.setIfInBounds_toArray, List.set_cons_zero, List.set_cons_succ]
    refine wpAnyH_take (i := 7) (oi := { dst := some 14, op := Go.Op.indexAddr 22 (Go.Operand.tmp 12) (Go.Operand.tmp 13), type := 0, pos := "lattice.go:520", after := #[{ on := 5, ground := Go.Ground.data }, { on := 6, ground := Go.Ground.data }, { on := 3, ground := Go.Ground.guard }], guard := some (3, true) }) (v := ?_) rfl (by kernel_rfl) (by kernel_rfl) (by kernel_rfl) (fun _ _ _ h => h) (Or.inl ⟨by rfl, ?hy⟩) (by assumption) ?_
    case hy => (intro w9 hSw; (try dsimp only at hSw); go_simp; try with_reducible rfl)
    try simp only [Act.put, List.setIfInBounds_toArray, List.set_cons_zero, List.set_cons_succ]
    refine wpAnyH_take (i := 8) (oi := { dst := some 15, op := Go.Op.load 3 (Go.Operand.tmp 14), type := 3, pos := "lattice.go:520", after := #[{ on := 7, ground := Go.Ground.data }, { on := 3, ground := Go.Ground.guard }], guard := some (3, true) }) (v := ?_) rfl (by kernel_rfl) (by kernel_rfl) (by kernel_rfl) (fun _ _ _ h => h) (Or.inl ⟨by rfl, ?hy⟩) (by assumption) ?_
    case hy => (intro w9 hSw; (try dsimp only at hSw); go_simp; try with_reducible rfl)
    try simp only [Act.put, List.setIfInBounds_toArray, List.set_cons_zero, List.set_cons_succ]
    refine wpAnyH_take (i := 9) (oi := { dst := some 16, op := Go.Op.load 22 (Go.Operand.tmp 3), type := 22, pos := "lattice.go:520", after := #[{ on := 3, ground := Go.Ground.guard }], guard := some (3, true) }) (v := ?_) rfl (by kernel_rfl) (by kernel_rfl) (by kernel_rfl) (fun _ _ _ h => h) (Or.inl ⟨by rfl, ?hy⟩) (by assumption) ?_
    case hy => (intro w9 hSw; (try dsimp only at hSw); go_simp; try with_reducible rfl)
    try simp only [Act.put, List.setIfInBounds_toArray, List.set_cons_zero, List.set_cons_succ]
    refine wpAnyH_take (i := 10) (oi := { dst := some 17, op := Go.Op.move (Go.Operand.tmp 1), type := 3, pos := "lattice.go:520", after := #[{ on := 3, ground := Go.Ground.guard }], guard := some (3, true) }) (v := ?_) rfl (by kernel_rfl) (by kernel_rfl) (by kernel_rfl) (fun _ _ _ h => h) (Or.inl ⟨by rfl, ?hy⟩) (by assumption) ?_
    case hy => (intro w9 hSw; (try dsimp only at hSw); go_simp; try with_reducible rfl)
    try simp only [Act.put, List.setIfInBounds_toArray, List.set_cons_zero, List.set_cons_succ]
    refine wpAnyH_take (i := 11) (oi := { dst := some 18, op := Go.Op.indexAddr 22 (Go.Operand.tmp 16) (Go.Operand.tmp 17), type := 0, pos := "lattice.go:520", after := #[{ on := 9, ground := Go.Ground.data }, { on := 10, ground := Go.Ground.data }, { on := 3, ground := Go.Ground.guard }], guard := some (3, true) }) (v := ?_) rfl (by kernel_rfl) (by kernel_rfl) (by kernel_rfl) (fun _ _ _ h => h) (Or.inl ⟨by rfl, ?hy⟩) (by assumption) ?_
    case hy => (intro w9 hSw; (try dsimp only at hSw); go_simp; try with_reducible rfl)
    try simp only [Act.put, List.setIfInBounds_toArray, List.set_cons_zero, List.set_cons_succ]
    refine wpAnyH_take (i := 12) (oi := { dst := some 19, op := Go.Op.load 3 (Go.Operand.tmp 18), type := 3, pos := "lattice.go:520", after := #[{ on := 11, ground := Go.Ground.data }, { on := 3, ground := Go.Ground.guard }], guard := some (3, true) }) (v := ?_) rfl (by kernel_rfl) (by kernel_rfl) (by kernel_rfl) (fun _ _ _ h => h) (Or.inl ⟨by rfl, ?hy⟩) (by assumption) ?_
    case hy => (intro w9 hSw; (try dsimp only at hSw); go_simp; try with_reducible rfl)
    try simp only [Act.put, List.setIfInBounds_toArray, List.set_cons_zero, List.set_cons_succ]
    refine wpAnyH_ready (rs := [13]) (by kernel_rfl) (by simp) ?_
    refine AllReadyH.cons (o := { dst := some 20, op := Go.Op.call { callee := Go.Callee.value (Go.Operand.func 31), args := #[Go.Operand.tmp 11, Go.Operand.tmp 15, Go.Operand.tmp 19], argTypes := #[27, 3, 3] }, type := 4, pos := "lattice.go:520", after := #[{ on := 4, ground := Go.Ground.data }, { on := 8, ground := Go.Ground.data }, { on := 12, ground := Go.Ground.data }, { on := 3, ground := Go.Ground.chain }, { on := 3, ground := Go.Ground.guard }], guard := some (3, true) }) rfl (fun K hK => ?_) AllReadyH.nil
    go_simp
    refine (under_any n b1 o1 ca b2 lb cb R1 m (nth P x) (nth P y) _ v hv (LT.out _ (by assumption)) hpx hpy).mono ?_
    rintro e w2 ⟨rfl, hb2⟩
    refine hK.out _ _ ?_ (fun hHeld => ?_)
    · first | assumption | exact Below.then (by assumption) (by assumption)
    clear hK K
    try simp only [Act.put, List.setIfInBounds_toArray, List.set_cons_zero, List.set_cons_succ]
    refine wpAnyH_take (i := 14) (oi := { dst := some 21, op := Go.Op.pick (Go.Operand.tmp 10) (Go.Operand.tmp 20) (Go.Operand.const (Go.Value.bool false)), type := 4, pos := "lattice.go:520", after := #[{ on := 3, ground := Go.Ground.data }, { on := 13, ground := Go.Ground.data }], guard := none }) (v := ?_) rfl (by kernel_rfl) (by kernel_rfl) (by kernel_rfl) (fun _ _ _ h => h) (Or.inl ⟨by rfl, ?hy⟩) (by assumption) ?_
    case hy => (intro w9 hSw; (try dsimp only at hSw); go_simp; try with_reducible rfl)
    try simp only [Act.put, List.setIfInBounds_toArray, List.set_cons_zero, List.set_cons_succ]
    refine wpAnyH_take (i := 15) (oi := { dst := some 6, op := Go.Op.assign (Go.Operand.tmp 21), type := 4, pos := "lattice.go:520", after := #[{ on := 14, ground := Go.Ground.data }, { on := 13, ground := Go.Ground.chain }, { on := 0, ground := Go.Ground.phase }, { on := 1, ground := Go.Ground.phase }, { on := 2, ground := Go.Ground.phase }, { on := 3, ground := Go.Ground.phase }, { on := 4, ground := Go.Ground.phase }, { on := 5, ground := Go.Ground.phase }, { on := 6, ground := Go.Ground.phase }, { on := 7, ground := Go.Ground.phase }, { on := 8, ground := Go.Ground.phase }, { on := 9, ground := Go.Ground.phase }, { on := 10, ground := Go.Ground.phase }, { on := 11, ground := Go.Ground.phase }, { on := 12, ground := Go.Ground.phase }, { on := 13, ground := Go.Ground.phase }, { on := 14, ground := Go.Ground.phase }], guard := none }) (v := ?_) rfl (by kernel_rfl) (by kernel_rfl) (by kernel_rfl) (fun _ _ _ h => h) (Or.inl ⟨by rfl, ?hy⟩) (by assumption) ?_
    case hy => (intro w9 hSw; (try dsimp only at hSw); go_simp; try with_reducible rfl)
    try simp only [Act.put, List.setIfInBounds_toArray, List.set_cons_zero, List.set_cons_succ]
    refine wpAnyH_done (by kernel_rfl) ?_ _
    try simp only [Act.put, List.setIfInBounds_toArray, List.set_cons_zero, List.set_cons_succ]
    have hb8 : Below W.heap.size W w2 := by first | assumption | exact hHeld
    have HB8 : Hid (Below W.heap.size W w2) := hb8
    clear hb8
    go_wp2_with fail
    go_ret
    exact ⟨rfl, HB8.out⟩

set_option maxHeartbeats 2000000 in
theorem latticePoints_any (n b1 o1 ca : Nat) (b2 : Option Addr) (lb cb : Nat) (R1 : Nat → Nat × Nat × Nat) (m : Nat → Nat → Nat) (w : World) (h40 : n ≤ 40) (ht1 : Tb w b1 o1 n R1 m) (P : List Nat) (hP : P = filt (fun x => cntB (fun y => covB m x y n) n == 1) n) (h10 : P.length ≤ 10) :
    Calls Try.prog 20 #[.agg #[.int .i64 (n : Int), .slice (some ⟨b1, o1, none⟩) n ca, .slice b2 lb cb]] w fun e w' => (∃ a2 cap2, e = .returned (.agg #[.int .i64 (P.length : Int), .slice a2 P.length cap2]) ∧ Row w' a2 P.length (fun k => (pB m P P.length k : Nat)) ∧ Fresh w.heap.size a2 P.length) ∧ Below w.heap.size w w' := by
  obtain ⟨W, HWE⟩ : ∃ W, Hid (W = (w.alloc (.cells #[.int .i64 (n : Int), .slice (some ⟨b1, o1, none⟩) n ca, .slice b2 lb cb] 27)).alloc (.cells #[.int .i64 0, .slice none 0 0] 24)) := ⟨_, rfl⟩
  have B1 : Below w.heap.size w (w.alloc (.cells #[.int .i64 (n : Int), .slice (some ⟨b1, o1, none⟩) n ca, .slice b2 lb cb] 27)) := (Below.refl _ _).alloc (Nat.le_refl _) _
  have B2 : Below w.heap.size w W := by rw [HWE.out]; exact B1.alloc (by simp) _
  have L0 : LB W w.heap.size (n : Int) (some ⟨b1, o1, none⟩) n ca b2 lb cb := by rw [HWE.out]; exact (LB.new w _ _ _ _ _ _ _).step ((Below.refl _ _).alloc (Nat.le_refl _) _)
  have Z0 : ZBox W (w.heap.size + 1) := by
    rw [HWE.out]
    have := ZBox.new (w.alloc (.cells #[.int .i64 (n : Int), .slice (some ⟨b1, o1, none⟩) n ca, .slice b2 lb cb] 27))
    rw [World.size_alloc] at this; exact this
  have HSZ : Hid (W.heap.size = w.heap.size + 2) := by rw [Hid, HWE.out]; simp
  have HB0 : Hid (Below w.heap.size w W) := B2
  have HZ0 : Hid (ZBox W (w.heap.size + 1)) := Z0
  have HT0 : Hid (Tb W b1 o1 n R1 m) := ht1.step B2
  have HPN : Hid (∀ k, k < P.length → nth P k < n) := fun k hk => by subst hP; exact (nth_filt_lt hk).1
  have l0 := L0.1
  have l1 := L0.2.1
  have l2 := L0.2.2
  clear ht1 B1 B2 Z0
  obtain ⟨q, HQ⟩ : ∃ q, Hid (q = P.length) := ⟨_, rfl⟩
  rw [← HQ.out]
  go_enter Try.func20, Try.ntmps20
  go_wp2_with fail
  rw [← HWE.out]
  go_wp2_with fail
  refine (irrOf_any n b1 o1 ca b2 lb cb R1 m _ h40 HT0.out).mono ?_
  rintro e w1 ⟨⟨v, rfl, hv⟩, hb1⟩
  rw [← hP] at hv
  obtain ⟨pa, pc, rfl, hpr⟩ := hv
  rw [← HQ.out] at hpr h10 HPN ⊢
  obtain ⟨w2, HW2⟩ : ∃ w2, Hid (w2 = w1.alloc (.cells #[.slice pa q pc] 22)) := ⟨_, rfl⟩
  have hb2 : Below w1.heap.size w1 w2 := by rw [HW2.out]; exact (Below.refl _ _).alloc (Nat.le_refl _) _
  have hc2 : w2.cell? ⟨w1.heap.size, 0, none⟩ = some (.slice pa q pc) := by rw [HW2.out]; simp
  have HCL : Hid (∀ (x y : Nat) (W' : World), x < q → y < q → Below w2.heap.size w2 W' → Calls Try.prog 46 (#[.int .i64 (x : Nat), .int .i64 (y : Nat)] ++ #[.pointer (some ⟨w.heap.size, 0, none⟩), .pointer (some ⟨w1.heap.size, 0, none⟩)]) W' fun e w' => e = .returned (.bool (!(x == y) && leB m (nth P x) (nth P y))) ∧ Below W'.heap.size W' w') :=
    lpt1_any n w.heap.size b1 o1 ca b2 lb cb R1 m w1.heap.size P q pa pc w2 ((L0.step hb1).step hb2) ((HT0.out.step hb1).step hb2) hc2 (hpr.below hb2) HPN.out
  have HB2 : Hid (Below w.heap.size w w2) := Below.then (Below.then HB0.out hb1) hb2
  have HZ2 : Hid (ZBox w2 (w.heap.size + 1)) := (HZ0.out.step hb1).step hb2
  have HSZ2 : Hid (w.heap.size + 2 ≤ w2.heap.size) := by have h1 := hb1.size; have h2 := HSZ.out; have h3 := hb2.size; rw [Hid]; omega
  clear hb1 hb2 hpr hP HWE l0 l1 l2 L0 HQ
  go_wp2_with fail
  rw [← HW2.out]
  clear HW2
  go_wp2_with fail
  refine (orderOf_clo q 46 _ (fun x y => !(x == y) && leB m (nth P x) (nth P y)) _ h10 ent_lpt HCL.out).mono ?_
  rintro e w3 ⟨⟨a2, cap2, rfl, hr3, hf3⟩, hb3⟩
  have HB3 : Hid (Below w.heap.size w w3) := Below.then HB2.out hb3
  obtain ⟨z0, z1, z2, z3⟩ := HZ2.out.step hb3
  have HROW : Hid (Row ((w3.setCell ⟨w.heap.size + 1, 0, none⟩ (.int .i64 (q : Int))).setCell ⟨w.heap.size + 1, 1, none⟩ (.slice a2 q cap2)) a2 q (fun k => (pB m P q k : Nat))) := row_set2 (B := w.heap.size + 1) hr3 (hf3.mono (by have := HSZ2.out; omega))
  have HFR : Hid (Fresh w.heap.size a2 q) := hf3.mono (by have := HSZ2.out; omega)
  clear hb3 hr3 hf3 HB2 HCL HZ2 hc2
  go_wp2_with fail
  exact bodyPost_ret (v := .agg #[.int .i64 (q : Int), .slice a2 q cap2]) (by simp [results, Try.results20, go_sem, z0, z1]) rfl ⟨⟨a2, cap2, rfl, HROW.out, HFR.out⟩, set2B HB3.out (by omega)⟩
end Go.Proofs.Ytpgbcnbhfgopdaa
