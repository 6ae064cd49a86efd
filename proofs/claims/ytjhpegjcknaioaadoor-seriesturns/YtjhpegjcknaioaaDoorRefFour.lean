/-
  What the reference's FourPoints answers, handed a closure: the first four different points of which it is so. Conditions: at most ten points; the closure answers P, and makes memory at most.
-/
import Derived.Deep.RegionHeld3
import Derived.Test.YtjhpegjcknaioaaDoorFourM
namespace Go.Proofs.YtjhpegjcknaioaaDoor
set_option maxRecDepth 100000
open Go.RowKit

/-- Two of four numbers are the same, as far as it has been looked at. -/
def dupIn (D : Nat → Nat) (i : Nat) : Nat → Bool
  | 0 => false
  | j + 1 => dupIn D i j || (D i == D j)
def dup (D : Nat → Nat) : Nat → Bool
  | 0 => false
  | i + 1 => dup D i || dupIn D i i
def D4 (a b c d k : Nat) : Nat := if k = 0 then a else if k = 1 then b else if k = 2 then c else d
theorem dup_diff (a b c d : Nat) : dup (D4 a b c d) 4 = !diff a b c d := by
  simp only [dup, dupIn, D4, diff]
  have e : ∀ x y : Nat, (x == y) = (y == x) := fun x y => by rw [Bool.eq_iff_iff]; simp; exact eq_comm
  simp [e b a, e c a, e c b, e d a, e d b, e d c]
  cases (a == b) <;> cases (a == c) <;> cases (a == d) <;> cases (b == c) <;> cases (b == d) <;> cases (c == d) <;> rfl

theorem wq {a b c : Nat} (h : c = a / b) (hc : c ≤ 10000) : wrap64 ((a : Int) / (b : Int)) = (c : Int) := by
  rw [← Int.natCast_ediv, ← h]
  exact IntWalk.wrap64_in _ ⟨by omega, by omega⟩
theorem wq2 {a b c : Nat} (h : c = a / b) (hc : c ≤ 10000) : IntKind.i64.wrap ((a : Int) / (b : Int)) = (c : Int) := by
  rw [← Int.natCast_ediv, ← h]
  exact wrap_i64_small _ (by omega) (by omega)
theorem wt {a b c : Nat} (h : c = a % b) : (a : Int).tmod (b : Int) = (c : Int) := by rw [h]; rfl
theorem wm {a b c : Nat} (h : c = a % b) : (a : Int) % (b : Int) = (c : Int) := by rw [h, Int.natCast_emod]

set_option maxHeartbeats 2000000 in
theorem fourPoints_zig (n : Nat) (B : Nat) (P : Nat → Nat → Nat → Nat → Bool) (w : World) (h10 : n ≤ 10)
    (hcl : ∀ (a b c d : Nat) (L : Nat) (wx : World), a < n → b < n → c < n → d < n → diff a b c d = true → Below w.heap.size w wx → wx.cell? ⟨L, 0, none⟩ = some (.int .i64 (a : Nat)) → wx.cell? ⟨L, 1, none⟩ = some (.int .i64 (b : Nat)) → wx.cell? ⟨L, 2, none⟩ = some (.int .i64 (c : Nat)) → wx.cell? ⟨L, 3, none⟩ = some (.int .i64 (d : Nat)) →
      Calls Tryd.prog 29 #[.slice (some ⟨L, 0, none⟩) 4 4, .pointer (some ⟨B, 0, none⟩)] wx fun e w' => e = .returned (.bool (P a b c d)) ∧ Below wx.heap.size wx w') :
    Calls Tryd.prog 28 #[.int .i64 n, .func (.func 29) #[] #[.pointer (some ⟨B, 0, none⟩)]] w fun e w' => (∃ v l ok, e = .returned (.tuple #[v, .bool ok]) ∧ First n (fun a b c d => diff a b c d && P a b c d) l ok ∧ NSl w' v l) ∧ Below w.heap.size w w' := by
  have HCL := (show Hid _ from hcl)
  clear hcl
  obtain ⟨Q, HQ⟩ : ∃ Q : Nat → Nat → Nat → Nat → Bool, Hid (Q = fun a b c d => diff a b c d && P a b c d) := ⟨_, rfl⟩
  rw [← HQ.out]
  have hN : n * n * n * n ≤ 10000 := by
    have h1 := Nat.mul_le_mul h10 h10
    have h2 := Nat.mul_le_mul h1 h10
    exact Nat.mul_le_mul h2 h10
  obtain ⟨N, hNe⟩ : ∃ N, N = n * n * n * n := ⟨_, rfl⟩
  have hN2 : n * n ≤ 100 := Nat.mul_le_mul h10 h10
  have hN3 : n * n * n ≤ 1000 := Nat.mul_le_mul hN2 h10
  go_enter Tryd.func28, Tryd.ntmps28
  go_wp2_with fail
  go_loopw [6] (fun i wx => ∃ k : Nat, k ≤ n * n * n * n ∧ i = .int .i64 k ∧ Hid (Upto n Q k) ∧ Hid (Below w.heap.size w wx)) (fun i _ => n * n * n * n - (intOf i).toNat)
  case atStart => exact ⟨0, Nat.zero_le _, rfl, Upto.zero n Q, Below.refl _ _⟩
  case round =>
    obtain ⟨k, hk, rfl, HU, HB⟩ := hrel
    have e3 : ((n * n * n : Nat) : Int) = (n : Int) * (n : Int) * (n : Int) := by simp [Int.natCast_mul]
    have e4 : (N : Int) = (n : Int) * (n : Int) * (n : Int) * (n : Int) := by rw [hNe]; simp [Int.natCast_mul]
    have hw3 : wrap64 ((n : Int) * (n : Int) * (n : Int)) = (n : Int) * (n : Int) * (n : Int) := IntWalk.wrap64_in _ ⟨by rw [← e3]; omega, by rw [← e3]; omega⟩
    have hw4 : wrap64 ((n : Int) * (n : Int) * (n : Int) * (n : Int)) = (N : Int) := by rw [← e4]; exact IntWalk.wrap64_in _ ⟨by omega, by omega⟩
    have HHW : Hid ((N : Int) = (n : Int) * (n : Int) * (n : Int) * (n : Int)) := e4
    clear e3 e4
    rw [← hNe] at hk
    by_cases hlt : k < N
    · have hlt' : (k : Int) < (N : Int) := by omega
      have hlt2 : (k : Int) < (n : Int) * (n : Int) * (n : Int) * (n : Int) := by rw [← HHW.out]; exact hlt'
      have hn0 : 0 < n := by
        rcases Nat.eq_zero_or_pos n with h | h
        · subst h; simp at hNe; omega
        · exact h
      have hnz : ((n : Int) == 0) = false := by simp; omega
      have hnz2 : ¬ (n : Int) = 0 := by omega
      obtain ⟨d1, d2, d3, d4⟩ := dig_lt hn0 (by rw [← hNe]; exact hlt)
      obtain ⟨K1, hK1⟩ : ∃ K, K = k / n := ⟨_, rfl⟩
      obtain ⟨K2, hK2⟩ : ∃ K, K = K1 / n := ⟨_, rfl⟩
      obtain ⟨A, hA⟩ : ∃ K, K = K2 / n := ⟨_, rfl⟩
      obtain ⟨B', hB'⟩ : ∃ K, K = K2 % n := ⟨_, rfl⟩
      obtain ⟨C, hC⟩ : ∃ K, K = K1 % n := ⟨_, rfl⟩
      obtain ⟨D, hD⟩ : ∃ K, K = k % n := ⟨_, rfl⟩
      have b0 : k ≤ 10000 := Nat.le_trans hk (by rw [hNe]; exact hN)
      have b1 : K1 ≤ 10000 := Nat.le_trans (by rw [hK1]; exact Nat.div_le_self _ _) b0
      have b2 : K2 ≤ 10000 := Nat.le_trans (by rw [hK2]; exact Nat.div_le_self _ _) b1
      have b3 : A ≤ 10000 := Nat.le_trans (by rw [hA]; exact Nat.div_le_self _ _) b2
      have hE1 : wrap64 ((k : Int) / (n : Int)) = (K1 : Int) := wq hK1 b1
      have hE2 : wrap64 ((K1 : Int) / (n : Int)) = (K2 : Int) := wq hK2 b2
      have hE3 : wrap64 ((K2 : Int) / (n : Int)) = (A : Int) := wq hA b3
      have hF1 : IntKind.i64.wrap ((k : Int) / (n : Int)) = (K1 : Int) := wq2 hK1 b1
      have hF2 : IntKind.i64.wrap ((K1 : Int) / (n : Int)) = (K2 : Int) := wq2 hK2 b2
      have hF3 : IntKind.i64.wrap ((K2 : Int) / (n : Int)) = (A : Int) := wq2 hA b3
      have hnz3 : ¬ n = 0 := by omega
      have hT1 : (K2 : Int).tmod (n : Int) = (B' : Int) := wt hB'
      have hT2 : (K1 : Int).tmod (n : Int) = (C : Int) := wt hC
      have hT3 : (k : Int).tmod (n : Int) = (D : Int) := wt hD
      have hM1 : (K2 : Int) % (n : Int) = (B' : Int) := wm hB'
      have hM2 : (K1 : Int) % (n : Int) = (C : Int) := wm hC
      have hM3 : (k : Int) % (n : Int) = (D : Int) := wm hD
      have HD : Hid (k / n / n / n = A ∧ k / n / n % n = B' ∧ k / n % n = C ∧ k % n = D) := ⟨by rw [hA, hK2, hK1], by rw [hB', hK2, hK1], by rw [hC, hK1], hD.symm⟩
      obtain ⟨e1, e2, e3, e4⟩ := HD.out
      rw [e1] at d1; rw [e2] at d2; rw [e3] at d3; rw [e4] at d4
      have HP4 : Hid (P4 n Q k = Q A B' C D) := (show P4 n Q k = Q A B' C D by unfold P4; rw [e1, e2, e3, e4])
      clear hK1 hK2 hA hB' hC hD b0 b1 b2 b3 e1 e2 e3 e4
      have HBd : Hid (Below w.heap.size w wr.drew) := HB.out.drew
      go_wp2_with fail
      refine wp_region_held_drew (S := (fun w' => Below w.heap.size w w')) (by kernel_rfl) (HBd.out) (fun hHeld => ?_)
      refine wpAnyH_take (i := 0) (oi := { dst := some 22, op := Go.Op.move (Go.Operand.tmp 6), type := 3, pos := "lattice.go:144", after := #[], guard := none }) (v := ?_) rfl (by kernel_rfl) (by kernel_rfl) (by kernel_rfl) (fun _ _ _ h => h) (Or.inl ⟨by rfl, ?hy⟩) (by assumption) ?_
      case hy => (intro w9 hSw; (try dsimp only at hSw); go_simp; try with_reducible rfl)
      try simp only [Act.put, List.setIfInBounds_toArray, List.set_cons_zero, List.set_cons_succ]
      refine wpAnyH_take (i := 1) (oi := { dst := some 23, op := Go.Op.move (Go.Operand.tmp 0), type := 3, pos := "lattice.go:144", after := #[], guard := none }) (v := ?_) rfl (by kernel_rfl) (by kernel_rfl) (by kernel_rfl) (fun _ _ _ h => h) (Or.inl ⟨by rfl, ?hy⟩) (by assumption) ?_
      case hy => (intro w9 hSw; (try dsimp only at hSw); go_simp; try with_reducible rfl)
      try simp only [Act.put, List.setIfInBounds_toArray, List.set_cons_zero, List.set_cons_succ]
      refine wpAnyH_take (i := 2) (oi := { dst := some 24, op := Go.Op.binOp Go.BinOp.quo 3 (Go.Operand.tmp 22) (Go.Operand.tmp 23) 3, type := 3, pos := "lattice.go:144", after := #[{ on := 0, ground := Go.Ground.data }, { on := 1, ground := Go.Ground.data }], guard := none }) (v := .int .i64 (K1 : Nat)) rfl (by kernel_rfl) (by kernel_rfl) (by kernel_rfl) (fun _ _ _ h => h) (Or.inl ⟨by rfl, ?hy⟩) (by assumption) ?_
      case hy => (intro w9 hSw; (try dsimp only at hSw); go_simp <;> (first | with_reducible rfl | (simp; omega) | omega))
      try simp only [Act.put, List.setIfInBounds_toArray, List.set_cons_zero, List.set_cons_succ]
      refine wpAnyH_take (i := 3) (oi := { dst := some 25, op := Go.Op.move (Go.Operand.tmp 0), type := 3, pos := "lattice.go:144", after := #[], guard := none }) (v := ?_) rfl (by kernel_rfl) (by kernel_rfl) (by kernel_rfl) (fun _ _ _ h => h) (Or.inl ⟨by rfl, ?hy⟩) (by assumption) ?_
      case hy => (intro w9 hSw; (try dsimp only at hSw); go_simp; try with_reducible rfl)
      try simp only [Act.put, List.setIfInBounds_toArray, List.set_cons_zero, List.set_cons_succ]
      refine wpAnyH_take (i := 4) (oi := { dst := some 26, op := Go.Op.binOp Go.BinOp.quo 3 (Go.Operand.tmp 24) (Go.Operand.tmp 25) 3, type := 3, pos := "lattice.go:144", after := #[{ on := 2, ground := Go.Ground.data }, { on := 3, ground := Go.Ground.data }], guard := none }) (v := .int .i64 (K2 : Nat)) rfl (by kernel_rfl) (by kernel_rfl) (by kernel_rfl) (fun _ _ _ h => h) (Or.inl ⟨by rfl, ?hy⟩) (by assumption) ?_
      case hy => (intro w9 hSw; (try dsimp only at hSw); go_simp <;> (first | with_reducible rfl | (simp; omega) | omega))
      try simp only [Act.put, List.setIfInBounds_toArray, List.set_cons_zero, List.set_cons_succ]
      refine wpAnyH_take (i := 5) (oi := { dst := some 27, op := Go.Op.move (Go.Operand.tmp 0), type := 3, pos := "lattice.go:144", after := #[], guard := none }) (v := ?_) rfl (by kernel_rfl) (by kernel_rfl) (by kernel_rfl) (fun _ _ _ h => h) (Or.inl ⟨by rfl, ?hy⟩) (by assumption) ?_
      case hy => (intro w9 hSw; (try dsimp only at hSw); go_simp; try with_reducible rfl)
      try simp only [Act.put, List.setIfInBounds_toArray, List.set_cons_zero, List.set_cons_succ]
      refine wpAnyH_take (i := 6) (oi := { dst := some 28, op := Go.Op.binOp Go.BinOp.quo 3 (Go.Operand.tmp 26) (Go.Operand.tmp 27) 3, type := 3, pos := "lattice.go:144", after := #[{ on := 4, ground := Go.Ground.data }, { on := 5, ground := Go.Ground.data }], guard := none }) (v := .int .i64 (A : Nat)) rfl (by kernel_rfl) (by kernel_rfl) (by kernel_rfl) (fun _ _ _ h => h) (Or.inl ⟨by rfl, ?hy⟩) (by assumption) ?_
      case hy => (intro w9 hSw; (try dsimp only at hSw); go_simp <;> (first | with_reducible rfl | (simp; omega) | omega))
      try simp only [Act.put, List.setIfInBounds_toArray, List.set_cons_zero, List.set_cons_succ]
      refine wpAnyH_take (i := 7) (oi := { dst := some 29, op := Go.Op.move (Go.Operand.tmp 6), type := 3, pos := "lattice.go:144", after := #[], guard := none }) (v := ?_) rfl (by kernel_rfl) (by kernel_rfl) (by kernel_rfl) (fun _ _ _ h => h) (Or.inl ⟨by rfl, ?hy⟩) (by assumption) ?_
      case hy => (intro w9 hSw; (try dsimp only at hSw); go_simp; try with_reducible rfl)
      try simp only [Act.put, List.setIfInBounds_toArray, List.set_cons_zero, List.set_cons_succ]
      refine wpAnyH_take (i := 8) (oi := { dst := some 30, op := Go.Op.move (Go.Operand.tmp 0), type := 3, pos := "lattice.go:144", after := #[], guard := none }) (v := ?_) rfl (by kernel_rfl) (by kernel_rfl) (by kernel_rfl) (fun _ _ _ h => h) (Or.inl ⟨by rfl, ?hy⟩) (by assumption) ?_
      case hy => (intro w9 hSw; (try dsimp only at hSw); go_simp; try with_reducible rfl)
      try simp only [Act.put, List.setIfInBounds_toArray, List.set_cons_zero, List.set_cons_succ]
      refine wpAnyH_take (i := 9) (oi := { dst := some 31, op := Go.Op.binOp Go.BinOp.quo 3 (Go.Operand.tmp 29) (Go.Operand.tmp 30) 3, type := 3, pos := "lattice.go:144", after := #[{ on := 7, ground := Go.Ground.data }, { on := 8, ground := Go.Ground.data }], guard := none }) (v := .int .i64 (K1 : Nat)) rfl (by kernel_rfl) (by kernel_rfl) (by kernel_rfl) (fun _ _ _ h => h) (Or.inl ⟨by rfl, ?hy⟩) (by assumption) ?_
      case hy => (intro w9 hSw; (try dsimp only at hSw); go_simp <;> (first | with_reducible rfl | (simp; omega) | omega))
      try simp only [Act.put, List.setIfInBounds_toArray, List.set_cons_zero, List.set_cons_succ]
      refine wpAnyH_take (i := 10) (oi := { dst := some 32, op := Go.Op.move (Go.Operand.tmp 0), type := 3, pos := "lattice.go:144", after := #[], guard := none }) (v := ?_) rfl (by kernel_rfl) (by kernel_rfl) (by kernel_rfl) (fun _ _ _ h => h) (Or.inl ⟨by rfl, ?hy⟩) (by assumption) ?_
      case hy => (intro w9 hSw; (try dsimp only at hSw); go_simp; try with_reducible rfl)
      try simp only [Act.put, List.setIfInBounds_toArray, List.set_cons_zero, List.set_cons_succ]
      refine wpAnyH_take (i := 11) (oi := { dst := some 33, op := Go.Op.binOp Go.BinOp.quo 3 (Go.Operand.tmp 31) (Go.Operand.tmp 32) 3, type := 3, pos := "lattice.go:144", after := #[{ on := 9, ground := Go.Ground.data }, { on := 10, ground := Go.Ground.data }], guard := none }) (v := .int .i64 (K2 : Nat)) rfl (by kernel_rfl) (by kernel_rfl) (by kernel_rfl) (fun _ _ _ h => h) (Or.inl ⟨by rfl, ?hy⟩) (by assumption) ?_
      case hy => (intro w9 hSw; (try dsimp only at hSw); go_simp <;> (first | with_reducible rfl | (simp; omega) | omega))
      try simp only [Act.put, List.setIfInBounds_toArray, List.set_cons_zero, List.set_cons_succ]
      refine wpAnyH_take (i := 12) (oi := { dst := some 34, op := Go.Op.move (Go.Operand.tmp 0), type := 3, pos := "lattice.go:144", after := #[], guard := none }) (v := ?_) rfl (by kernel_rfl) (by kernel_rfl) (by kernel_rfl) (fun _ _ _ h => h) (Or.inl ⟨by rfl, ?hy⟩) (by assumption) ?_
      case hy => (intro w9 hSw; (try dsimp only at hSw); go_simp; try with_reducible rfl)
      try simp only [Act.put, List.setIfInBounds_toArray, List.set_cons_zero, List.set_cons_succ]
      refine wpAnyH_take (i := 13) (oi := { dst := some 35, op := Go.Op.binOp Go.BinOp.rem 3 (Go.Operand.tmp 33) (Go.Operand.tmp 34) 3, type := 3, pos := "lattice.go:144", after := #[{ on := 11, ground := Go.Ground.data }, { on := 12, ground := Go.Ground.data }], guard := none }) (v := .int .i64 (B' : Nat)) rfl (by kernel_rfl) (by kernel_rfl) (by kernel_rfl) (fun _ _ _ h => h) (Or.inl ⟨by rfl, ?hy⟩) (by assumption) ?_
      case hy => (intro w9 hSw; (try dsimp only at hSw); go_simp <;> (first | with_reducible rfl | (simp; omega) | omega))
      try simp only [Act.put, List.setIfInBounds_toArray, List.set_cons_zero, List.set_cons_succ]
      refine wpAnyH_take (i := 14) (oi := { dst := some 36, op := Go.Op.move (Go.Operand.tmp 6), type := 3, pos := "lattice.go:144", after := #[], guard := none }) (v := ?_) rfl (by kernel_rfl) (by kernel_rfl) (by kernel_rfl) (fun _ _ _ h => h) (Or.inl ⟨by rfl, ?hy⟩) (by assumption) ?_
      case hy => (intro w9 hSw; (try dsimp only at hSw); go_simp; try with_reducible rfl)
      try simp only [Act.put, List.setIfInBounds_toArray, List.set_cons_zero, List.set_cons_succ]
      refine wpAnyH_take (i := 15) (oi := { dst := some 37, op := Go.Op.move (Go.Operand.tmp 0), type := 3, pos := "lattice.go:144", after := #[], guard := none }) (v := ?_) rfl (by kernel_rfl) (by kernel_rfl) (by kernel_rfl) (fun _ _ _ h => h) (Or.inl ⟨by rfl, ?hy⟩) (by assumption) ?_
      case hy => (intro w9 hSw; (try dsimp only at hSw); go_simp; try with_reducible rfl)
      try simp only [Act.put, List.setIfInBounds_toArray, List.set_cons_zero, List.set_cons_succ]
      refine wpAnyH_take (i := 16) (oi := { dst := some 38, op := Go.Op.binOp Go.BinOp.quo 3 (Go.Operand.tmp 36) (Go.Operand.tmp 37) 3, type := 3, pos := "lattice.go:144", after := #[{ on := 14, ground := Go.Ground.data }, { on := 15, ground := Go.Ground.data }], guard := none }) (v := .int .i64 (K1 : Nat)) rfl (by kernel_rfl) (by kernel_rfl) (by kernel_rfl) (fun _ _ _ h => h) (Or.inl ⟨by rfl, ?hy⟩) (by assumption) ?_
      case hy => (intro w9 hSw; (try dsimp only at hSw); go_simp <;> (first | with_reducible rfl | (simp; omega) | omega))
      try simp only [Act.put, List.setIfInBounds_toArray, List.set_cons_zero, List.set_cons_succ]
      refine wpAnyH_take (i := 17) (oi := { dst := some 39, op := Go.Op.move (Go.Operand.tmp 0), type := 3, pos := "lattice.go:144", after := #[], guard := none }) (v := ?_) rfl (by kernel_rfl) (by kernel_rfl) (by kernel_rfl) (fun _ _ _ h => h) (Or.inl ⟨by rfl, ?hy⟩) (by assumption) ?_
      case hy => (intro w9 hSw; (try dsimp only at hSw); go_simp; try with_reducible rfl)
      try simp only [Act.put, List.setIfInBounds_toArray, List.set_cons_zero, List.set_cons_succ]
      refine wpAnyH_take (i := 18) (oi := { dst := some 40, op := Go.Op.binOp Go.BinOp.rem 3 (Go.Operand.tmp 38) (Go.Operand.tmp 39) 3, type := 3, pos := "lattice.go:144", after := #[{ on := 16, ground := Go.Ground.data }, { on := 17, ground := Go.Ground.data }], guard := none }) (v := .int .i64 (C : Nat)) rfl (by kernel_rfl) (by kernel_rfl) (by kernel_rfl) (fun _ _ _ h => h) (Or.inl ⟨by rfl, ?hy⟩) (by assumption) ?_
      case hy => (intro w9 hSw; (try dsimp only at hSw); go_simp <;> (first | with_reducible rfl | (simp; omega) | omega))
      try simp only [Act.put, List.setIfInBounds_toArray, List.set_cons_zero, List.set_cons_succ]
      refine wpAnyH_take (i := 19) (oi := { dst := some 41, op := Go.Op.move (Go.Operand.tmp 6), type := 3, pos := "lattice.go:144", after := #[], guard := none }) (v := ?_) rfl (by kernel_rfl) (by kernel_rfl) (by kernel_rfl) (fun _ _ _ h => h) (Or.inl ⟨by rfl, ?hy⟩) (by assumption) ?_
      case hy => (intro w9 hSw; (try dsimp only at hSw); go_simp; try with_reducible rfl)
      try simp only [Act.put, List.setIfInBounds_toArray, List.set_cons_zero, List.set_cons_succ]
      refine wpAnyH_take (i := 20) (oi := { dst := some 42, op := Go.Op.move (Go.Operand.tmp 0), type := 3, pos := "lattice.go:144", after := #[], guard := none }) (v := ?_) rfl (by kernel_rfl) (by kernel_rfl) (by kernel_rfl) (fun _ _ _ h => h) (Or.inl ⟨by rfl, ?hy⟩) (by assumption) ?_
      case hy => (intro w9 hSw; (try dsimp only at hSw); go_simp; try with_reducible rfl)
      try simp only [Act.put, List.setIfInBounds_toArray, List.set_cons_zero, List.set_cons_succ]
      refine wpAnyH_take (i := 21) (oi := { dst := some 43, op := Go.Op.binOp Go.BinOp.rem 3 (Go.Operand.tmp 41) (Go.Operand.tmp 42) 3, type := 3, pos := "lattice.go:144", after := #[{ on := 19, ground := Go.Ground.data }, { on := 20, ground := Go.Ground.data }], guard := none }) (v := .int .i64 (D : Nat)) rfl (by kernel_rfl) (by kernel_rfl) (by kernel_rfl) (fun _ _ _ h => h) (Or.inl ⟨by rfl, ?hy⟩) (by assumption) ?_
      case hy => (intro w9 hSw; (try dsimp only at hSw); go_simp <;> (first | with_reducible rfl | (simp; omega) | omega))
      try simp only [Act.put, List.setIfInBounds_toArray, List.set_cons_zero, List.set_cons_succ]
      refine wpAnyH_ready (rs := [22]) (by kernel_rfl) (by simp) ?_
      refine AllReadyH.cons (o := { dst := some 44, op := Go.Op.buildSlice 22 4 #[(0, Go.Operand.tmp 28), (1, Go.Operand.tmp 35), (2, Go.Operand.tmp 40), (3, Go.Operand.tmp 43)], type := 22, pos := "lattice.go:144", after := #[{ on := 6, ground := Go.Ground.data }, { on := 13, ground := Go.Ground.data }, { on := 18, ground := Go.Ground.data }, { on := 21, ground := Go.Ground.data }], guard := none }) rfl (fun K hK => ?_) AllReadyH.nil
      go_simp
      skip
      refine hK.out _ _ ?_ (fun hHeld => ?_)
      · exact Below.alloc (by assumption) (Below.size (by assumption)) _
      clear hK K
      try simp only [Act.put, List.setIfInBounds_toArray, List.set_cons_zero, List.set_cons_succ]
      refine wpAnyH_take (i := 23) (oi := { dst := some 7, op := Go.Op.assign (Go.Operand.tmp 44), type := 22, pos := "lattice.go:144", after := #[{ on := 22, ground := Go.Ground.data }, { on := 0, ground := Go.Ground.phase }, { on := 1, ground := Go.Ground.phase }, { on := 2, ground := Go.Ground.phase }, { on := 3, ground := Go.Ground.phase }, { on := 4, ground := Go.Ground.phase }, { on := 5, ground := Go.Ground.phase }, { on := 6, ground := Go.Ground.phase }, { on := 7, ground := Go.Ground.phase }, { on := 8, ground := Go.Ground.phase }, { on := 9, ground := Go.Ground.phase }, { on := 10, ground := Go.Ground.phase }, { on := 11, ground := Go.Ground.phase }, { on := 12, ground := Go.Ground.phase }, { on := 13, ground := Go.Ground.phase }, { on := 14, ground := Go.Ground.phase }, { on := 15, ground := Go.Ground.phase }, { on := 16, ground := Go.Ground.phase }, { on := 17, ground := Go.Ground.phase }, { on := 18, ground := Go.Ground.phase }, { on := 19, ground := Go.Ground.phase }, { on := 20, ground := Go.Ground.phase }, { on := 21, ground := Go.Ground.phase }, { on := 22, ground := Go.Ground.phase }], guard := none }) (v := ?_) rfl (by kernel_rfl) (by kernel_rfl) (by kernel_rfl) (fun _ _ _ h => h) (Or.inl ⟨by rfl, ?hy⟩) (by assumption) ?_
      case hy => (intro w9 hSw; (try dsimp only at hSw); go_simp; try with_reducible rfl)
      try simp only [Act.put, List.setIfInBounds_toArray, List.set_cons_zero, List.set_cons_succ]
      refine wpAnyH_done (by kernel_rfl) ?_ _
      try simp only [Act.put, List.setIfInBounds_toArray, List.set_cons_zero, List.set_cons_succ]
      clear hHeld
      clear hT1 hT2 hT3 hF1 hF2 hF3 hE1 hE2 hE3 hM1 hM2 hM3 hw3 hw4 hnz hnz2
      have HB2 : Hid (Below w.heap.size w (wr.alloc (.cells #[.int .i64 (A : Nat), .int .i64 (B' : Nat), .int .i64 (C : Nat), .int .i64 (D : Nat)] 3)).drew) := (HB.out.alloc HB.out.size _).drew
      have HL2 : Hid (∀ q, q < 4 → (wr.alloc (.cells #[.int .i64 (A : Nat), .int .i64 (B' : Nat), .int .i64 (C : Nat), .int .i64 (D : Nat)] 3)).drew.cell? ⟨wr.heap.size, q, none⟩ = some (.int .i64 (D4 A B' C D q : Nat))) := fun q hq => by
        rcases (by omega : q = 0 ∨ q = 1 ∨ q = 2 ∨ q = 3) with rfl | rfl | rfl | rfl <;> simp [D4]
      clear HB
      generalize wr.heap.size = L at *
      generalize (wr.alloc (.cells #[.int .i64 (A : Nat), .int .i64 (B' : Nat), .int .i64 (C : Nat), .int .i64 (D : Nat)] 3)).drew = W2 at *
      go_wp2_with fail
      go_loopw [8, 9] (fun s i wx => ∃ x : Nat, x ≤ 4 ∧ i = .int .i64 x ∧ s = .bool (dup (D4 A B' C D) x) ∧ Hid (∀ q, q < 4 → wx.cell? ⟨L, q, none⟩ = some (.int .i64 (D4 A B' C D q : Nat))) ∧ Hid (Below w.heap.size w wx)) (fun _ i _ => 4 - (intOf i).toNat)
      case atStart => exact ⟨0, by omega, rfl, rfl, HL2.out, HB2.out⟩
      case round =>
        clear HL2 HB2
        obtain ⟨x, hx, rfl, rfl, HL, HB⟩ := hrel
        by_cases hxl : x < 4
        · have hxl' : (x : Int) < 4 := by omega
          go_wp2_with fail
          have HL0 : Hid (∀ q, q < 4 → wr.cell? ⟨L, q, none⟩ = some (.int .i64 (D4 A B' C D q : Nat))) := HL.out
          have HB0 : Hid (Below w.heap.size w wr) := HB.out
          clear HL HB
          go_loopw [8, 10] (fun s i wx => ∃ y : Nat, y ≤ x ∧ i = .int .i64 y ∧ s = .bool (dup (D4 A B' C D) x || dupIn (D4 A B' C D) x y) ∧ Hid (∀ q, q < 4 → wx.cell? ⟨L, q, none⟩ = some (.int .i64 (D4 A B' C D q : Nat))) ∧ Hid (Below w.heap.size w wx)) (fun _ i _ => x - (intOf i).toNat)
          case atStart => exact ⟨0, Nat.zero_le _, rfl, by simp [dupIn], HL0.out, HB0.out⟩
          case round =>
            clear HL0 HB0
            obtain ⟨y, hy, rfl, rfl, HL, HB⟩ := hrel
            by_cases hyl : y < x
            · have hyl' : (y : Int) < (x : Int) := by omega
              have hy4 : (y : Int) < 4 := by omega
              have c1 := HL.out x hxl
              have c2 := HL.out y (by omega)
              have HLd : Hid (∀ q, q < 4 → wr.drew.cell? ⟨L, q, none⟩ = some (.int .i64 (D4 A B' C D q : Nat))) := HL.out
              have HBd : Hid (Below w.heap.size w wr.drew) := HB.out.drew
              have HS : Hid ((dup (D4 A B' C D) x || dupIn (D4 A B' C D) x (y + 1)) = ((dup (D4 A B' C D) x || dupIn (D4 A B' C D) x y) || (D4 A B' C D x == D4 A B' C D y))) := by
                show _ = _
                rw [dupIn, Bool.or_assoc]
              generalize (dup (D4 A B' C D) x || dupIn (D4 A B' C D) x y) = s0 at *
              generalize D4 A B' C D x = X at c1 HS
              generalize D4 A B' C D y = Y at c2 HS
              clear HL HB
              rcases s0 with _ | _
              · rcases (Bool.eq_false_or_eq_true (X == Y)).symm with he | he
                · have he' : ((X : Int) == (Y : Int)) = false := by simp at he ⊢; omega
                  rw [he] at HS
                  go_wp2_with fail
                  go_region
                  go_wp2_with fail
                  go_roundw
                  case rel => exact ⟨y + 1, by omega, by go_num, by rw [HS.out]; first | rfl | simp, HLd.out, HBd.out⟩
                  case measure => simp [intOf]; omega
                · have he' : ((X : Int) == (Y : Int)) = true := by simp at he ⊢; omega
                  rw [he] at HS
                  go_wp2_with fail
                  go_region
                  go_wp2_with fail
                  go_roundw
                  case rel => exact ⟨y + 1, by omega, by go_num, by rw [HS.out]; first | rfl | simp, HLd.out, HBd.out⟩
                  case measure => simp [intOf]; omega
              · go_wp2_with fail
                go_region
                go_wp2_with fail
                go_roundw
                case rel => exact ⟨y + 1, by omega, by go_num, by rw [HS.out]; first | rfl | simp, HLd.out, HBd.out⟩
                case measure => simp [intOf]; omega
            · obtain rfl : y = x := by omega
              have HS : Hid ((dup (D4 A B' C D) y || dupIn (D4 A B' C D) y y) = dup (D4 A B' C D) (y + 1)) := rfl
              rw [HS.out]
              go_wp2_with fail
              go_roundw
              case rel => exact ⟨y + 1, by omega, by go_num, rfl, HL.out, HB.out⟩
              case measure => simp [intOf]; omega
        · obtain rfl : x = 4 := by omega
          have hx4 : ¬ (4 : Int) < 4 := by omega
          have hs4 : dup (D4 A B' C D) 4 = !diff A B' C D := dup_diff A B' C D
          have hcA : wr.cell? ⟨L, 0, none⟩ = some (.int .i64 (A : Nat)) := HL.out 0 (by omega)
          have hcB : wr.cell? ⟨L, 1, none⟩ = some (.int .i64 (B' : Nat)) := HL.out 1 (by omega)
          have hcC : wr.cell? ⟨L, 2, none⟩ = some (.int .i64 (C : Nat)) := HL.out 2 (by omega)
          have hcD : wr.cell? ⟨L, 3, none⟩ = some (.int .i64 (D : Nat)) := HL.out 3 (by omega)
          rw [hs4]
          have HHD : Hid (Q A B' C D = (diff A B' C D && P A B' C D)) := by rw [HQ.out]; exact rfl
          rcases (Bool.eq_false_or_eq_true (diff A B' C D)).symm with hdf | hdf
          · have HN : Hid (Upto n Q (k + 1)) := Upto.next HU.out (by rw [HP4.out, HHD.out, hdf]; rfl)
            rw [hdf]
            clear hs4 HU HHD HP4 HD HL
            go_wp2_with fail
            go_roundw
            case rel => exact ⟨k + 1, by omega, by go_num, HN.out, HB.out⟩
            case measure => simp [intOf]; omega
          · have HC := HCL.out A B' C D L wr d1 d2 d3 d4 hdf HB.out hcA hcB hcC hcD
            have HNSL : Hid (∀ w', Below wr.heap.size wr w' → NSl w' (.slice (some ⟨L, 0, none⟩) 4 4) [A, B', C, D]) := fun w' h => by
              refine ⟨_, 4, rfl, fun q hq => ⟨_, _, rfl, ?_⟩⟩
              simp only [List.length_cons, List.length_nil] at hq
              have := (h.cell (World.block_lt_of_cell? _ _ (HL.out q (by omega)))).trans (HL.out q (by omega))
              rw [Nat.zero_add, this]
              rcases (by omega : q = 0 ∨ q = 1 ∨ q = 2 ∨ q = 3) with rfl | rfl | rfl | rfl <;> simp [nth, D4]
            rw [hdf]
            rcases (Bool.eq_false_or_eq_true (P A B' C D)).symm with hp | hp
            · have HN : Hid (Upto n Q (k + 1)) := Upto.next HU.out (by rw [HP4.out, HHD.out, hdf, hp]; rfl)
              rw [hp] at HC
              clear hs4 HU HHD HP4 HD HL hcA hcB hcC hcD
              go_wp2_with fail
              refine HC.mono ?_
              rintro e w3 ⟨rfl, hb3⟩
              have HB3 : Hid (Below w.heap.size w w3) := Below.then HB.out hb3
              clear hb3 HC HB
              go_wp2_with fail
              go_roundw
              case rel => exact ⟨k + 1, by omega, by go_num, HN.out, HB3.out⟩
              case measure => simp [intOf]; omega
            · have HF : Hid (First n Q [A, B', C, D] true) := by
                obtain ⟨e1, e2, e3, e4⟩ := HD.out
                exact .inl ⟨rfl, k, by rw [← hNe]; exact hlt, by rw [HP4.out, HHD.out, hdf, hp]; rfl, HU.out, by rw [e1, e2, e3, e4]⟩
              rw [hp] at HC
              clear hs4 HU HHD HP4 HD HL hcA hcB hcC hcD
              go_wp2_with fail
              refine HC.mono ?_
              rintro e w3 ⟨rfl, hb3⟩
              have HB3 : Hid (Below w.heap.size w w3) := Below.then HB.out hb3
              have HN3 := (show Hid _ from HNSL.out w3 hb3)
              clear hb3 HC HB
              go_wp2_with fail
              go_ret2
              exact ⟨⟨_, _, _, rfl, HF.out, HN3.out⟩, HB3.out⟩
    · obtain rfl : k = N := by omega
      have hge : ¬ (k : Int) < (n : Int) * (n : Int) * (n : Int) * (n : Int) := by rw [← HHW.out]; omega
      have HF : Hid (First n Q [] false) := .inr ⟨rfl, rfl, by rw [← hNe]; exact HU.out⟩
      clear HU
      go_wp2_with fail
      go_ret2
      exact ⟨⟨.slice none 0 0, [], .inl ⟨rfl, HF.out, none, 0, rfl, fun k hk => absurd hk (Nat.not_lt_zero _)⟩⟩, HB.out⟩
end Go.Proofs.YtjhpegjcknaioaaDoor
