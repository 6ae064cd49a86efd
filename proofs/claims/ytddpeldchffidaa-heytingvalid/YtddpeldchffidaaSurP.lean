/-
  What the reference's Sure answers. Conditions: a lattice of at most sixteen elements, a formula that is well made.
-/
import Derived.Deep.RegionHeld3
import Derived.Test.YtddpeldchffidaaHasP
import Derived.Test.YtddpeldchffidaaValL
import Derived.Test.YtddpeldchffidaaVldP
namespace Go.Proofs.Ytddpeldchffidaa
set_option maxRecDepth 100000
open Go.RowKit

def Sure3 (T : FT) (n : Nat) (m j : Nat → Nat → Nat) (K : Nat) : Prop := ∀ k, k < K → Own3 T (vK n k) → val n m j (vK n k) T = lsB m n
theorem Sure3.next {T : FT} {n : Nat} {m j : Nat → Nat → Nat} {K : Nat} (h : Sure3 T n m j K) (hn : Own3 T (vK n K) → val n m j (vK n K) T = lsB m n) : Sure3 T n m j (K + 1) := fun k hk ho => by
  by_cases e : k = K
  · subst e; exact hn ho
  · exact h k (by omega) ho
theorem wrap_nat (q : Nat) (h : q ≤ 4096) : IntKind.i64.wrap ((q : Nat) : Int) = ((q : Nat) : Int) := wrap_i64_small _ (by omega) (by omega)
theorem row3of {w : World} {B v0 v1 v2 : Nat} (h : (w.cell? ⟨B, 0, none⟩ = some (.int .i64 (v0 : Nat)) ∧ w.cell? ⟨B, 1, none⟩ = some (.int .i64 (v1 : Nat))) ∧ w.cell? ⟨B, 2, none⟩ = some (.int .i64 (v2 : Nat))) : ∀ i, i < 3 → w.cell? ⟨B, 0 + i, none⟩ = some (.int .i64 (v3 v0 v1 v2 i : Nat)) := fun i hi => by
  rcases (by omega : i = 0 ∨ i = 1 ∨ i = 2) with rfl | rfl | rfl
  · exact h.1.1
  · exact h.1.2
  · exact h.2
theorem cube_le {n : Nat} (h : n ≤ 16) : n * n ≤ 256 ∧ n * n * n ≤ 4096 := by
  have h1 : n * n ≤ 16 * 16 := Nat.mul_le_mul h h
  have h2 : n * n * n ≤ 16 * 16 * 16 := Nat.mul_le_mul h1 h
  omega
set_option maxHeartbeats 8000000 in
theorem sure_any {w : World} {n b off ca b' off' cb : Nat} {R R' : Nat → Nat × Nat × Nat} {m j : Nat → Nat → Nat} (h1 : 1 ≤ n) (h16 : n ≤ 16) (hl : Lat n m j) (hd : All3 n (disB m j)) (htm : Tb w b off n R m) (htj : Tb w b' off' n R' j) {T : FT} {k x : Int} {a : Option Addr} {l cap : Nat} (hc : cf T = 0) (hf : FRep w T (.agg #[.int .i64 k, .int .i64 x, .slice a l cap])) :
    Calls Try.prog 9 #[.agg #[.int .i64 (n : Nat), .slice (some ⟨b, off, none⟩) n ca, .slice (some ⟨b', off', none⟩) n cb], .agg #[.int .i64 k, .int .i64 x, .slice a l cap]] w fun e w' => (∃ r, e = .returned (.bool r) ∧ (r = true ↔ Sure3 T n m j (n * n * n))) ∧ Below w.heap.size w w' := by
  have h40 : n ≤ 40 := by omega
  obtain ⟨W, hW⟩ : ∃ W, W = (w.alloc (.cells #[.int .i64 (n : Nat), .slice (some ⟨b, off, none⟩) n ca, .slice (some ⟨b', off', none⟩) n cb] 24)).alloc (.cells #[.int .i64 k, .int .i64 x, .slice a l cap] 27) := ⟨_, rfl⟩
  have B1 : Below w.heap.size w W := by rw [hW]; exact ((Below.refl _ _).alloc (Nat.le_refl _) _).alloc (by simp) _
  have HX : Hid (∀ w', Below W.heap.size W w' → ((w'.cell? ⟨w.heap.size, 0, none⟩ = some (.int .i64 (n : Nat)) ∧ w'.cell? ⟨w.heap.size, 1, none⟩ = some (.slice (some ⟨b, off, none⟩) n ca)) ∧ w'.cell? ⟨w.heap.size, 2, none⟩ = some (.slice (some ⟨b', off', none⟩) n cb)) ∧ (w'.cell? ⟨w.heap.size + 1, 0, none⟩ = some (.int .i64 k) ∧ w'.cell? ⟨w.heap.size + 1, 1, none⟩ = some (.int .i64 x)) ∧ w'.cell? ⟨w.heap.size + 1, 2, none⟩ = some (.slice a l cap)) := fun w' h =>
    ⟨⟨⟨cell_step h (by rw [hW]; simp), cell_step h (by rw [hW]; simp)⟩, cell_step h (by rw [hW]; simp)⟩, ⟨cell_step h (by rw [hW]; simp), cell_step h (by rw [hW]; simp)⟩, cell_step h (by rw [hW]; simp)⟩
  have HWE : Hid (W = (w.alloc (.cells #[.int .i64 (n : Nat), .slice (some ⟨b, off, none⟩) n ca, .slice (some ⟨b', off', none⟩) n cb] 24)).alloc (.cells #[.int .i64 k, .int .i64 x, .slice a l cap] 27)) := hW
  have HB1 : Hid (Below w.heap.size w W) := B1
  have HTM : Hid (∀ w', Below W.heap.size W w' → Tb w' b off n R m) := fun w' h => htm.step (Below.then B1 h)
  have HTJ : Hid (∀ w', Below W.heap.size W w' → Tb w' b' off' n R' j) := fun w' h => htj.step (Below.then B1 h)
  have HFR : Hid (∀ w', Below W.heap.size W w' → FRep w' T (.agg #[.int .i64 k, .int .i64 x, .slice a l cap])) := fun w' h => FRep.step (Below.then B1 h) _ _ hf
  have HL : Hid (Lat n m j ∧ All3 n (disB m j) ∧ cf T = 0) := ⟨hl, hd, hc⟩
  have cu := cube_le h16
  have e1 : ((n : Nat) : Int) * ((n : Nat) : Int) = ((n * n : Nat) : Int) := by simp
  have e2 : ((n * n : Nat) : Int) * ((n : Nat) : Int) = ((n * n * n : Nat) : Int) := by simp
  obtain ⟨N3, hN3⟩ : ∃ N3, N3 = n * n * n := ⟨_, rfl⟩
  obtain ⟨N2, hN2⟩ : ∃ N2, N2 = n * n := ⟨_, rfl⟩
  have HN3 : Hid (N3 = n * n * n) := hN3
  rw [← hN3]
  rw [← hN3] at e2 cu
  rw [← hN2] at e1 e2 cu
  obtain ⟨⟨⟨c0, c1⟩, c2⟩, ⟨f0, f1⟩, f2⟩ := HX.out _ (Below.refl _ _)
  clear hl hd htm htj hf hc B1 hW hN3 hN2
  go_enter Try.func9, Try.ntmps9
  go_wp2_with fail
  rw [← HWE.out]
  clear HWE
  refine (leastOf_any n b off ca (some ⟨b', off', none⟩) n cb R m W h1 h40 (HTM.out _ (Below.refl _ _))).mono ?_
  rintro e w1 ⟨rfl, hb1⟩
  have HW1 : Hid (Below W.heap.size W w1) := hb1
  have HIF : Hid (∀ r, (r = true ↔ Sure3 T n m j N3) → ∃ q, Ending.returned (.bool r) = .returned (.bool q) ∧ (q = true ↔ Sure3 T n m j N3)) := fun r h => ⟨r, rfl, h⟩
  clear hb1 c0 c1 c2 f0 f1 f2
  go_wp2_with fail
  go_loopw [7] (fun i wx => ∃ K : Nat, K ≤ N3 ∧ i = .int .i64 (K : Nat) ∧ Hid (Sure3 T n m j K) ∧ Hid (Below W.heap.size W wx)) (fun i _ => N3 - (intOf i).toNat)
  case atStart => exact ⟨0, Nat.zero_le _, rfl, fun k hk => absurd hk (Nat.not_lt_zero _), HW1.out⟩
  case round =>
    obtain ⟨K, hK, rfl, HU, HW⟩ := hrel
    clear HW1
    have k0 := (HX.out _ HW.out).1.1.1
    by_cases hKN : K < N3
    · have hKI : (K : Int) < (N3 : Int) := by omega
      obtain ⟨q1, v0, v1, v2, d3, d0, d1, d2, hq1, HV, HVL⟩ : ∃ q1 v0 v1 v2 : Nat, ((K : Nat) : Int) / ((n : Nat) : Int) = ((q1 : Nat) : Int) ∧ ((q1 : Nat) : Int) / ((n : Nat) : Int) = ((v0 : Nat) : Int) ∧ ((q1 : Nat) : Int) % ((n : Nat) : Int) = ((v1 : Nat) : Int) ∧ ((K : Nat) : Int) % ((n : Nat) : Int) = ((v2 : Nat) : Int) ∧ q1 ≤ 4096 ∧ Hid (vK n K = v3 v0 v1 v2) ∧ Hid (∀ i, i < 3 → v3 v0 v1 v2 i < n) :=
        ⟨K / n, K / n / n, K / n % n, K % n, (Int.natCast_ediv _ _).symm, (Int.natCast_ediv _ _).symm, (Int.natCast_emod _ _).symm, (Int.natCast_emod _ _).symm, Nat.le_trans (Nat.div_le_self _ _) (by omega), rfl, vK_lt (by rw [← HN3.out]; exact hKN)⟩
      have hv0 : v0 < n := HVL.out 0 (by omega)
      have hv1 : v1 < n := HVL.out 1 (by omega)
      have hv2 : v2 < n := HVL.out 2 (by omega)
      have hn0 : ¬ n = 0 := by omega
      have d4 : ((K : Nat) : Int).tdiv ((n : Nat) : Int) = ((q1 : Nat) : Int) := d3
      have d5 : ((q1 : Nat) : Int).tdiv ((n : Nat) : Int) = ((v0 : Nat) : Int) := d0
      have d6 : ((q1 : Nat) : Int).tmod ((n : Nat) : Int) = ((v1 : Nat) : Int) := d1
      have d7 : ((K : Nat) : Int).tmod ((n : Nat) : Int) = ((v2 : Nat) : Int) := d2
      have u0 := wrap_nat q1 hq1
      have u1 := wrap_nat v0 (by omega)
      have u2 := wrap_nat v1 (by omega)
      have u3 := wrap_nat v2 (by omega)
      obtain ⟨X, hX⟩ : ∃ X, X = (wr.alloc (.cells #[.int .i64 (v0 : Nat), .int .i64 (v1 : Nat), .int .i64 (v2 : Nat)] 3)).drew := ⟨_, rfl⟩
      have HXE : Hid (X = (wr.alloc (.cells #[.int .i64 (v0 : Nat), .int .i64 (v1 : Nat), .int .i64 (v2 : Nat)] 3)).drew) := hX
      have HB5 : Hid (Below W.heap.size W X) := by rw [hX]; exact Below.then HW.out ((bel_one _ _).drew)
      have HR : Hid (∀ w', Below X.heap.size X w' → (w'.cell? ⟨wr.heap.size, 0, none⟩ = some (.int .i64 (v0 : Nat)) ∧ w'.cell? ⟨wr.heap.size, 1, none⟩ = some (.int .i64 (v1 : Nat))) ∧ w'.cell? ⟨wr.heap.size, 2, none⟩ = some (.int .i64 (v2 : Nat))) := fun w' h => ⟨⟨cell_step h (by rw [hX]; exact row3c wr v0 v1 v2 0 (by omega)), cell_step h (by rw [hX]; exact row3c wr v0 v1 v2 1 (by omega))⟩, cell_step h (by rw [hX]; exact row3c wr v0 v1 v2 2 (by omega))⟩
      clear hX
      have KK : Below W.heap.size W wr.drew := HW.out.drew
      go_wp2_with fail
      have c0 : ∀ w', Below W.heap.size W w' → w'.cell? ⟨w.heap.size, 0, none⟩ = some (.int .i64 (n : Nat)) := fun w' h => (HX.out w' h).1.1.1
      clear k0
      refine wp_region_held_drew (S := (fun w' => Below W.heap.size W w')) (by kernel_rfl) (KK) (fun hHeld => ?_)
      refine wpAnyH_take (i := 0) (oi := { dst := some 26, op := Go.Op.move (Go.Operand.tmp 7), type := 3, pos := "fix.go:582", after := #[], guard := none }) (v := ?_) rfl (by kernel_rfl) (by kernel_rfl) (by kernel_rfl) (fun _ _ _ h => h) (Or.inl ⟨by rfl, ?hy⟩) (by assumption) ?_
      case hy => (intro w9 hSw; (try dsimp only at hSw); go_simp; try with_reducible rfl)
      try simp only [Act.put, List.setIfInBounds_toArray, List.set_cons_zero, List.set_cons_succ]
      refine wpAnyH_take (i := 1) (oi := { dst := some 27, op := Go.Op.fieldAddr 24 (Go.Operand.tmp 2) 0, type := 0, pos := "fix.go:582", after := #[], guard := none }) (v := ?_) rfl (by kernel_rfl) (by kernel_rfl) (by kernel_rfl) (fun _ _ _ h => h) (Or.inl ⟨by rfl, ?hy⟩) (by assumption) ?_
      case hy => (intro w9 hSw; (try dsimp only at hSw); go_simp; try with_reducible rfl)
      try simp only [Act.put, List.setIfInBounds_toArray, List.set_cons_zero, List.set_cons_succ]
      refine wpAnyH_take (i := 2) (oi := { dst := some 28, op := Go.Op.load 3 (Go.Operand.tmp 27), type := 3, pos := "fix.go:582", after := #[{ on := 1, ground := Go.Ground.data }], guard := none }) (v := ?_) rfl (by kernel_rfl) (by kernel_rfl) (by kernel_rfl) (fun _ _ _ h => h) (Or.inl ⟨by rfl, ?hy⟩) (by assumption) ?_
      case hy => (intro w9 hSw; (try dsimp only at hSw); go_simp; try with_reducible rfl)
      try simp only [Act.put, List.setIfInBounds_toArray, List.set_cons_zero, List.set_cons_succ]
      refine wpAnyH_take (i := 3) (oi := { dst := some 29, op := Go.Op.binOp Go.BinOp.quo 3 (Go.Operand.tmp 26) (Go.Operand.tmp 28) 3, type := 3, pos := "fix.go:582", after := #[{ on := 0, ground := Go.Ground.data }, { on := 2, ground := Go.Ground.data }], guard := none }) (v := .int .i64 ((q1 : Nat) : Int)) rfl (by kernel_rfl) (by kernel_rfl) (by kernel_rfl) (fun _ _ _ h => h) (Or.inl ⟨by rfl, ?hy⟩) (by assumption) ?_
      case hy => (intro w9 hSw; (try dsimp only at hSw); go_simp <;> (first | with_reducible rfl | (simp; omega) | omega))
      try simp only [Act.put, List.setIfInBounds_toArray, List.set_cons_zero, List.set_cons_succ]
      refine wpAnyH_take (i := 4) (oi := { dst := some 30, op := Go.Op.fieldAddr 24 (Go.Operand.tmp 2) 0, type := 0, pos := "fix.go:582", after := #[], guard := none }) (v := ?_) rfl (by kernel_rfl) (by kernel_rfl) (by kernel_rfl) (fun _ _ _ h => h) (Or.inl ⟨by rfl, ?hy⟩) (by assumption) ?_
      case hy => (intro w9 hSw; (try dsimp only at hSw); go_simp; try with_reducible rfl)
      try simp only [Act.put, List.setIfInBounds_toArray, List.set_cons_zero, List.set_cons_succ]
      refine wpAnyH_take (i := 5) (oi := { dst := some 31, op := Go.Op.load 3 (Go.Operand.tmp 30), type := 3, pos := "fix.go:582", after := #[{ on := 4, ground := Go.Ground.data }], guard := none }) (v := ?_) rfl (by kernel_rfl) (by kernel_rfl) (by kernel_rfl) (fun _ _ _ h => h) (Or.inl ⟨by rfl, ?hy⟩) (by assumption) ?_
      case hy => (intro w9 hSw; (try dsimp only at hSw); go_simp; try with_reducible rfl)
      try simp only [Act.put, List.setIfInBounds_toArray, List.set_cons_zero, List.set_cons_succ]
      refine wpAnyH_take (i := 6) (oi := { dst := some 32, op := Go.Op.binOp Go.BinOp.quo 3 (Go.Operand.tmp 29) (Go.Operand.tmp 31) 3, type := 3, pos := "fix.go:582", after := #[{ on := 3, ground := Go.Ground.data }, { on := 5, ground := Go.Ground.data }], guard := none }) (v := .int .i64 ((v0 : Nat) : Int)) rfl (by kernel_rfl) (by kernel_rfl) (by kernel_rfl) (fun _ _ _ h => h) (Or.inl ⟨by rfl, ?hy⟩) (by assumption) ?_
      case hy => (intro w9 hSw; (try dsimp only at hSw); go_simp <;> (first | with_reducible rfl | (simp; omega) | omega))
      try simp only [Act.put, List.setIfInBounds_toArray, List.set_cons_zero, List.set_cons_succ]
      refine wpAnyH_take (i := 7) (oi := { dst := some 33, op := Go.Op.move (Go.Operand.tmp 7), type := 3, pos := "fix.go:582", after := #[], guard := none }) (v := ?_) rfl (by kernel_rfl) (by kernel_rfl) (by kernel_rfl) (fun _ _ _ h => h) (Or.inl ⟨by rfl, ?hy⟩) (by assumption) ?_
      case hy => (intro w9 hSw; (try dsimp only at hSw); go_simp; try with_reducible rfl)
      try simp only [Act.put, List.setIfInBounds_toArray, List.set_cons_zero, List.set_cons_succ]
      refine wpAnyH_take (i := 8) (oi := { dst := some 34, op := Go.Op.fieldAddr 24 (Go.Operand.tmp 2) 0, type := 0, pos := "fix.go:582", after := #[], guard := none }) (v := ?_) rfl (by kernel_rfl) (by kernel_rfl) (by kernel_rfl) (fun _ _ _ h => h) (Or.inl ⟨by rfl, ?hy⟩) (by assumption) ?_
      case hy => (intro w9 hSw; (try dsimp only at hSw); go_simp; try with_reducible rfl)
      try simp only [Act.put, List.setIfInBounds_toArray, List.set_cons_zero, List.set_cons_succ]
      refine wpAnyH_take (i := 9) (oi := { dst := some 35, op := Go.Op.load 3 (Go.Operand.tmp 34), type := 3, pos := "fix.go:582", after := #[{ on := 8, ground := Go.Ground.data }], guard := none }) (v := ?_) rfl (by kernel_rfl) (by kernel_rfl) (by kernel_rfl) (fun _ _ _ h => h) (Or.inl ⟨by rfl, ?hy⟩) (by assumption) ?_
      case hy => (intro w9 hSw; (try dsimp only at hSw); go_simp; try with_reducible rfl)
      try simp only [Act.put, List.setIfInBounds_toArray, List.set_cons_zero, List.set_cons_succ]
      refine wpAnyH_take (i := 10) (oi := { dst := some 36, op := Go.Op.binOp Go.BinOp.quo 3 (Go.Operand.tmp 33) (Go.Operand.tmp 35) 3, type := 3, pos := "fix.go:582", after := #[{ on := 7, ground := Go.Ground.data }, { on := 9, ground := Go.Ground.data }], guard := none }) (v := .int .i64 ((q1 : Nat) : Int)) rfl (by kernel_rfl) (by kernel_rfl) (by kernel_rfl) (fun _ _ _ h => h) (Or.inl ⟨by rfl, ?hy⟩) (by assumption) ?_
      case hy => (intro w9 hSw; (try dsimp only at hSw); go_simp <;> (first | with_reducible rfl | (simp; omega) | omega))
      try simp only [Act.put, List.setIfInBounds_toArray, List.set_cons_zero, List.set_cons_succ]
      refine wpAnyH_take (i := 11) (oi := { dst := some 37, op := Go.Op.fieldAddr 24 (Go.Operand.tmp 2) 0, type := 0, pos := "fix.go:582", after := #[], guard := none }) (v := ?_) rfl (by kernel_rfl) (by kernel_rfl) (by kernel_rfl) (fun _ _ _ h => h) (Or.inl ⟨by rfl, ?hy⟩) (by assumption) ?_
      case hy => (intro w9 hSw; (try dsimp only at hSw); go_simp; try with_reducible rfl)
      try simp only [Act.put, List.setIfInBounds_toArray, List.set_cons_zero, List.set_cons_succ]
      refine wpAnyH_take (i := 12) (oi := { dst := some 38, op := Go.Op.load 3 (Go.Operand.tmp 37), type := 3, pos := "fix.go:582", after := #[{ on := 11, ground := Go.Ground.data }], guard := none }) (v := ?_) rfl (by kernel_rfl) (by kernel_rfl) (by kernel_rfl) (fun _ _ _ h => h) (Or.inl ⟨by rfl, ?hy⟩) (by assumption) ?_
      case hy => (intro w9 hSw; (try dsimp only at hSw); go_simp; try with_reducible rfl)
      try simp only [Act.put, List.setIfInBounds_toArray, List.set_cons_zero, List.set_cons_succ]
      refine wpAnyH_take (i := 13) (oi := { dst := some 39, op := Go.Op.binOp Go.BinOp.rem 3 (Go.Operand.tmp 36) (Go.Operand.tmp 38) 3, type := 3, pos := "fix.go:582", after := #[{ on := 10, ground := Go.Ground.data }, { on := 12, ground := Go.Ground.data }], guard := none }) (v := .int .i64 ((v1 : Nat) : Int)) rfl (by kernel_rfl) (by kernel_rfl) (by kernel_rfl) (fun _ _ _ h => h) (Or.inl ⟨by rfl, ?hy⟩) (by assumption) ?_
      case hy => (intro w9 hSw; (try dsimp only at hSw); go_simp <;> (first | with_reducible rfl | (simp; omega) | omega))
      try simp only [Act.put, List.setIfInBounds_toArray, List.set_cons_zero, List.set_cons_succ]
      refine wpAnyH_take (i := 14) (oi := { dst := some 40, op := Go.Op.move (Go.Operand.tmp 7), type := 3, pos := "fix.go:582", after := #[], guard := none }) (v := ?_) rfl (by kernel_rfl) (by kernel_rfl) (by kernel_rfl) (fun _ _ _ h => h) (Or.inl ⟨by rfl, ?hy⟩) (by assumption) ?_
      case hy => (intro w9 hSw; (try dsimp only at hSw); go_simp; try with_reducible rfl)
      try simp only [Act.put, List.setIfInBounds_toArray, List.set_cons_zero, List.set_cons_succ]
      refine wpAnyH_take (i := 15) (oi := { dst := some 41, op := Go.Op.fieldAddr 24 (Go.Operand.tmp 2) 0, type := 0, pos := "fix.go:582", after := #[], guard := none }) (v := ?_) rfl (by kernel_rfl) (by kernel_rfl) (by kernel_rfl) (fun _ _ _ h => h) (Or.inl ⟨by rfl, ?hy⟩) (by assumption) ?_
      case hy => (intro w9 hSw; (try dsimp only at hSw); go_simp; try with_reducible rfl)
      try simp only [Act.put, List.setIfInBounds_toArray, List.set_cons_zero, List.set_cons_succ]
      refine wpAnyH_take (i := 16) (oi := { dst := some 42, op := Go.Op.load 3 (Go.Operand.tmp 41), type := 3, pos := "fix.go:582", after := #[{ on := 15, ground := Go.Ground.data }], guard := none }) (v := ?_) rfl (by kernel_rfl) (by kernel_rfl) (by kernel_rfl) (fun _ _ _ h => h) (Or.inl ⟨by rfl, ?hy⟩) (by assumption) ?_
      case hy => (intro w9 hSw; (try dsimp only at hSw); go_simp; try with_reducible rfl)
      try simp only [Act.put, List.setIfInBounds_toArray, List.set_cons_zero, List.set_cons_succ]
      refine wpAnyH_take (i := 17) (oi := { dst := some 43, op := Go.Op.binOp Go.BinOp.rem 3 (Go.Operand.tmp 40) (Go.Operand.tmp 42) 3, type := 3, pos := "fix.go:582", after := #[{ on := 14, ground := Go.Ground.data }, { on := 16, ground := Go.Ground.data }], guard := none }) (v := .int .i64 ((v2 : Nat) : Int)) rfl (by kernel_rfl) (by kernel_rfl) (by kernel_rfl) (fun _ _ _ h => h) (Or.inl ⟨by rfl, ?hy⟩) (by assumption) ?_
      case hy => (intro w9 hSw; (try dsimp only at hSw); go_simp <;> (first | with_reducible rfl | (simp; omega) | omega))
      try simp only [Act.put, List.setIfInBounds_toArray, List.set_cons_zero, List.set_cons_succ]
      refine wpAnyH_ready (rs := [18]) (by kernel_rfl) (by simp) ?_
      refine AllReadyH.cons (o := { dst := some 44, op := Go.Op.buildSlice 40 3 #[(0, Go.Operand.tmp 32), (1, Go.Operand.tmp 39), (2, Go.Operand.tmp 43)], type := 40, pos := "fix.go:582", after := #[{ on := 6, ground := Go.Ground.data }, { on := 13, ground := Go.Ground.data }, { on := 17, ground := Go.Ground.data }], guard := none }) rfl (fun K hK => ?_) AllReadyH.nil
      go_simp
      skip
      refine hK.out _ _ ?_ (fun hHeld => ?_)
      · rw [← HXE.out]; exact HB5.out
      clear hK K
      try simp only [Act.put, List.setIfInBounds_toArray, List.set_cons_zero, List.set_cons_succ]
      refine wpAnyH_take (i := 19) (oi := { dst := some 8, op := Go.Op.assign (Go.Operand.tmp 44), type := 40, pos := "fix.go:582", after := #[{ on := 18, ground := Go.Ground.data }, { on := 0, ground := Go.Ground.phase }, { on := 1, ground := Go.Ground.phase }, { on := 2, ground := Go.Ground.phase }, { on := 3, ground := Go.Ground.phase }, { on := 4, ground := Go.Ground.phase }, { on := 5, ground := Go.Ground.phase }, { on := 6, ground := Go.Ground.phase }, { on := 7, ground := Go.Ground.phase }, { on := 8, ground := Go.Ground.phase }, { on := 9, ground := Go.Ground.phase }, { on := 10, ground := Go.Ground.phase }, { on := 11, ground := Go.Ground.phase }, { on := 12, ground := Go.Ground.phase }, { on := 13, ground := Go.Ground.phase }, { on := 14, ground := Go.Ground.phase }, { on := 15, ground := Go.Ground.phase }, { on := 16, ground := Go.Ground.phase }, { on := 17, ground := Go.Ground.phase }, { on := 18, ground := Go.Ground.phase }], guard := none }) (v := ?_) rfl (by kernel_rfl) (by kernel_rfl) (by kernel_rfl) (fun _ _ _ h => h) (Or.inl ⟨by rfl, ?hy⟩) (by assumption) ?_
      case hy => (intro w9 hSw; (try dsimp only at hSw); go_simp; try with_reducible rfl)
      try simp only [Act.put, List.setIfInBounds_toArray, List.set_cons_zero, List.set_cons_succ]
      refine wpAnyH_done (by kernel_rfl) ?_ _
      try simp only [Act.put, List.setIfInBounds_toArray, List.set_cons_zero, List.set_cons_succ]
      rw [← HXE.out]
      clear c0 hHeld HXE
      have HCX : Hid (Below W.heap.size W X) := HB5.out
      have HQX : Hid (Below X.heap.size X X) := Below.refl _ _
      clear HB5
      by_cases z0 : v0 = 0
      · have y0 : ¬ (0 : Int) < ((v0 : Nat) : Int) := by omega
        have o0 : Hid (v0 = 0 ∨ HasV T 0) := .inl z0
        clear z0
        by_cases z1 : v1 = 0
        · have y1 : ¬ (0 : Int) < ((v1 : Nat) : Int) := by omega
          have o1 : Hid (v1 = 0 ∨ HasV T 1) := .inl z1
          clear z1
          by_cases z2 : v2 = 0
          · have y2 : ¬ (0 : Int) < ((v2 : Nat) : Int) := by omega
            have o2 : Hid (v2 = 0 ∨ HasV T 2) := .inl z2
            clear z2
            have HOWN : Hid (Own3 T (v3 v0 v1 v2)) := ⟨o0.out, o1.out, o2.out⟩
            have HVO : Hid _ := valueOf_any (f := v3 v0 v1 v2) (c := wr.heap.size) (co := 0) (cc := 3) (ca := ca) (cb := cb) h1 h40 HL.out.1 HL.out.2.1 (HTM.out _ HCX.out) (HTJ.out _ HCX.out) (row3of (HR.out _ HQX.out)) HVL.out T (.agg #[.int .i64 k, .int .i64 x, .slice a l cap]) X HL.out.2.2 (HFR.out _ HCX.out) (Below.refl _ _)
            obtain ⟨⟨r0, r1⟩, r2⟩ := HR.out _ HQX.out
            obtain ⟨⟨⟨c0, c1⟩, c2⟩, ⟨f0, f1⟩, f2⟩ := HX.out _ HCX.out
            go_wp2_with fail
            refine (Calls.mono HVO.out) ?_
            rintro e w9 ⟨rfl, hb9⟩
            have HB9 : Hid (Below W.heap.size W w9) := Below.then HCX.out hb9
            clear hb9 HVO
            clear c0 c1 c2 f0 f1 f2 r0 r1 r2
            by_cases hval : val n m j (v3 v0 v1 v2) T = lsB m n
            · have HN : Hid (Sure3 T n m j (K + 1)) := HU.out.next (fun _ => by rw [HV.out]; exact hval)
              rw [hval]
              clear hval HU
              go_wp2_with fail
              go_roundw
              case rel => exact ⟨K + 1, by omega, by go_num, HN.out, HB9.out⟩
              case measure => simp [intOf]; omega
            · have HNO : Hid (¬ Sure3 T n m j N3) := fun h => hval (by have := h K hKN (by rw [HV.out]; exact HOWN.out); rw [HV.out] at this; exact this)
              have hne : (((val n m j (v3 v0 v1 v2) T : Nat) : Int) != ((lsB m n : Nat) : Int)) = true := by simp; omega
              clear hval HU
              go_wp2_with fail
              go_ret
              exact ⟨⟨false, rfl, fun h => (by cases h), fun h => absurd h HNO.out⟩, Below.then HB1.out HB9.out⟩
          · have y2 : (0 : Int) < ((v2 : Nat) : Int) := by omega
            obtain ⟨⟨r0, r1⟩, r2⟩ := HR.out _ HQX.out
            obtain ⟨⟨⟨c0, c1⟩, c2⟩, ⟨f0, f1⟩, f2⟩ := HX.out _ HCX.out
            go_wp2_with fail
            refine (hasVar_any T 2 _ _ (HFR.out _ HCX.out)).mono ?_
            rintro e w7 ⟨⟨s2, rfl, hr2⟩, hb2⟩
            clear c0 c1 c2 f0 f1 f2 r0 r1 r2
            have HCw7 : Hid (Below W.heap.size W w7) := Below.then HCX.out hb2
            have HQw7 : Hid (Below X.heap.size X w7) := Below.then HQX.out hb2
            clear hb2
            cases s2
            · have HN : Hid (Sure3 T n m j (K + 1)) := HU.out.next (fun ho => by
                rw [HV.out] at ho
                rcases ho.2.2 with h | h
                · exact absurd (show v2 = 0 from h) z2
                · have := hr2.2 h; cases this)
              clear HU hr2 z2
              go_wp2_with fail
              go_roundw
              case rel => exact ⟨K + 1, by omega, by go_num, HN.out, HCw7.out⟩
              case measure => simp [intOf]; omega
            · have o2 : Hid (v2 = 0 ∨ HasV T 2) := .inr (hr2.1 rfl)
              clear hr2 z2
              have HOWN : Hid (Own3 T (v3 v0 v1 v2)) := ⟨o0.out, o1.out, o2.out⟩
              have HVO : Hid _ := valueOf_any (f := v3 v0 v1 v2) (c := wr.heap.size) (co := 0) (cc := 3) (ca := ca) (cb := cb) h1 h40 HL.out.1 HL.out.2.1 (HTM.out _ HCw7.out) (HTJ.out _ HCw7.out) (row3of (HR.out _ HQw7.out)) HVL.out T (.agg #[.int .i64 k, .int .i64 x, .slice a l cap]) w7 HL.out.2.2 (HFR.out _ HCw7.out) (Below.refl _ _)
              obtain ⟨⟨r0, r1⟩, r2⟩ := HR.out _ HQw7.out
              obtain ⟨⟨⟨c0, c1⟩, c2⟩, ⟨f0, f1⟩, f2⟩ := HX.out _ HCw7.out
              go_wp2_with fail
              refine (Calls.mono HVO.out) ?_
              rintro e w9 ⟨rfl, hb9⟩
              have HB9 : Hid (Below W.heap.size W w9) := Below.then HCw7.out hb9
              clear hb9 HVO
              clear c0 c1 c2 f0 f1 f2 r0 r1 r2
              by_cases hval : val n m j (v3 v0 v1 v2) T = lsB m n
              · have HN : Hid (Sure3 T n m j (K + 1)) := HU.out.next (fun _ => by rw [HV.out]; exact hval)
                rw [hval]
                clear hval HU
                go_wp2_with fail
                go_roundw
                case rel => exact ⟨K + 1, by omega, by go_num, HN.out, HB9.out⟩
                case measure => simp [intOf]; omega
              · have HNO : Hid (¬ Sure3 T n m j N3) := fun h => hval (by have := h K hKN (by rw [HV.out]; exact HOWN.out); rw [HV.out] at this; exact this)
                have hne : (((val n m j (v3 v0 v1 v2) T : Nat) : Int) != ((lsB m n : Nat) : Int)) = true := by simp; omega
                clear hval HU
                go_wp2_with fail
                go_ret
                exact ⟨⟨false, rfl, fun h => (by cases h), fun h => absurd h HNO.out⟩, Below.then HB1.out HB9.out⟩
        · have y1 : (0 : Int) < ((v1 : Nat) : Int) := by omega
          obtain ⟨⟨r0, r1⟩, r2⟩ := HR.out _ HQX.out
          obtain ⟨⟨⟨c0, c1⟩, c2⟩, ⟨f0, f1⟩, f2⟩ := HX.out _ HCX.out
          go_wp2_with fail
          refine (hasVar_any T 1 _ _ (HFR.out _ HCX.out)).mono ?_
          rintro e w6 ⟨⟨s1, rfl, hr1⟩, hb1⟩
          clear c0 c1 c2 f0 f1 f2 r0 r1 r2
          have HCw6 : Hid (Below W.heap.size W w6) := Below.then HCX.out hb1
          have HQw6 : Hid (Below X.heap.size X w6) := Below.then HQX.out hb1
          clear hb1
          cases s1
          · have HN : Hid (Sure3 T n m j (K + 1)) := HU.out.next (fun ho => by
              rw [HV.out] at ho
              rcases ho.2.1 with h | h
              · exact absurd (show v1 = 0 from h) z1
              · have := hr1.2 h; cases this)
            clear HU hr1 z1
            go_wp2_with fail
            go_roundw
            case rel => exact ⟨K + 1, by omega, by go_num, HN.out, HCw6.out⟩
            case measure => simp [intOf]; omega
          · have o1 : Hid (v1 = 0 ∨ HasV T 1) := .inr (hr1.1 rfl)
            clear hr1 z1
            by_cases z2 : v2 = 0
            · have y2 : ¬ (0 : Int) < ((v2 : Nat) : Int) := by omega
              have o2 : Hid (v2 = 0 ∨ HasV T 2) := .inl z2
              clear z2
              have HOWN : Hid (Own3 T (v3 v0 v1 v2)) := ⟨o0.out, o1.out, o2.out⟩
              have HVO : Hid _ := valueOf_any (f := v3 v0 v1 v2) (c := wr.heap.size) (co := 0) (cc := 3) (ca := ca) (cb := cb) h1 h40 HL.out.1 HL.out.2.1 (HTM.out _ HCw6.out) (HTJ.out _ HCw6.out) (row3of (HR.out _ HQw6.out)) HVL.out T (.agg #[.int .i64 k, .int .i64 x, .slice a l cap]) w6 HL.out.2.2 (HFR.out _ HCw6.out) (Below.refl _ _)
              obtain ⟨⟨r0, r1⟩, r2⟩ := HR.out _ HQw6.out
              obtain ⟨⟨⟨c0, c1⟩, c2⟩, ⟨f0, f1⟩, f2⟩ := HX.out _ HCw6.out
              go_wp2_with fail
              refine (Calls.mono HVO.out) ?_
              rintro e w9 ⟨rfl, hb9⟩
              have HB9 : Hid (Below W.heap.size W w9) := Below.then HCw6.out hb9
              clear hb9 HVO
              clear c0 c1 c2 f0 f1 f2 r0 r1 r2
              by_cases hval : val n m j (v3 v0 v1 v2) T = lsB m n
              · have HN : Hid (Sure3 T n m j (K + 1)) := HU.out.next (fun _ => by rw [HV.out]; exact hval)
                rw [hval]
                clear hval HU
                go_wp2_with fail
                go_roundw
                case rel => exact ⟨K + 1, by omega, by go_num, HN.out, HB9.out⟩
                case measure => simp [intOf]; omega
              · have HNO : Hid (¬ Sure3 T n m j N3) := fun h => hval (by have := h K hKN (by rw [HV.out]; exact HOWN.out); rw [HV.out] at this; exact this)
                have hne : (((val n m j (v3 v0 v1 v2) T : Nat) : Int) != ((lsB m n : Nat) : Int)) = true := by simp; omega
                clear hval HU
                go_wp2_with fail
                go_ret
                exact ⟨⟨false, rfl, fun h => (by cases h), fun h => absurd h HNO.out⟩, Below.then HB1.out HB9.out⟩
            · have y2 : (0 : Int) < ((v2 : Nat) : Int) := by omega
              obtain ⟨⟨r0, r1⟩, r2⟩ := HR.out _ HQw6.out
              obtain ⟨⟨⟨c0, c1⟩, c2⟩, ⟨f0, f1⟩, f2⟩ := HX.out _ HCw6.out
              go_wp2_with fail
              refine (hasVar_any T 2 _ _ (HFR.out _ HCw6.out)).mono ?_
              rintro e w7 ⟨⟨s2, rfl, hr2⟩, hb2⟩
              clear c0 c1 c2 f0 f1 f2 r0 r1 r2
              have HCw7 : Hid (Below W.heap.size W w7) := Below.then HCw6.out hb2
              have HQw7 : Hid (Below X.heap.size X w7) := Below.then HQw6.out hb2
              clear hb2
              cases s2
              · have HN : Hid (Sure3 T n m j (K + 1)) := HU.out.next (fun ho => by
                  rw [HV.out] at ho
                  rcases ho.2.2 with h | h
                  · exact absurd (show v2 = 0 from h) z2
                  · have := hr2.2 h; cases this)
                clear HU hr2 z2
                go_wp2_with fail
                go_roundw
                case rel => exact ⟨K + 1, by omega, by go_num, HN.out, HCw7.out⟩
                case measure => simp [intOf]; omega
              · have o2 : Hid (v2 = 0 ∨ HasV T 2) := .inr (hr2.1 rfl)
                clear hr2 z2
                have HOWN : Hid (Own3 T (v3 v0 v1 v2)) := ⟨o0.out, o1.out, o2.out⟩
                have HVO : Hid _ := valueOf_any (f := v3 v0 v1 v2) (c := wr.heap.size) (co := 0) (cc := 3) (ca := ca) (cb := cb) h1 h40 HL.out.1 HL.out.2.1 (HTM.out _ HCw7.out) (HTJ.out _ HCw7.out) (row3of (HR.out _ HQw7.out)) HVL.out T (.agg #[.int .i64 k, .int .i64 x, .slice a l cap]) w7 HL.out.2.2 (HFR.out _ HCw7.out) (Below.refl _ _)
                obtain ⟨⟨r0, r1⟩, r2⟩ := HR.out _ HQw7.out
                obtain ⟨⟨⟨c0, c1⟩, c2⟩, ⟨f0, f1⟩, f2⟩ := HX.out _ HCw7.out
                go_wp2_with fail
                refine (Calls.mono HVO.out) ?_
                rintro e w9 ⟨rfl, hb9⟩
                have HB9 : Hid (Below W.heap.size W w9) := Below.then HCw7.out hb9
                clear hb9 HVO
                clear c0 c1 c2 f0 f1 f2 r0 r1 r2
                by_cases hval : val n m j (v3 v0 v1 v2) T = lsB m n
                · have HN : Hid (Sure3 T n m j (K + 1)) := HU.out.next (fun _ => by rw [HV.out]; exact hval)
                  rw [hval]
                  clear hval HU
                  go_wp2_with fail
                  go_roundw
                  case rel => exact ⟨K + 1, by omega, by go_num, HN.out, HB9.out⟩
                  case measure => simp [intOf]; omega
                · have HNO : Hid (¬ Sure3 T n m j N3) := fun h => hval (by have := h K hKN (by rw [HV.out]; exact HOWN.out); rw [HV.out] at this; exact this)
                  have hne : (((val n m j (v3 v0 v1 v2) T : Nat) : Int) != ((lsB m n : Nat) : Int)) = true := by simp; omega
                  clear hval HU
                  go_wp2_with fail
                  go_ret
                  exact ⟨⟨false, rfl, fun h => (by cases h), fun h => absurd h HNO.out⟩, Below.then HB1.out HB9.out⟩
      · have y0 : (0 : Int) < ((v0 : Nat) : Int) := by omega
        obtain ⟨⟨r0, r1⟩, r2⟩ := HR.out _ HQX.out
        obtain ⟨⟨⟨c0, c1⟩, c2⟩, ⟨f0, f1⟩, f2⟩ := HX.out _ HCX.out
        go_wp2_with fail
        refine (hasVar_any T 0 _ _ (HFR.out _ HCX.out)).mono ?_
        rintro e w5 ⟨⟨s0, rfl, hr0⟩, hb0⟩
        clear c0 c1 c2 f0 f1 f2 r0 r1 r2
        have HCw5 : Hid (Below W.heap.size W w5) := Below.then HCX.out hb0
        have HQw5 : Hid (Below X.heap.size X w5) := Below.then HQX.out hb0
        clear hb0
        cases s0
        · have HN : Hid (Sure3 T n m j (K + 1)) := HU.out.next (fun ho => by
            rw [HV.out] at ho
            rcases ho.1 with h | h
            · exact absurd (show v0 = 0 from h) z0
            · have := hr0.2 h; cases this)
          clear HU hr0 z0
          go_wp2_with fail
          go_roundw
          case rel => exact ⟨K + 1, by omega, by go_num, HN.out, HCw5.out⟩
          case measure => simp [intOf]; omega
        · have o0 : Hid (v0 = 0 ∨ HasV T 0) := .inr (hr0.1 rfl)
          clear hr0 z0
          by_cases z1 : v1 = 0
          · have y1 : ¬ (0 : Int) < ((v1 : Nat) : Int) := by omega
            have o1 : Hid (v1 = 0 ∨ HasV T 1) := .inl z1
            clear z1
            by_cases z2 : v2 = 0
            · have y2 : ¬ (0 : Int) < ((v2 : Nat) : Int) := by omega
              have o2 : Hid (v2 = 0 ∨ HasV T 2) := .inl z2
              clear z2
              have HOWN : Hid (Own3 T (v3 v0 v1 v2)) := ⟨o0.out, o1.out, o2.out⟩
              have HVO : Hid _ := valueOf_any (f := v3 v0 v1 v2) (c := wr.heap.size) (co := 0) (cc := 3) (ca := ca) (cb := cb) h1 h40 HL.out.1 HL.out.2.1 (HTM.out _ HCw5.out) (HTJ.out _ HCw5.out) (row3of (HR.out _ HQw5.out)) HVL.out T (.agg #[.int .i64 k, .int .i64 x, .slice a l cap]) w5 HL.out.2.2 (HFR.out _ HCw5.out) (Below.refl _ _)
              obtain ⟨⟨r0, r1⟩, r2⟩ := HR.out _ HQw5.out
              obtain ⟨⟨⟨c0, c1⟩, c2⟩, ⟨f0, f1⟩, f2⟩ := HX.out _ HCw5.out
              go_wp2_with fail
              refine (Calls.mono HVO.out) ?_
              rintro e w9 ⟨rfl, hb9⟩
              have HB9 : Hid (Below W.heap.size W w9) := Below.then HCw5.out hb9
              clear hb9 HVO
              clear c0 c1 c2 f0 f1 f2 r0 r1 r2
              by_cases hval : val n m j (v3 v0 v1 v2) T = lsB m n
              · have HN : Hid (Sure3 T n m j (K + 1)) := HU.out.next (fun _ => by rw [HV.out]; exact hval)
                rw [hval]
                clear hval HU
                go_wp2_with fail
                go_roundw
                case rel => exact ⟨K + 1, by omega, by go_num, HN.out, HB9.out⟩
                case measure => simp [intOf]; omega
              · have HNO : Hid (¬ Sure3 T n m j N3) := fun h => hval (by have := h K hKN (by rw [HV.out]; exact HOWN.out); rw [HV.out] at this; exact this)
                have hne : (((val n m j (v3 v0 v1 v2) T : Nat) : Int) != ((lsB m n : Nat) : Int)) = true := by simp; omega
                clear hval HU
                go_wp2_with fail
                go_ret
                exact ⟨⟨false, rfl, fun h => (by cases h), fun h => absurd h HNO.out⟩, Below.then HB1.out HB9.out⟩
            · have y2 : (0 : Int) < ((v2 : Nat) : Int) := by omega
              obtain ⟨⟨r0, r1⟩, r2⟩ := HR.out _ HQw5.out
              obtain ⟨⟨⟨c0, c1⟩, c2⟩, ⟨f0, f1⟩, f2⟩ := HX.out _ HCw5.out
              go_wp2_with fail
              refine (hasVar_any T 2 _ _ (HFR.out _ HCw5.out)).mono ?_
              rintro e w7 ⟨⟨s2, rfl, hr2⟩, hb2⟩
              clear c0 c1 c2 f0 f1 f2 r0 r1 r2
              have HCw7 : Hid (Below W.heap.size W w7) := Below.then HCw5.out hb2
              have HQw7 : Hid (Below X.heap.size X w7) := Below.then HQw5.out hb2
              clear hb2
              cases s2
              · have HN : Hid (Sure3 T n m j (K + 1)) := HU.out.next (fun ho => by
                  rw [HV.out] at ho
                  rcases ho.2.2 with h | h
                  · exact absurd (show v2 = 0 from h) z2
                  · have := hr2.2 h; cases this)
                clear HU hr2 z2
                go_wp2_with fail
                go_roundw
                case rel => exact ⟨K + 1, by omega, by go_num, HN.out, HCw7.out⟩
                case measure => simp [intOf]; omega
              · have o2 : Hid (v2 = 0 ∨ HasV T 2) := .inr (hr2.1 rfl)
                clear hr2 z2
                have HOWN : Hid (Own3 T (v3 v0 v1 v2)) := ⟨o0.out, o1.out, o2.out⟩
                have HVO : Hid _ := valueOf_any (f := v3 v0 v1 v2) (c := wr.heap.size) (co := 0) (cc := 3) (ca := ca) (cb := cb) h1 h40 HL.out.1 HL.out.2.1 (HTM.out _ HCw7.out) (HTJ.out _ HCw7.out) (row3of (HR.out _ HQw7.out)) HVL.out T (.agg #[.int .i64 k, .int .i64 x, .slice a l cap]) w7 HL.out.2.2 (HFR.out _ HCw7.out) (Below.refl _ _)
                obtain ⟨⟨r0, r1⟩, r2⟩ := HR.out _ HQw7.out
                obtain ⟨⟨⟨c0, c1⟩, c2⟩, ⟨f0, f1⟩, f2⟩ := HX.out _ HCw7.out
                go_wp2_with fail
                refine (Calls.mono HVO.out) ?_
                rintro e w9 ⟨rfl, hb9⟩
                have HB9 : Hid (Below W.heap.size W w9) := Below.then HCw7.out hb9
                clear hb9 HVO
                clear c0 c1 c2 f0 f1 f2 r0 r1 r2
                by_cases hval : val n m j (v3 v0 v1 v2) T = lsB m n
                · have HN : Hid (Sure3 T n m j (K + 1)) := HU.out.next (fun _ => by rw [HV.out]; exact hval)
                  rw [hval]
                  clear hval HU
                  go_wp2_with fail
                  go_roundw
                  case rel => exact ⟨K + 1, by omega, by go_num, HN.out, HB9.out⟩
                  case measure => simp [intOf]; omega
                · have HNO : Hid (¬ Sure3 T n m j N3) := fun h => hval (by have := h K hKN (by rw [HV.out]; exact HOWN.out); rw [HV.out] at this; exact this)
                  have hne : (((val n m j (v3 v0 v1 v2) T : Nat) : Int) != ((lsB m n : Nat) : Int)) = true := by simp; omega
                  clear hval HU
                  go_wp2_with fail
                  go_ret
                  exact ⟨⟨false, rfl, fun h => (by cases h), fun h => absurd h HNO.out⟩, Below.then HB1.out HB9.out⟩
          · have y1 : (0 : Int) < ((v1 : Nat) : Int) := by omega
            obtain ⟨⟨r0, r1⟩, r2⟩ := HR.out _ HQw5.out
            obtain ⟨⟨⟨c0, c1⟩, c2⟩, ⟨f0, f1⟩, f2⟩ := HX.out _ HCw5.out
            go_wp2_with fail
            refine (hasVar_any T 1 _ _ (HFR.out _ HCw5.out)).mono ?_
            rintro e w6 ⟨⟨s1, rfl, hr1⟩, hb1⟩
            clear c0 c1 c2 f0 f1 f2 r0 r1 r2
            have HCw6 : Hid (Below W.heap.size W w6) := Below.then HCw5.out hb1
            have HQw6 : Hid (Below X.heap.size X w6) := Below.then HQw5.out hb1
            clear hb1
            cases s1
            · have HN : Hid (Sure3 T n m j (K + 1)) := HU.out.next (fun ho => by
                rw [HV.out] at ho
                rcases ho.2.1 with h | h
                · exact absurd (show v1 = 0 from h) z1
                · have := hr1.2 h; cases this)
              clear HU hr1 z1
              go_wp2_with fail
              go_roundw
              case rel => exact ⟨K + 1, by omega, by go_num, HN.out, HCw6.out⟩
              case measure => simp [intOf]; omega
            · have o1 : Hid (v1 = 0 ∨ HasV T 1) := .inr (hr1.1 rfl)
              clear hr1 z1
              by_cases z2 : v2 = 0
              · have y2 : ¬ (0 : Int) < ((v2 : Nat) : Int) := by omega
                have o2 : Hid (v2 = 0 ∨ HasV T 2) := .inl z2
                clear z2
                have HOWN : Hid (Own3 T (v3 v0 v1 v2)) := ⟨o0.out, o1.out, o2.out⟩
                have HVO : Hid _ := valueOf_any (f := v3 v0 v1 v2) (c := wr.heap.size) (co := 0) (cc := 3) (ca := ca) (cb := cb) h1 h40 HL.out.1 HL.out.2.1 (HTM.out _ HCw6.out) (HTJ.out _ HCw6.out) (row3of (HR.out _ HQw6.out)) HVL.out T (.agg #[.int .i64 k, .int .i64 x, .slice a l cap]) w6 HL.out.2.2 (HFR.out _ HCw6.out) (Below.refl _ _)
                obtain ⟨⟨r0, r1⟩, r2⟩ := HR.out _ HQw6.out
                obtain ⟨⟨⟨c0, c1⟩, c2⟩, ⟨f0, f1⟩, f2⟩ := HX.out _ HCw6.out
                go_wp2_with fail
                refine (Calls.mono HVO.out) ?_
                rintro e w9 ⟨rfl, hb9⟩
                have HB9 : Hid (Below W.heap.size W w9) := Below.then HCw6.out hb9
                clear hb9 HVO
                clear c0 c1 c2 f0 f1 f2 r0 r1 r2
                by_cases hval : val n m j (v3 v0 v1 v2) T = lsB m n
                · have HN : Hid (Sure3 T n m j (K + 1)) := HU.out.next (fun _ => by rw [HV.out]; exact hval)
                  rw [hval]
                  clear hval HU
                  go_wp2_with fail
                  go_roundw
                  case rel => exact ⟨K + 1, by omega, by go_num, HN.out, HB9.out⟩
                  case measure => simp [intOf]; omega
                · have HNO : Hid (¬ Sure3 T n m j N3) := fun h => hval (by have := h K hKN (by rw [HV.out]; exact HOWN.out); rw [HV.out] at this; exact this)
                  have hne : (((val n m j (v3 v0 v1 v2) T : Nat) : Int) != ((lsB m n : Nat) : Int)) = true := by simp; omega
                  clear hval HU
                  go_wp2_with fail
                  go_ret
                  exact ⟨⟨false, rfl, fun h => (by cases h), fun h => absurd h HNO.out⟩, Below.then HB1.out HB9.out⟩
              · have y2 : (0 : Int) < ((v2 : Nat) : Int) := by omega
                obtain ⟨⟨r0, r1⟩, r2⟩ := HR.out _ HQw6.out
                obtain ⟨⟨⟨c0, c1⟩, c2⟩, ⟨f0, f1⟩, f2⟩ := HX.out _ HCw6.out
                go_wp2_with fail
                refine (hasVar_any T 2 _ _ (HFR.out _ HCw6.out)).mono ?_
                rintro e w7 ⟨⟨s2, rfl, hr2⟩, hb2⟩
                clear c0 c1 c2 f0 f1 f2 r0 r1 r2
                have HCw7 : Hid (Below W.heap.size W w7) := Below.then HCw6.out hb2
                have HQw7 : Hid (Below X.heap.size X w7) := Below.then HQw6.out hb2
                clear hb2
                cases s2
                · have HN : Hid (Sure3 T n m j (K + 1)) := HU.out.next (fun ho => by
                    rw [HV.out] at ho
                    rcases ho.2.2 with h | h
                    · exact absurd (show v2 = 0 from h) z2
                    · have := hr2.2 h; cases this)
                  clear HU hr2 z2
                  go_wp2_with fail
                  go_roundw
                  case rel => exact ⟨K + 1, by omega, by go_num, HN.out, HCw7.out⟩
                  case measure => simp [intOf]; omega
                · have o2 : Hid (v2 = 0 ∨ HasV T 2) := .inr (hr2.1 rfl)
                  clear hr2 z2
                  have HOWN : Hid (Own3 T (v3 v0 v1 v2)) := ⟨o0.out, o1.out, o2.out⟩
                  have HVO : Hid _ := valueOf_any (f := v3 v0 v1 v2) (c := wr.heap.size) (co := 0) (cc := 3) (ca := ca) (cb := cb) h1 h40 HL.out.1 HL.out.2.1 (HTM.out _ HCw7.out) (HTJ.out _ HCw7.out) (row3of (HR.out _ HQw7.out)) HVL.out T (.agg #[.int .i64 k, .int .i64 x, .slice a l cap]) w7 HL.out.2.2 (HFR.out _ HCw7.out) (Below.refl _ _)
                  obtain ⟨⟨r0, r1⟩, r2⟩ := HR.out _ HQw7.out
                  obtain ⟨⟨⟨c0, c1⟩, c2⟩, ⟨f0, f1⟩, f2⟩ := HX.out _ HCw7.out
                  go_wp2_with fail
                  refine (Calls.mono HVO.out) ?_
                  rintro e w9 ⟨rfl, hb9⟩
                  have HB9 : Hid (Below W.heap.size W w9) := Below.then HCw7.out hb9
                  clear hb9 HVO
                  clear c0 c1 c2 f0 f1 f2 r0 r1 r2
                  by_cases hval : val n m j (v3 v0 v1 v2) T = lsB m n
                  · have HN : Hid (Sure3 T n m j (K + 1)) := HU.out.next (fun _ => by rw [HV.out]; exact hval)
                    rw [hval]
                    clear hval HU
                    go_wp2_with fail
                    go_roundw
                    case rel => exact ⟨K + 1, by omega, by go_num, HN.out, HB9.out⟩
                    case measure => simp [intOf]; omega
                  · have HNO : Hid (¬ Sure3 T n m j N3) := fun h => hval (by have := h K hKN (by rw [HV.out]; exact HOWN.out); rw [HV.out] at this; exact this)
                    have hne : (((val n m j (v3 v0 v1 v2) T : Nat) : Int) != ((lsB m n : Nat) : Int)) = true := by simp; omega
                    clear hval HU
                    go_wp2_with fail
                    go_ret
                    exact ⟨⟨false, rfl, fun h => (by cases h), fun h => absurd h HNO.out⟩, Below.then HB1.out HB9.out⟩
    · obtain rfl : K = N3 := by omega
      go_wp2_with fail
      go_ret
      exact ⟨⟨true, rfl, fun _ => HU.out, fun _ => rfl⟩, Below.then HB1.out HW.out⟩
end Go.Proofs.Ytddpeldchffidaa
