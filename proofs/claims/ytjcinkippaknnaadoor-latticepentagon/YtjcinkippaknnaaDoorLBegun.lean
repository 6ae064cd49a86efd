/-
  What hasselaw.latticeBegun answers: true. Condition: the library's table lies in its variable.
-/
import Derived.Deep.RegionHeld3
import Derived.Test.YtjcinkippaknnaaDoorTablesO
import Derived.Test.YtjcinkippaknnaaDoorPair
namespace Go.Proofs.YtjcinkippaknnaaDoor
open Go.RowKit

/-- One above the other. -/
def c2 : Nat → Nat
  | 0 => 0
  | _ => 1
theorem c2_nat : nat (fun k => (c2 k : Nat)) = c2 := by funext k; simp [nat]
theorem c2_ord : Ord 2 c2 := by
  intro u hu
  rcases (by omega : u = 0 ∨ u = 1) with rfl | rfl
  · exact ⟨by decide, fun p _ h => by simp [c2] at h⟩
  · refine ⟨by decide, fun p hp h => ?_⟩
    rcases (by omega : p = 0 ∨ p = 1) with rfl | rfl
    · decide
    · exact absurd h (by decide)
theorem c2_chk : Chk 2 2 (fun k => (c2 k : Nat)) 0 :=
  .inr ⟨2, rfl, by omega, .inr ⟨rfl, .inr ⟨fun k hk => by
    rcases (by omega : k = 0 ∨ k = 1) with rfl | rfl <;> decide, .inr ⟨rfl, by rw [c2_nat]; exact c2_ord⟩⟩⟩⟩
theorem c2_sm : Sm 2 2 c2 := fun k hk => by rcases (by omega : k = 0 ∨ k = 1) with rfl | rfl <;> decide
theorem hi_of {g : Nat → Nat} {s p u : Nat} (hu : up g p = u) (h1 : s.testBit p = true) (h2 : s &&& u = s) : Hi g s p :=
  ⟨h1, fun k hk => by
    have : (s &&& u).testBit k = true := by rw [h2]; exact hk
    rw [Nat.testBit_and, Bool.and_eq_true] at this
    rw [hu]; exact this.2⟩
theorem c2_mt {x y : Nat} (hx : x < 2) (hy : y < 2) : Mt c2 x y (min x y) := by
  rcases (by omega : x = 0 ∨ x = 1) with rfl | rfl <;> rcases (by omega : y = 0 ∨ y = 1) with rfl | rfl <;> exact hi_of rfl (by decide) (by decide)
theorem d2_mt {x y : Nat} (hx : x < 2) (hy : y < 2) : Mt (trn c2 2) x y (max x y) := by
  rcases (by omega : x = 0 ∨ x = 1) with rfl | rfl <;> rcases (by omega : y = 0 ∨ y = 1) with rfl | rfl <;> exact hi_of rfl (by decide) (by decide)
theorem cm_is (x y : Nat) (hx : x < 2) (hy : y < 2) : mF c2 x y = min x y := mF_eq (by omega) c2_sm c2_ord hx (c2_mt hx hy)
theorem cj_is (x y : Nat) (hx : x < 2) (hy : y < 2) : mF (trn c2 2) x y = max x y := mF_eq (by omega) (trn_sm _ _) (trn_ord (by omega) c2_sm c2_ord) hx (d2_mt hx hy)
/-- A table as it comes in. -/
theorem Tb.rr {w : World} {b off n : Nat} {R : Nat → Nat × Nat × Nat} {m : Nat → Nat → Nat} (h : Tb w b off n R m) (hn : n ≤ maxLen) : RR w (some ⟨b, off, none⟩) n (fun x => (some ⟨(R x).1, (R x).2.1, none⟩, n, (R x).2.2)) (fun x y => (m x y : Nat)) :=
  fun k hk => ⟨b, off, rfl, (h k hk).1, hn, h.row hk⟩
theorem nat2_cast (m : Nat → Nat → Nat) : nat2 (fun x y => (m x y : Nat)) = m := by funext x y; simp [nat2]
theorem LCk.of {n : Nat} {SA SB : Nat → Option Addr × Nat × Nat} {m j : Nat → Nat → Nat} (h1 : 1 ≤ n) (h40 : n ≤ 40) (ha : ∀ x, x < n → (SA x).2.1 = n) (hb : ∀ x, x < n → (SB x).2.1 = n) (hL : Lat n m j) : LCk n n SA (fun x y => (m x y : Nat)) n SB (fun x y => (j x y : Nat)) 0 := by
  refine .inr ⟨⟨by omega, by omega⟩, .inr ⟨⟨⟨rfl, fun k hk => by rw [ha k hk]⟩, rfl, fun k hk => by rw [hb k hk]⟩, .inr ⟨⟨fun x hx y hy => ?_, fun x hx y hy => ?_⟩, .inr ⟨rfl, ?_, ?_⟩⟩⟩⟩
  · have := hL.im x y hx (by rw [ha x hx] at hy; exact hy); show 0 ≤ ((m x y : Nat) : Int) ∧ ((m x y : Nat) : Int) < (n : Int); omega
  · have := hL.ij x y hx (by rw [hb x hx] at hy; exact hy); show 0 ≤ ((j x y : Nat) : Int) ∧ ((j x y : Nat) : Int) < (n : Int); omega
  · rw [nat2_cast, nat2_cast]; exact hL.lm
  · rw [nat2_cast, nat2_cast]; exact hL.lj
theorem lat2 : Lat 2 (fun x y => min x y) (fun x y => max x y) := by
  refine ⟨fun x y hx hy => by omega, fun x y hx hy => by omega, lws_iff.2 fun x y z hx hy hz => ?_, lws_iff.2 fun x y z hx hy hz => ?_⟩ <;> refine ⟨by omega, by omega, by omega, by omega⟩
theorem dis2 : All3 2 (disB (fun x y => min x y) (fun x y => max x y)) := fun x y z hx hy hz => by
  unfold disB; rw [beq_iff_eq]; show min x (max y z) = max (min x y) (min x z); omega

set_option maxHeartbeats 4000000 in
theorem latticeBegun_any (w : World) (hT : Tab w) :
    Calls Tryd.prog 9 #[] w fun e w' => e = .returned (.bool true) ∧ Below w.heap.size w w' := by
  have B1 : Below w.heap.size w (w.alloc (.cells #[.int .i64 0, .int .i64 1] 3)) := (Below.refl _ _).alloc (Nat.le_refl _) _
  have HB1 : Hid (Below w.heap.size w (w.alloc (.cells #[.int .i64 0, .int .i64 1] 3))) := B1
  have HR : Hid (Row (w.alloc (.cells #[.int .i64 0, .int .i64 1] 3)) (some ⟨w.heap.size, 0, none⟩) 2 (fun k => (c2 k : Nat))) := fun k hk => ⟨_, _, rfl, by
    rcases (by omega : k = 0 ∨ k = 1) with rfl | rfl <;> simp [c2]⟩
  have HT1 : Hid (Tab (w.alloc (.cells #[.int .i64 0, .int .i64 1] 3))) := hT.step B1
  clear hT B1
  go_enter Tryd.func9, Tryd.ntmps9
  go_wp2_with fail
  refine (tables2_any 2 (some ⟨w.heap.size, 0, none⟩) 2 2 (fun k => (c2 k : Nat)) _ (by unfold maxLen; omega) HR.out HT1.out).mono ?_
  rintro e w1 ⟨⟨c, x, ok, hc, rfl, hx⟩, hb1⟩
  obtain rfl := Chk.unique hc c2_chk
  have HB2 : Hid (Below w.heap.size w w1) := Below.then HB1.out hb1
  rw [c2_nat] at hx
  have hall : 1 ≤ 2 ∧ AllMt c2 2 ∧ AllMt (trn c2 2) 2 := ⟨by omega, fun x y hx hy => ⟨_, c2_mt hx hy⟩, fun x y hx hy => ⟨_, d2_mt hx hy⟩⟩
  obtain ⟨rfl, b, cb, R, b', cb', R', rfl, t1, t2⟩ : ok = true ∧ ∃ b cb R b' cb' R', x = .agg #[.int .i64 (2 : Nat), .slice (some ⟨b, 0, none⟩) 2 cb, .slice (some ⟨b', 0, none⟩) 2 cb'] ∧ Tb w1 b 0 2 R (mF c2) ∧ Tb w1 b' 0 2 R' (mF (trn c2 2)) := by
    rcases hx with ⟨h0, _⟩ | ⟨_, ⟨_, _, hno⟩ | ⟨hok, _, h⟩⟩
    · exact absurd rfl h0
    · exact absurd hall hno
    · exact ⟨hok, h⟩
  clear hx hall hc
  have B2 : Below w1.heap.size w1 (w1.alloc (.cells #[.int .i64 (2 : Nat), .slice (some ⟨b, 0, none⟩) 2 cb, .slice (some ⟨b', 0, none⟩) 2 cb'] 24)) := (Below.refl _ _).alloc (Nat.le_refl _) _
  have L2 := LB.new w1 (2 : Nat) (some ⟨b, 0, none⟩) 2 cb (some ⟨b', 0, none⟩) 2 cb'
  have HB3 : Hid (Below w.heap.size w (w1.alloc (.cells #[.int .i64 (2 : Nat), .slice (some ⟨b, 0, none⟩) 2 cb, .slice (some ⟨b', 0, none⟩) 2 cb'] 24))) := Below.then HB2.out B2
  have HS1 := t1.step B2
  have HS2 := t2.step B2
  clear t1 t2 B2 HB2 hb1 HT1 HR HB1
  go_wp2_with fail
  refine (pair_any _).mono ?_
  rintro e w3 ⟨⟨px, rfl, b3, b4, R3, R4, rfl, p1, p2⟩, hb3⟩
  have L3 := L2.step hb3
  have HB4 : Hid (Below w.heap.size w w3) := Below.then HB3.out hb3
  have HS3 := HS1.step hb3
  have HS4 := HS2.step hb3
  clear HB3 hb3 L2 HS1 HS2
  go_wp2_with fail
  refine (distr_any 2 (some ⟨b3, 0, none⟩) 2 2 _ _ (some ⟨b4, 0, none⟩) 2 2 _ _ _ (by unfold maxLen; omega) (by unfold maxLen; omega) (p1.rr (by unfold maxLen; omega)) (p2.rr (by unfold maxLen; omega))).mono ?_
  rintro e w4 ⟨⟨c, v, hc, rfl, hv⟩, hb4⟩
  obtain rfl := LCk.one hc (LCk.of (n := 2) (by omega) (by omega) (fun _ _ => rfl) (fun _ _ => rfl) lat2)
  obtain rfl : v = true := by
    rcases hv with ⟨h0, _⟩ | ⟨_, h⟩
    · exact absurd rfl h0
    · rw [nat2_cast, nat2_cast] at h; exact h.2 dis2
  have L4 := L3.step hb4
  have HB5 : Hid (Below w.heap.size w w4) := Below.then HB4.out hb4
  have HT1 : Hid (Tb w4 b 0 2 R (mF c2)) := HS3.step hb4
  have HT2 : Hid (Tb w4 b' 0 2 R' (mF (trn c2 2))) := HS4.step hb4
  clear HB4 hb4 L3 HS3 HS4 hc hv p1 p2
  generalize w4 = W at *
  have l0 : ∀ w', Below W.heap.size W w' → w'.cell? ⟨w1.heap.size, 0, none⟩ = some (.int .i64 2) := fun w' h => cell_step h L4.1
  have l1 : ∀ w', Below W.heap.size W w' → w'.cell? ⟨w1.heap.size, 1, none⟩ = some (.slice (some ⟨b, 0, none⟩) 2 cb) := fun w' h => cell_step h L4.2.1
  have l2 : ∀ w', Below W.heap.size W w' → w'.cell? ⟨w1.heap.size, 2, none⟩ = some (.slice (some ⟨b', 0, none⟩) 2 cb') := fun w' h => cell_step h L4.2.2
  have KK : Below W.heap.size W W.drew := (Below.refl _ _).drew
  clear L4
  go_wp2_with fail
  refine wp_region_held_drew (S := (fun w' => Below W.heap.size W w')) (by kernel_rfl) (KK) (fun hHeld => ?_)
  refine wpAnyH_take (i := 0) (oi := { dst := some 18, op := Go.Op.move (Go.Operand.tmp 3), type := 26, pos := "lattice.go:357", after := #[], guard := none }) (v := ?_) rfl (by kernel_rfl) (by kernel_rfl) (by kernel_rfl) (fun _ _ _ h => h) (Or.inl ⟨by rfl, ?hy⟩) (by assumption) ?_
  case hy => (intro w9 hSw; (try dsimp only at hSw); go_simp; try with_reducible rfl)
  try simp only [Act.put, List.setIfInBounds_toArray, List.set_cons_zero, List.set_cons_succ]
  refine wpAnyH_take (i := 1) (oi := { dst := some 19, op := Go.Op.binOp Go.BinOp.eql 26 (Go.Operand.tmp 18) (Go.Operand.const (Go.Value.int Go.IntKind.i64 0)) 26, type := 4, pos := "lattice.go:357", after := #[{ on := 0, ground := Go.Ground.data }], guard := none }) (v := ?_) rfl (by kernel_rfl) (by kernel_rfl) (by kernel_rfl) (fun _ _ _ h => h) (Or.inl ⟨by rfl, ?hy⟩) (by assumption) ?_
  case hy => (intro w9 hSw; (try dsimp only at hSw); go_simp; try with_reducible rfl)
  try simp only [Act.put, List.setIfInBounds_toArray, List.set_cons_zero, List.set_cons_succ]
  refine wpAnyH_take (i := 2) (oi := { dst := some 20, op := Go.Op.move (Go.Operand.tmp 19), type := 4, pos := "lattice.go:357", after := #[{ on := 1, ground := Go.Ground.data }], guard := none }) (v := ?_) rfl (by kernel_rfl) (by kernel_rfl) (by kernel_rfl) (fun _ _ _ h => h) (Or.inl ⟨by rfl, ?hy⟩) (by assumption) ?_
  case hy => (intro w9 hSw; (try dsimp only at hSw); go_simp; try with_reducible rfl)
  try simp only [Act.put, List.setIfInBounds_toArray, List.set_cons_zero, List.set_cons_succ]
  refine wpAnyH_take (i := 3) (oi := { dst := some 21, op := Go.Op.move (Go.Operand.tmp 2), type := 4, pos := "lattice.go:357", after := #[{ on := 2, ground := Go.Ground.guard }], guard := some (2, true) }) (v := ?_) rfl (by kernel_rfl) (by kernel_rfl) (by kernel_rfl) (fun _ _ _ h => h) (Or.inl ⟨by rfl, ?hy⟩) (by assumption) ?_
  case hy => (intro w9 hSw; (try dsimp only at hSw); go_simp; try with_reducible rfl)
  try simp only [Act.put, List.setIfInBounds_toArray, List.set_cons_zero, List.set_cons_succ]
  refine wpAnyH_take (i := 4) (oi := { dst := some 22, op := Go.Op.pick (Go.Operand.tmp 20) (Go.Operand.tmp 21) (Go.Operand.const (Go.Value.bool false)), type := 4, pos := "lattice.go:357", after := #[{ on := 2, ground := Go.Ground.data }, { on := 3, ground := Go.Ground.data }], guard := none }) (v := ?_) rfl (by kernel_rfl) (by kernel_rfl) (by kernel_rfl) (fun _ _ _ h => h) (Or.inl ⟨by rfl, ?hy⟩) (by assumption) ?_
  case hy => (intro w9 hSw; (try dsimp only at hSw); go_simp; try with_reducible rfl)
  try simp only [Act.put, List.setIfInBounds_toArray, List.set_cons_zero, List.set_cons_succ]
  refine wpAnyH_take (i := 5) (oi := { dst := some 23, op := Go.Op.move (Go.Operand.tmp 22), type := 4, pos := "lattice.go:357", after := #[{ on := 4, ground := Go.Ground.data }, { on := 2, ground := Go.Ground.chain }], guard := none }) (v := ?_) rfl (by kernel_rfl) (by kernel_rfl) (by kernel_rfl) (fun _ _ _ h => h) (Or.inl ⟨by rfl, ?hy⟩) (by assumption) ?_
  case hy => (intro w9 hSw; (try dsimp only at hSw); go_simp; try with_reducible rfl)
  try simp only [Act.put, List.setIfInBounds_toArray, List.set_cons_zero, List.set_cons_succ]
  refine wpAnyH_take (i := 6) (oi := { dst := some 24, op := Go.Op.load 24 (Go.Operand.tmp 1), type := 24, pos := "lattice.go:357", after := #[{ on := 5, ground := Go.Ground.guard }], guard := some (5, true) }) (v := ?_) rfl (by kernel_rfl) (by kernel_rfl) (by kernel_rfl) (fun _ _ _ h => h) (Or.inl ⟨by rfl, ?hy⟩) (by assumption) ?_
  case hy => (intro w9 hSw; (try dsimp only at hSw); go_simp; try with_reducible rfl)
  try simp only [Act.put, List.setIfInBounds_toArray, List.set_cons_zero, List.set_cons_succ]
  refine wpAnyH_ready (rs := [7]) (by kernel_rfl) (by simp) ?_
  refine AllReadyH.cons (o := { dst := some 25, op := Go.Op.call { callee := Go.Callee.value (Go.Operand.func 27), args := #[], argTypes := #[] }, type := 24, pos := "lattice.go:357", after := #[{ on := 5, ground := Go.Ground.chain }, { on := 5, ground := Go.Ground.guard }], guard := some (5, true) }) rfl (fun K hK => ?_) AllReadyH.nil
  go_simp
  refine (pair_any _).mono ?_
  rintro e w5 ⟨⟨px, rfl, b5, b6, R5, R6, rfl, p1, p2⟩, hb5⟩
  refine hK.out _ _ ?_ (fun hHeld => ?_)
  · first | assumption | exact Below.then (by assumption) (by assumption)
  clear hK K
  try simp only [Act.put, List.setIfInBounds_toArray, List.set_cons_zero, List.set_cons_succ]
  refine wpAnyH_ready (rs := [8]) (by kernel_rfl) (by simp) ?_
  refine AllReadyH.cons (o := { dst := some 26, op := Go.Op.call { callee := Go.Callee.value (Go.Operand.func 28), args := #[Go.Operand.tmp 24, Go.Operand.tmp 25], argTypes := #[24, 24] }, type := 4, pos := "lattice.go:357", after := #[{ on := 6, ground := Go.Ground.data }, { on := 7, ground := Go.Ground.data }, { on := 7, ground := Go.Ground.chain }, { on := 5, ground := Go.Ground.guard }], guard := some (5, true) }) rfl (fun K hK => ?_) AllReadyH.nil
  go_simp
  refine (sameLattice_true 2 _ _ _ _ 2 2 _ _ _ _ _ (by unfold maxLen; omega) (by unfold maxLen; omega) (EqT.of (HT1.out.step (by first | assumption | exact Below.then (by assumption) (by assumption))) p1 (by unfold maxLen; omega) cm_is) (EqT.of (HT2.out.step (by first | assumption | exact Below.then (by assumption) (by assumption))) p2 (by unfold maxLen; omega) cj_is)).mono ?_
  rintro e w6 ⟨rfl, hb6⟩
  refine hK.out _ _ ?_ (fun hHeld => ?_)
  · first | assumption | exact Below.then (by assumption) (by assumption)
  clear hK K
  try simp only [Act.put, List.setIfInBounds_toArray, List.set_cons_zero, List.set_cons_succ]
  refine wpAnyH_take (i := 9) (oi := { dst := some 27, op := Go.Op.pick (Go.Operand.tmp 23) (Go.Operand.tmp 26) (Go.Operand.const (Go.Value.bool false)), type := 4, pos := "lattice.go:357", after := #[{ on := 5, ground := Go.Ground.data }, { on := 8, ground := Go.Ground.data }], guard := none }) (v := ?_) rfl (by kernel_rfl) (by kernel_rfl) (by kernel_rfl) (fun _ _ _ h => h) (Or.inl ⟨by rfl, ?hy⟩) (by assumption) ?_
  case hy => (intro w9 hSw; (try dsimp only at hSw); go_simp; try with_reducible rfl)
  try simp only [Act.put, List.setIfInBounds_toArray, List.set_cons_zero, List.set_cons_succ]
  refine wpAnyH_take (i := 10) (oi := { dst := some 28, op := Go.Op.move (Go.Operand.tmp 27), type := 4, pos := "lattice.go:357", after := #[{ on := 9, ground := Go.Ground.data }, { on := 8, ground := Go.Ground.chain }], guard := none }) (v := ?_) rfl (by kernel_rfl) (by kernel_rfl) (by kernel_rfl) (fun _ _ _ h => h) (Or.inl ⟨by rfl, ?hy⟩) (by assumption) ?_
  case hy => (intro w9 hSw; (try dsimp only at hSw); go_simp; try with_reducible rfl)
  try simp only [Act.put, List.setIfInBounds_toArray, List.set_cons_zero, List.set_cons_succ]
  refine wpAnyH_take (i := 11) (oi := { dst := some 29, op := Go.Op.move (Go.Operand.tmp 5), type := 26, pos := "lattice.go:357", after := #[{ on := 10, ground := Go.Ground.guard }], guard := some (10, true) }) (v := ?_) rfl (by kernel_rfl) (by kernel_rfl) (by kernel_rfl) (fun _ _ _ h => h) (Or.inl ⟨by rfl, ?hy⟩) (by assumption) ?_
  case hy => (intro w9 hSw; (try dsimp only at hSw); go_simp; try with_reducible rfl)
  try simp only [Act.put, List.setIfInBounds_toArray, List.set_cons_zero, List.set_cons_succ]
  refine wpAnyH_take (i := 12) (oi := { dst := some 30, op := Go.Op.binOp Go.BinOp.eql 26 (Go.Operand.tmp 29) (Go.Operand.const (Go.Value.int Go.IntKind.i64 0)) 26, type := 4, pos := "lattice.go:357", after := #[{ on := 11, ground := Go.Ground.data }, { on := 10, ground := Go.Ground.guard }], guard := some (10, true) }) (v := ?_) rfl (by kernel_rfl) (by kernel_rfl) (by kernel_rfl) (fun _ _ _ h => h) (Or.inl ⟨by rfl, ?hy⟩) (by assumption) ?_
  case hy => (intro w9 hSw; (try dsimp only at hSw); go_simp; try with_reducible rfl)
  try simp only [Act.put, List.setIfInBounds_toArray, List.set_cons_zero, List.set_cons_succ]
  refine wpAnyH_take (i := 13) (oi := { dst := some 31, op := Go.Op.pick (Go.Operand.tmp 28) (Go.Operand.tmp 30) (Go.Operand.const (Go.Value.bool false)), type := 4, pos := "lattice.go:357", after := #[{ on := 10, ground := Go.Ground.data }, { on := 12, ground := Go.Ground.data }], guard := none }) (v := ?_) rfl (by kernel_rfl) (by kernel_rfl) (by kernel_rfl) (fun _ _ _ h => h) (Or.inl ⟨by rfl, ?hy⟩) (by assumption) ?_
  case hy => (intro w9 hSw; (try dsimp only at hSw); go_simp; try with_reducible rfl)
  try simp only [Act.put, List.setIfInBounds_toArray, List.set_cons_zero, List.set_cons_succ]
  refine wpAnyH_take (i := 14) (oi := { dst := some 32, op := Go.Op.move (Go.Operand.tmp 31), type := 4, pos := "lattice.go:357", after := #[{ on := 13, ground := Go.Ground.data }, { on := 10, ground := Go.Ground.chain }], guard := none }) (v := ?_) rfl (by kernel_rfl) (by kernel_rfl) (by kernel_rfl) (fun _ _ _ h => h) (Or.inl ⟨by rfl, ?hy⟩) (by assumption) ?_
  case hy => (intro w9 hSw; (try dsimp only at hSw); go_simp; try with_reducible rfl)
  try simp only [Act.put, List.setIfInBounds_toArray, List.set_cons_zero, List.set_cons_succ]
  refine wpAnyH_take (i := 15) (oi := { dst := some 33, op := Go.Op.move (Go.Operand.tmp 4), type := 4, pos := "lattice.go:357", after := #[{ on := 14, ground := Go.Ground.guard }], guard := some (14, true) }) (v := ?_) rfl (by kernel_rfl) (by kernel_rfl) (by kernel_rfl) (fun _ _ _ h => h) (Or.inl ⟨by rfl, ?hy⟩) (by assumption) ?_
  case hy => (intro w9 hSw; (try dsimp only at hSw); go_simp; try with_reducible rfl)
  try simp only [Act.put, List.setIfInBounds_toArray, List.set_cons_zero, List.set_cons_succ]
  refine wpAnyH_take (i := 16) (oi := { dst := some 34, op := Go.Op.pick (Go.Operand.tmp 32) (Go.Operand.tmp 33) (Go.Operand.const (Go.Value.bool false)), type := 4, pos := "lattice.go:357", after := #[{ on := 14, ground := Go.Ground.data }, { on := 15, ground := Go.Ground.data }], guard := none }) (v := ?_) rfl (by kernel_rfl) (by kernel_rfl) (by kernel_rfl) (fun _ _ _ h => h) (Or.inl ⟨by rfl, ?hy⟩) (by assumption) ?_
  case hy => (intro w9 hSw; (try dsimp only at hSw); go_simp; try with_reducible rfl)
  try simp only [Act.put, List.setIfInBounds_toArray, List.set_cons_zero, List.set_cons_succ]
  refine wpAnyH_take (i := 17) (oi := { dst := some 35, op := Go.Op.move (Go.Operand.tmp 34), type := 4, pos := "lattice.go:357", after := #[{ on := 16, ground := Go.Ground.data }, { on := 14, ground := Go.Ground.chain }], guard := none }) (v := ?_) rfl (by kernel_rfl) (by kernel_rfl) (by kernel_rfl) (fun _ _ _ h => h) (Or.inl ⟨by rfl, ?hy⟩) (by assumption) ?_
  case hy => (intro w9 hSw; (try dsimp only at hSw); go_simp; try with_reducible rfl)
  try simp only [Act.put, List.setIfInBounds_toArray, List.set_cons_zero, List.set_cons_succ]
  refine wpAnyH_take (i := 18) (oi := { dst := some 36, op := Go.Op.build 24 #[], type := 24, pos := "lattice.go:357", after := #[{ on := 17, ground := Go.Ground.guard }], guard := some (17, true) }) (v := ?_) rfl (by kernel_rfl) (by kernel_rfl) (by kernel_rfl) (fun _ _ _ h => h) (Or.inl ⟨by rfl, ?hy⟩) (by assumption) ?_
  case hy => (intro w9 hSw; (try dsimp only at hSw); go_simp; try with_reducible rfl)
  try simp only [Act.put, List.setIfInBounds_toArray, List.set_cons_zero, List.set_cons_succ]
  refine wpAnyH_ready (rs := [19]) (by kernel_rfl) (by simp) ?_
  refine AllReadyH.cons (o := { dst := some 37, op := Go.Op.call { callee := Go.Callee.value (Go.Operand.func 10), args := #[Go.Operand.tmp 36], argTypes := #[24] }, type := 26, pos := "lattice.go:357", after := #[{ on := 18, ground := Go.Ground.data }, { on := 17, ground := Go.Ground.chain }, { on := 17, ground := Go.Ground.guard }], guard := some (17, true) }) rfl (fun K hK => ?_) AllReadyH.nil
  go_simp
  refine (lCheck_any 0 none 0 0 (fun _ => (none, 0, 0)) (fun _ _ => 0) none 0 0 (fun _ => (none, 0, 0)) (fun _ _ => 0) _ (Nat.zero_le _) (Nat.zero_le _) (fun k hk => absurd hk (Nat.not_lt_zero _)) (fun k hk => absurd hk (Nat.not_lt_zero _))).mono ?_
  rintro e w7 ⟨⟨c7, rfl, hc7⟩, hb7⟩
  obtain rfl := LCk.one hc7 (.inl ⟨rfl, by omega⟩)
  refine hK.out _ _ ?_ (fun hHeld => ?_)
  · first | assumption | exact Below.then (by assumption) (by assumption)
  clear hK K
  try simp only [Act.put, List.setIfInBounds_toArray, List.set_cons_zero, List.set_cons_succ]
  refine wpAnyH_take (i := 20) (oi := { dst := some 38, op := Go.Op.binOp Go.BinOp.eql 26 (Go.Operand.tmp 37) (Go.Operand.const (Go.Value.int Go.IntKind.i64 2)) 26, type := 4, pos := "lattice.go:357", after := #[{ on := 19, ground := Go.Ground.data }, { on := 17, ground := Go.Ground.guard }], guard := some (17, true) }) (v := ?_) rfl (by kernel_rfl) (by kernel_rfl) (by kernel_rfl) (fun _ _ _ h => h) (Or.inl ⟨by rfl, ?hy⟩) (by assumption) ?_
  case hy => (intro w9 hSw; (try dsimp only at hSw); go_simp; try with_reducible rfl)
  try simp only [Act.put, List.setIfInBounds_toArray, List.set_cons_zero, List.set_cons_succ]
  refine wpAnyH_take (i := 21) (oi := { dst := some 39, op := Go.Op.pick (Go.Operand.tmp 35) (Go.Operand.tmp 38) (Go.Operand.const (Go.Value.bool false)), type := 4, pos := "lattice.go:357", after := #[{ on := 17, ground := Go.Ground.data }, { on := 20, ground := Go.Ground.data }], guard := none }) (v := ?_) rfl (by kernel_rfl) (by kernel_rfl) (by kernel_rfl) (fun _ _ _ h => h) (Or.inl ⟨by rfl, ?hy⟩) (by assumption) ?_
  case hy => (intro w9 hSw; (try dsimp only at hSw); go_simp; try with_reducible rfl)
  try simp only [Act.put, List.setIfInBounds_toArray, List.set_cons_zero, List.set_cons_succ]
  refine wpAnyH_take (i := 22) (oi := { dst := some 0, op := Go.Op.assign (Go.Operand.tmp 39), type := 4, pos := "lattice.go:357", after := #[{ on := 21, ground := Go.Ground.data }, { on := 19, ground := Go.Ground.chain }, { on := 0, ground := Go.Ground.phase }, { on := 1, ground := Go.Ground.phase }, { on := 2, ground := Go.Ground.phase }, { on := 3, ground := Go.Ground.phase }, { on := 4, ground := Go.Ground.phase }, { on := 5, ground := Go.Ground.phase }, { on := 6, ground := Go.Ground.phase }, { on := 7, ground := Go.Ground.phase }, { on := 8, ground := Go.Ground.phase }, { on := 9, ground := Go.Ground.phase }, { on := 10, ground := Go.Ground.phase }, { on := 11, ground := Go.Ground.phase }, { on := 12, ground := Go.Ground.phase }, { on := 13, ground := Go.Ground.phase }, { on := 14, ground := Go.Ground.phase }, { on := 15, ground := Go.Ground.phase }, { on := 16, ground := Go.Ground.phase }, { on := 17, ground := Go.Ground.phase }, { on := 18, ground := Go.Ground.phase }, { on := 19, ground := Go.Ground.phase }, { on := 20, ground := Go.Ground.phase }, { on := 21, ground := Go.Ground.phase }], guard := none }) (v := ?_) rfl (by kernel_rfl) (by kernel_rfl) (by kernel_rfl) (fun _ _ _ h => h) (Or.inl ⟨by rfl, ?hy⟩) (by assumption) ?_
  case hy => (intro w9 hSw; (try dsimp only at hSw); go_simp; try with_reducible rfl)
  try simp only [Act.put, List.setIfInBounds_toArray, List.set_cons_zero]
  refine wpAnyH_done (by kernel_rfl) ?_ _
  try simp only [Act.put, List.setIfInBounds_toArray, List.set_cons_zero, List.set_cons_succ]
  have hb8 : Below W.heap.size W w7 := by first | assumption | exact hHeld
  have HB8 : Hid (Below w.heap.size w w7) := Below.then HB5.out hb8
  clear hb8
  go_wp2_with fail
  go_ret
  exact ⟨rfl, HB8.out⟩
end Go.Proofs.YtjcinkippaknnaaDoor
