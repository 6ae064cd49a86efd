/-
  What the reference's SameLattice answers of two lattices that are the same: true. No other condition.
-/
import Derived.Deep.RegionHeld3
import Derived.Test.YthhnngmfbbljaaaGreatLaws
namespace Go.Proofs.YthhnngmfbbljaaaGreat
set_option maxRecDepth 100000
open Go.RowKit

/-- Two tables with the same rows. -/
def EqT (w : World) (a a' : Option Addr) (m : Nat) : Prop := ∀ k, k < m → ∃ b off b' off' r r' l c c' h, a = some ⟨b, off, none⟩ ∧ a' = some ⟨b', off', none⟩ ∧ w.cell? ⟨b, off + k, none⟩ = some (.slice r l c) ∧ w.cell? ⟨b', off' + k, none⟩ = some (.slice r' l c') ∧ l ≤ maxLen ∧ Row w r l h ∧ Row w r' l h
theorem EqT.step {w w' : World} {a a' : Option Addr} {m : Nat} (h : EqT w a a' m) (hb : Below w.heap.size w w') : EqT w' a a' m := fun k hk => by
  obtain ⟨b, off, b', off', r, r', l, c, c', f, e1, e2, h1, h2, h3, h4, h5⟩ := h k hk
  exact ⟨b, off, b', off', r, r', l, c, c', f, e1, e2, cell_step hb h1, cell_step hb h2, h3, h4.below hb, h5.below hb⟩
theorem EqT.nil (w : World) : EqT w none none 0 := fun _ hk => absurd hk (Nat.not_lt_zero _)
theorem Tb.row {w : World} {b off n : Nat} {R : Nat → Nat × Nat × Nat} {m : Nat → Nat → Nat} (h : Tb w b off n R m) {x : Nat} (hx : x < n) : Row w (some ⟨(R x).1, (R x).2.1, none⟩) n (fun y => (m x y : Nat)) :=
  fun y hy => ⟨_, _, rfl, (h x hx).2 y hy⟩
theorem EqT.of {w : World} {b off b' off' n : Nat} {R R' : Nat → Nat × Nat × Nat} {m m' : Nat → Nat → Nat} (h : Tb w b off n R m) (h' : Tb w b' off' n R' m') (hn : n ≤ maxLen) (e : ∀ x y, x < n → y < n → m x y = m' x y) : EqT w (some ⟨b, off, none⟩) (some ⟨b', off', none⟩) n := fun x hx =>
  ⟨b, off, b', off', _, _, n, _, _, fun y => (m x y : Nat), rfl, rfl, (h x hx).1, (h' x hx).1, hn, h.row hx, fun y hy => ⟨_, _, rfl, by have q := (h' x hx).2 y hy; rw [← e x y hx hy] at q; exact q⟩⟩

set_option maxHeartbeats 4000000 in
theorem sameLattice_true (n : Int) (a b a' b' : Option Addr) (la lb ca cb ca' cb' : Nat) (w : World) (hla : la ≤ maxLen) (hlb : lb ≤ maxLen) (h1 : EqT w a a' la) (h2 : EqT w b b' lb) :
    Calls Tryz.prog 16 #[.agg #[.int .i64 n, .slice a la ca, .slice b lb cb], .agg #[.int .i64 n, .slice a' la ca', .slice b' lb cb']] w fun e w' => e = .returned (.bool true) ∧ Below w.heap.size w w' := by
  unfold maxLen at hla hlb
  have B1 : Below w.heap.size w (w.alloc (.cells #[.int .i64 n, .slice a la ca, .slice b lb cb] 27)) := (Below.refl _ _).alloc (Nat.le_refl _) _
  have B2 : Below (w.alloc (.cells #[.int .i64 n, .slice a la ca, .slice b lb cb] 27)).heap.size (w.alloc (.cells #[.int .i64 n, .slice a la ca, .slice b lb cb] 27)) ((w.alloc (.cells #[.int .i64 n, .slice a la ca, .slice b lb cb] 27)).alloc (.cells #[.int .i64 n, .slice a' la ca', .slice b' lb cb'] 27)) := (Below.refl _ _).alloc (Nat.le_refl _) _
  have L0 := (LB.new w n a la ca b lb cb).step B2
  have L1 := LB.new (w.alloc (.cells #[.int .i64 n, .slice a la ca, .slice b lb cb] 27)) n a' la ca' b' lb cb'
  rw [World.size_alloc] at L1
  have HB2 : Hid (Below w.heap.size w _) := Below.then B1 B2
  have HE1 : Hid (EqT _ a a' la) := h1.step HB2.out
  have HE2 : Hid (EqT _ b b' lb) := h2.step HB2.out
  have k0 := L0.1
  have k1 := L0.2.1
  have k2 := L0.2.2
  have m0 := L1.1
  have m1 := L1.2.1
  have m2 := L1.2.2
  clear h1 h2 B1 B2
  go_enter Tryz.func16, Tryz.ntmps16
  go_wp2_with fail
  generalize (w.alloc (.cells #[.int .i64 n, .slice a la ca, .slice b lb cb] 27)).alloc (.cells #[.int .i64 n, .slice a' la ca', .slice b' lb cb'] 27) = W at *
  clear k0 k1 k2 m0 m1 m2
  go_loopw [5] (fun i wx => ∃ k : Nat, k ≤ la ∧ i = .int .i64 k ∧ Hid (Below W.heap.size W wx)) (fun i _ => la - (intOf i).toNat)
  case atStart => exact ⟨0, Nat.zero_le _, rfl, Below.refl _ _⟩
  case round =>
    obtain ⟨k, hk, rfl, HW⟩ := hrel
    have k1 := (L0.step HW.out).2.1
    by_cases hlt : k < la
    · obtain ⟨b1, o1, b2, o2, r, r', l, c, c', h, rfl, rfl, q1, q2, hl, q3, q4⟩ := (HE1.out.step HW.out) k hlt
      have hlt' : (k : Int) < (la : Int) := by omega
      have l1 : ∀ w', Below wr.heap.size wr w' → w'.cell? ⟨w.heap.size, 1, none⟩ = some (.slice (some ⟨b1, o1, none⟩) la ca) := fun w' h => cell_step h k1
      have l2 : ∀ w', Below wr.heap.size wr w' → w'.cell? ⟨w.heap.size + 1, 1, none⟩ = some (.slice (some ⟨b2, o2, none⟩) la ca') := fun w' h => cell_step h (L1.step HW.out).2.1
      have l3 : ∀ w', Below wr.heap.size wr w' → w'.cell? ⟨b1, o1 + k, none⟩ = some (.slice r l c) := fun w' h => cell_step h q1
      have l4 : ∀ w', Below wr.heap.size wr w' → w'.cell? ⟨b2, o2 + k, none⟩ = some (.slice r' l c') := fun w' h => cell_step h q2
      have HR1 : Hid (∀ w', Below wr.heap.size wr w' → Row w' r l h) := fun w' hh => q3.below hh
      have HR2 : Hid (∀ w', Below wr.heap.size wr w' → Row w' r' l h) := fun w' hh => q4.below hh
      have KK : Below wr.heap.size wr wr.drew := (Below.refl _ _).drew
      clear q1 q2 q3 q4
      go_wp2_with fail
      refine wp_region_held_drew (S := (fun w' => Below wr.heap.size wr w')) (by kernel_rfl) (KK) (fun hHeld => ?_)
      refine wpAnyH_take (i := 0) (oi := { dst := some 37, op := Go.Op.fieldAddr 27 (Go.Operand.tmp 2) 1, type := 0, pos := "lattice.go:359", after := #[], guard := none }) (v := ?_) rfl (by kernel_rfl) (by kernel_rfl) (by kernel_rfl) (fun _ _ _ h => h) (Or.inl ⟨by rfl, ?hy⟩) (by assumption) ?_
      case hy => (intro w9 hSw; (try dsimp only at hSw); go_simp; try with_reducible rfl)
      try simp only [Act.put, List.setIfInBounds_toArray, List.set_cons_zero, List.set_cons_succ]
      refine wpAnyH_take (i := 1) (oi := { dst := some 38, op := Go.Op.load 25 (Go.Operand.tmp 37), type := 25, pos := "lattice.go:359", after := #[{ on := 0, ground := Go.Ground.data }], guard := none }) (v := ?_) rfl (by kernel_rfl) (by kernel_rfl) (by kernel_rfl) (fun _ _ _ h => h) (Or.inl ⟨by rfl, ?hy⟩) (by assumption) ?_
      case hy => (intro w9 hSw; (try dsimp only at hSw); go_simp; try with_reducible rfl)
      try simp only [Act.put, List.setIfInBounds_toArray, List.set_cons_zero, List.set_cons_succ]
      refine wpAnyH_take (i := 2) (oi := { dst := some 39, op := Go.Op.move (Go.Operand.tmp 5), type := 3, pos := "lattice.go:359", after := #[], guard := none }) (v := ?_) rfl (by kernel_rfl) (by kernel_rfl) (by kernel_rfl) (fun _ _ _ h => h) (Or.inl ⟨by rfl, ?hy⟩) (by assumption) ?_
      case hy => (intro w9 hSw; (try dsimp only at hSw); go_simp; try with_reducible rfl)
      try simp only [Act.put, List.setIfInBounds_toArray, List.set_cons_zero, List.set_cons_succ]
      refine wpAnyH_take (i := 3) (oi := { dst := some 40, op := Go.Op.indexAddr 25 (Go.Operand.tmp 38) (Go.Operand.tmp 39), type := 0, pos := "lattice.go:359", after := #[{ on := 1, ground := Go.Ground.data }, { on := 2, ground := Go.Ground.data }], guard := none }) (v := ?_) rfl (by kernel_rfl) (by kernel_rfl) (by kernel_rfl) (fun _ _ _ h => h) (Or.inl ⟨by rfl, ?hy⟩) (by assumption) ?_
      case hy => (intro w9 hSw; (try dsimp only at hSw); go_simp; try with_reducible rfl)
      try simp only [Act.put, List.setIfInBounds_toArray, List.set_cons_zero, List.set_cons_succ]
      refine wpAnyH_take (i := 4) (oi := { dst := some 41, op := Go.Op.load 22 (Go.Operand.tmp 40), type := 22, pos := "lattice.go:359", after := #[{ on := 3, ground := Go.Ground.data }], guard := none }) (v := ?_) rfl (by kernel_rfl) (by kernel_rfl) (by kernel_rfl) (fun _ _ _ h => h) (Or.inl ⟨by rfl, ?hy⟩) (by assumption) ?_
      case hy => (intro w9 hSw; (try dsimp only at hSw); go_simp; try with_reducible rfl)
      try simp only [Act.put, List.setIfInBounds_toArray, List.set_cons_zero, List.set_cons_succ]
      refine wpAnyH_take (i := 5) (oi := { dst := some 42, op := Go.Op.fieldAddr 27 (Go.Operand.tmp 3) 1, type := 0, pos := "lattice.go:359", after := #[], guard := none }) (v := ?_) rfl (by kernel_rfl) (by kernel_rfl) (by kernel_rfl) (fun _ _ _ h => h) (Or.inl ⟨by rfl, ?hy⟩) (by assumption) ?_
      case hy => (intro w9 hSw; (try dsimp only at hSw); go_simp; try with_reducible rfl)
      try simp only [Act.put, List.setIfInBounds_toArray, List.set_cons_zero, List.set_cons_succ]
      refine wpAnyH_take (i := 6) (oi := { dst := some 43, op := Go.Op.load 25 (Go.Operand.tmp 42), type := 25, pos := "lattice.go:359", after := #[{ on := 5, ground := Go.Ground.data }], guard := none }) (v := ?_) rfl (by kernel_rfl) (by kernel_rfl) (by kernel_rfl) (fun _ _ _ h => h) (Or.inl ⟨by rfl, ?hy⟩) (by assumption) ?_
      case hy => (intro w9 hSw; (try dsimp only at hSw); go_simp; try with_reducible rfl)
      try simp only [Act.put, List.setIfInBounds_toArray, List.set_cons_zero, List.set_cons_succ]
      refine wpAnyH_take (i := 7) (oi := { dst := some 44, op := Go.Op.move (Go.Operand.tmp 5), type := 3, pos := "lattice.go:359", after := #[], guard := none }) (v := ?_) rfl (by kernel_rfl) (by kernel_rfl) (by kernel_rfl) (fun _ _ _ h => h) (Or.inl ⟨by rfl, ?hy⟩) (by assumption) ?_
      case hy => (intro w9 hSw; (try dsimp only at hSw); go_simp; try with_reducible rfl)
      try simp only [Act.put, List.setIfInBounds_toArray, List.set_cons_zero, List.set_cons_succ]
      refine wpAnyH_take (i := 8) (oi := { dst := some 45, op := Go.Op.indexAddr 25 (Go.Operand.tmp 43) (Go.Operand.tmp 44), type := 0, pos := "lattice.go:359", after := #[{ on := 6, ground := Go.Ground.data }, { on := 7, ground := Go.Ground.data }], guard := none }) (v := ?_) rfl (by kernel_rfl) (by kernel_rfl) (by kernel_rfl) (fun _ _ _ h => h) (Or.inl ⟨by rfl, ?hy⟩) (by assumption) ?_
      case hy => (intro w9 hSw; (try dsimp only at hSw); go_simp; try with_reducible rfl)
      try simp only [Act.put, List.setIfInBounds_toArray, List.set_cons_zero, List.set_cons_succ]
      refine wpAnyH_take (i := 9) (oi := { dst := some 46, op := Go.Op.load 22 (Go.Operand.tmp 45), type := 22, pos := "lattice.go:359", after := #[{ on := 8, ground := Go.Ground.data }], guard := none }) (v := ?_) rfl (by kernel_rfl) (by kernel_rfl) (by kernel_rfl) (fun _ _ _ h => h) (Or.inl ⟨by rfl, ?hy⟩) (by assumption) ?_
      case hy => (intro w9 hSw; (try dsimp only at hSw); go_simp; try with_reducible rfl)
      try simp only [Act.put, List.setIfInBounds_toArray, List.set_cons_zero, List.set_cons_succ]
      refine wpAnyH_ready (rs := [10]) (by kernel_rfl) (by simp) ?_
      refine AllReadyH.cons (o := { dst := some 47, op := Go.Op.call { callee := Go.Callee.value (Go.Operand.func 25), args := #[Go.Operand.tmp 41, Go.Operand.tmp 46], argTypes := #[22, 22] }, type := 4, pos := "lattice.go:359", after := #[{ on := 4, ground := Go.Ground.data }, { on := 9, ground := Go.Ground.data }], guard := none }) rfl (fun K hK => ?_) AllReadyH.nil
      go_simp
      refine (same_any r r' l c l c' h h _ hl hl (HR1.out _ (by assumption)) (HR2.out _ (by assumption))).mono ?_
      rintro e w1 ⟨⟨q, rfl, hq⟩, hb1⟩
      obtain rfl : q = true := hq.2 ⟨rfl, fun _ _ => rfl⟩
      refine hK.out _ _ ?_ (fun hHeld => ?_)
      · first | assumption | exact Below.then (by assumption) (by assumption)
      clear hK K
      try simp only [Act.put, List.setIfInBounds_toArray, List.set_cons_zero, List.set_cons_succ]
      refine wpAnyH_take (i := 11) (oi := { dst := some 48, op := Go.Op.unOp Go.UnOp.not 4 (Go.Operand.tmp 47), type := 4, pos := "lattice.go:359", after := #[{ on := 10, ground := Go.Ground.data }], guard := none }) (v := ?_) rfl (by kernel_rfl) (by kernel_rfl) (by kernel_rfl) (fun _ _ _ h => h) (Or.inl ⟨by rfl, ?hy⟩) (by assumption) ?_
      case hy => (intro w9 hSw; (try dsimp only at hSw); go_simp; try with_reducible rfl)
      try simp only [Act.put, List.setIfInBounds_toArray, List.set_cons_zero, List.set_cons_succ]
      refine wpAnyH_done (by kernel_rfl) ?_ _
      try simp only [Act.put, List.setIfInBounds_toArray, List.set_cons_zero, List.set_cons_succ]
      have hb8 : Below wr.heap.size wr w1 := by first | assumption | exact hHeld
      have HW2 : Hid (Below W.heap.size W w1) := Below.then HW.out hb8
      clear hb8 l1 l2 l3 l4 KK
      go_wp2_with fail
      go_roundw
      case rel => exact ⟨k + 1, by omega, by go_num, HW2.out⟩
      case measure => simp [intOf]; omega
    · obtain rfl : k = la := by omega
      have k2 := (L0.step HW.out).2.2
      go_wp2_with fail
      clear k1 k2
      go_loopw [6] (fun i wx => ∃ k : Nat, k ≤ lb ∧ i = .int .i64 k ∧ Hid (Below W.heap.size W wx)) (fun i _ => lb - (intOf i).toNat)
      case atStart => exact ⟨0, Nat.zero_le _, rfl, HW.out⟩
      case round =>
        clear HW
        obtain ⟨y, hy, rfl, HW⟩ := hrel
        have k1 := (L0.step HW.out).2.2
        by_cases hlt : y < lb
        · obtain ⟨b1, o1, b2, o2, r, r', l, c, c', h, rfl, rfl, q1, q2, hl, q3, q4⟩ := (HE2.out.step HW.out) y hlt
          have hlt' : (y : Int) < (lb : Int) := by omega
          have l1 : ∀ w', Below wr.heap.size wr w' → w'.cell? ⟨w.heap.size, 2, none⟩ = some (.slice (some ⟨b1, o1, none⟩) lb cb) := fun w' h => cell_step h k1
          have l2 : ∀ w', Below wr.heap.size wr w' → w'.cell? ⟨w.heap.size + 1, 2, none⟩ = some (.slice (some ⟨b2, o2, none⟩) lb cb') := fun w' h => cell_step h (L1.step HW.out).2.2
          have l3 : ∀ w', Below wr.heap.size wr w' → w'.cell? ⟨b1, o1 + y, none⟩ = some (.slice r l c) := fun w' h => cell_step h q1
          have l4 : ∀ w', Below wr.heap.size wr w' → w'.cell? ⟨b2, o2 + y, none⟩ = some (.slice r' l c') := fun w' h => cell_step h q2
          have HR1 : Hid (∀ w', Below wr.heap.size wr w' → Row w' r l h) := fun w' hh => q3.below hh
          have HR2 : Hid (∀ w', Below wr.heap.size wr w' → Row w' r' l h) := fun w' hh => q4.below hh
          have KK : Below wr.heap.size wr wr.drew := (Below.refl _ _).drew
          clear q1 q2 q3 q4
          go_wp2_with fail
          refine wp_region_held_drew (S := (fun w' => Below wr.heap.size wr w')) (by kernel_rfl) (KK) (fun hHeld => ?_)
          refine wpAnyH_take (i := 0) (oi := { dst := some 56, op := Go.Op.fieldAddr 27 (Go.Operand.tmp 2) 2, type := 0, pos := "lattice.go:364", after := #[], guard := none }) (v := ?_) rfl (by kernel_rfl) (by kernel_rfl) (by kernel_rfl) (fun _ _ _ h => h) (Or.inl ⟨by rfl, ?hy⟩) (by assumption) ?_
          case hy => (intro w9 hSw; (try dsimp only at hSw); go_simp; try with_reducible rfl)
          try simp only [Act.put, List.setIfInBounds_toArray, List.set_cons_zero, List.set_cons_succ]
          refine wpAnyH_take (i := 1) (oi := { dst := some 57, op := Go.Op.load 25 (Go.Operand.tmp 56), type := 25, pos := "lattice.go:364", after := #[{ on := 0, ground := Go.Ground.data }], guard := none }) (v := ?_) rfl (by kernel_rfl) (by kernel_rfl) (by kernel_rfl) (fun _ _ _ h => h) (Or.inl ⟨by rfl, ?hy⟩) (by assumption) ?_
          case hy => (intro w9 hSw; (try dsimp only at hSw); go_simp; try with_reducible rfl)
          try simp only [Act.put, List.setIfInBounds_toArray, List.set_cons_zero, List.set_cons_succ]
          refine wpAnyH_take (i := 2) (oi := { dst := some 58, op := Go.Op.move (Go.Operand.tmp 6), type := 3, pos := "lattice.go:364", after := #[], guard := none }) (v := ?_) rfl (by kernel_rfl) (by kernel_rfl) (by kernel_rfl) (fun _ _ _ h => h) (Or.inl ⟨by rfl, ?hy⟩) (by assumption) ?_
          case hy => (intro w9 hSw; (try dsimp only at hSw); go_simp; try with_reducible rfl)
          try simp only [Act.put, List.setIfInBounds_toArray, List.set_cons_zero, List.set_cons_succ]
          refine wpAnyH_take (i := 3) (oi := { dst := some 59, op := Go.Op.indexAddr 25 (Go.Operand.tmp 57) (Go.Operand.tmp 58), type := 0, pos := "lattice.go:364", after := #[{ on := 1, ground := Go.Ground.data }, { on := 2, ground := Go.Ground.data }], guard := none }) (v := ?_) rfl (by kernel_rfl) (by kernel_rfl) (by kernel_rfl) (fun _ _ _ h => h) (Or.inl ⟨by rfl, ?hy⟩) (by assumption) ?_
          case hy => (intro w9 hSw; (try dsimp only at hSw); go_simp; try with_reducible rfl)
          try simp only [Act.put, List.setIfInBounds_toArray, List.set_cons_zero, List.set_cons_succ]
          refine wpAnyH_take (i := 4) (oi := { dst := some 60, op := Go.Op.load 22 (Go.Operand.tmp 59), type := 22, pos := "lattice.go:364", after := #[{ on := 3, ground := Go.Ground.data }], guard := none }) (v := ?_) rfl (by kernel_rfl) (by kernel_rfl) (by kernel_rfl) (fun _ _ _ h => h) (Or.inl ⟨by rfl, ?hy⟩) (by assumption) ?_
          case hy => (intro w9 hSw; (try dsimp only at hSw); go_simp; try with_reducible rfl)
          try simp only [Act.put, List.setIfInBounds_toArray, List.set_cons_zero, List.set_cons_succ]
          refine wpAnyH_take (i := 5) (oi := { dst := some 61, op := Go.Op.fieldAddr 27 (Go.Operand.tmp 3) 2, type := 0, pos := "lattice.go:364", after := #[], guard := none }) (v := ?_) rfl (by kernel_rfl) (by kernel_rfl) (by kernel_rfl) (fun _ _ _ h => h) (Or.inl ⟨by rfl, ?hy⟩) (by assumption) ?_
          case hy => (intro w9 hSw; (try dsimp only at hSw); go_simp; try with_reducible rfl)
          try simp only [Act.put, List.setIfInBounds_toArray, List.set_cons_zero, List.set_cons_succ]
          refine wpAnyH_take (i := 6) (oi := { dst := some 62, op := Go.Op.load 25 (Go.Operand.tmp 61), type := 25, pos := "lattice.go:364", after := #[{ on := 5, ground := Go.Ground.data }], guard := none }) (v := ?_) rfl (by kernel_rfl) (by kernel_rfl) (by kernel_rfl) (fun _ _ _ h => h) (Or.inl ⟨by rfl, ?hy⟩) (by assumption) ?_
          case hy => (intro w9 hSw; (try dsimp only at hSw); go_simp; try with_reducible rfl)
          try simp only [Act.put, List.setIfInBounds_toArray, List.set_cons_zero, List.set_cons_succ]
          refine wpAnyH_take (i := 7) (oi := { dst := some 63, op := Go.Op.move (Go.Operand.tmp 6), type := 3, pos := "lattice.go:364", after := #[], guard := none }) (v := ?_) rfl (by kernel_rfl) (by kernel_rfl) (by kernel_rfl) (fun _ _ _ h => h) (Or.inl ⟨by rfl, ?hy⟩) (by assumption) ?_
          case hy => (intro w9 hSw; (try dsimp only at hSw); go_simp; try with_reducible rfl)
          try simp only [Act.put, List.setIfInBounds_toArray, List.set_cons_zero, List.set_cons_succ]
          refine wpAnyH_take (i := 8) (oi := { dst := some 64, op := Go.Op.indexAddr 25 (Go.Operand.tmp 62) (Go.Operand.tmp 63), type := 0, pos := "lattice.go:364", after := #[{ on := 6, ground := Go.Ground.data }, { on := 7, ground := Go.Ground.data }], guard := none }) (v := ?_) rfl (by kernel_rfl) (by kernel_rfl) (by kernel_rfl) (fun _ _ _ h => h) (Or.inl ⟨by rfl, ?hy⟩) (by assumption) ?_
          case hy => (intro w9 hSw; (try dsimp only at hSw); go_simp; try with_reducible rfl)
          try simp only [Act.put, List.setIfInBounds_toArray, List.set_cons_zero, List.set_cons_succ]
          refine wpAnyH_take (i := 9) (oi := { dst := some 65, op := Go.Op.load 22 (Go.Operand.tmp 64), type := 22, pos := "lattice.go:364", after := #[{ on := 8, ground := Go.Ground.data }], guard := none }) (v := ?_) rfl (by kernel_rfl) (by kernel_rfl) (by kernel_rfl) (fun _ _ _ h => h) (Or.inl ⟨by rfl, ?hy⟩) (by assumption) ?_
          case hy => (intro w9 hSw; (try dsimp only at hSw); go_simp; try with_reducible rfl)
          try simp only [Act.put, List.setIfInBounds_toArray, List.set_cons_zero, List.set_cons_succ]
          refine wpAnyH_ready (rs := [10]) (by kernel_rfl) (by simp) ?_
          refine AllReadyH.cons (o := { dst := some 66, op := Go.Op.call { callee := Go.Callee.value (Go.Operand.func 25), args := #[Go.Operand.tmp 60, Go.Operand.tmp 65], argTypes := #[22, 22] }, type := 4, pos := "lattice.go:364", after := #[{ on := 4, ground := Go.Ground.data }, { on := 9, ground := Go.Ground.data }], guard := none }) rfl (fun K hK => ?_) AllReadyH.nil
          go_simp
          refine (same_any r r' l c l c' h h _ hl hl (HR1.out _ (by assumption)) (HR2.out _ (by assumption))).mono ?_
          rintro e w1 ⟨⟨q, rfl, hq⟩, hb1⟩
          obtain rfl : q = true := hq.2 ⟨rfl, fun _ _ => rfl⟩
          refine hK.out _ _ ?_ (fun hHeld => ?_)
          · first | assumption | exact Below.then (by assumption) (by assumption)
          clear hK K
          try simp only [Act.put, List.setIfInBounds_toArray, List.set_cons_zero, List.set_cons_succ]
          refine wpAnyH_take (i := 11) (oi := { dst := some 67, op := Go.Op.unOp Go.UnOp.not 4 (Go.Operand.tmp 66), type := 4, pos := "lattice.go:364", after := #[{ on := 10, ground := Go.Ground.data }], guard := none }) (v := ?_) rfl (by kernel_rfl) (by kernel_rfl) (by kernel_rfl) (fun _ _ _ h => h) (Or.inl ⟨by rfl, ?hy⟩) (by assumption) ?_
          case hy => (intro w9 hSw; (try dsimp only at hSw); go_simp; try with_reducible rfl)
          try simp only [Act.put, List.setIfInBounds_toArray, List.set_cons_zero, List.set_cons_succ]
          refine wpAnyH_done (by kernel_rfl) ?_ _
          try simp only [Act.put, List.setIfInBounds_toArray, List.set_cons_zero, List.set_cons_succ]
          have hb8 : Below wr.heap.size wr w1 := by first | assumption | exact hHeld
          have HW2 : Hid (Below W.heap.size W w1) := Below.then HW.out hb8
          clear hb8 l1 l2 l3 l4 KK
          go_wp2_with fail
          go_roundw
          case rel => first | exact ⟨y + 1, by omega, by go_num, HW2.out⟩ | exact ⟨_, _, _, _, _, _, _, _, _, _, _, _, _, _, _, _, _, _, _, _, _, ⟨y + 1, by omega, by go_num, HW2.out⟩, rfl⟩
          case measure => simp [intOf]; omega
        · obtain rfl : y = lb := by omega
          go_wp2_with fail
          go_ret
          exact ⟨rfl, Below.then HB2.out HW.out⟩
end Go.Proofs.YthhnngmfbbljaaaGreat
