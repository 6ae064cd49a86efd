/-
  hasselaw.idealBegun answers true. No condition.
-/
import Derived.Deep.RegionHeld3
import Derived.Test.YthhnngmfbbljaaaGreatLRows
import Derived.Test.YthhnngmfbbljaaaGreatSetP
import Derived.Test.YthhnngmfbbljaaaGreatSpoM
namespace Go.Proofs.YthhnngmfbbljaaaGreat
set_option maxRecDepth 100000
open Go.RowKit

def z1 (_ : Nat) : Int := 0
theorem z1_chk : Chk 1 1 z1 0 := .inr ⟨1, rfl, by omega, .inr ⟨rfl, .inr ⟨fun _ _ => ⟨Int.le_refl 0, show (0 : Int) < _ by decide⟩, .inr ⟨rfl, by unfold Ord OrdAt; decide⟩⟩⟩⟩
theorem z1_len : (idls (nat z1) 1).length = 2 := by decide
theorem z1_m : ∀ x y, x < 2 → y < 2 → idm (nat z1) 1 x y = min x y := by
  intro x y hx hy
  rcases (by omega : x = 0 ∨ x = 1) with rfl | rfl <;> rcases (by omega : y = 0 ∨ y = 1) with rfl | rfl <;> decide
theorem z1_j : ∀ x y, x < 2 → y < 2 → idj (nat z1) 1 x y = max x y := by
  intro x y hx hy
  rcases (by omega : x = 0 ∨ x = 1) with rfl | rfl <;> rcases (by omega : y = 0 ∨ y = 1) with rfl | rfl <;> decide
theorem irrs2 : irrs (fun x y => min x y) (fun x y => max x y) 2 = [1] := by decide
theorem ps2 : psB (fun x y => min x y) [1] 1 1 = 1 := by decide

set_option maxHeartbeats 4000000 in
theorem idealBegun_any (w : World) : Calls Tryz.prog 4 #[] w fun e w' => e = .returned (.bool true) ∧ Below w.heap.size w w' := by
  go_enter Tryz.func4, Tryz.ntmps4
  go_wp2_with fail
  refine (idealLattice_any 1 _ 1 1 z1 _ (by unfold maxLen; omega) ?_).mono ?_
  · intro k hk
    refine ⟨w.heap.size, 0, rfl, ?_⟩
    match k, hk with
    | 0, _ => simp [z1]
  rintro e w1 ⟨hI, hb1⟩
  have HB1 : Hid (Below w.heap.size w w1) := Below.then ((Below.refl _ _).alloc (Nat.le_refl _) _) hb1
  clear hb1
  rcases hI with ⟨c, h0, hc, _⟩ | ⟨_, hI⟩
  · exact absurd (hc.unique z1_chk) h0
  rw [z1_len] at hI
  rcases hI with ⟨h, _⟩ | ⟨_, T1, T2, R1, R2, rfl, ht1, ht2, _, _, _⟩
  · omega
  have HL1 : Hid (LB (w1.alloc (.cells #[.int .i64 ((2 : Nat) : Int), .slice (some ⟨T1, 0, none⟩) 2 2, .slice (some ⟨T2, 0, none⟩) 2 2] 27)) w1.heap.size ((2 : Nat) : Int) (some ⟨T1, 0, none⟩) 2 2 (some ⟨T2, 0, none⟩) 2 2) := LB.new _ _ _ _ _ _ _ _
  have hbA : Below w1.heap.size w1 (w1.alloc (.cells #[.int .i64 ((2 : Nat) : Int), .slice (some ⟨T1, 0, none⟩) 2 2, .slice (some ⟨T2, 0, none⟩) 2 2] 27)) := (Below.refl _ _).alloc (Nat.le_refl _) _
  have HT1a : Hid (Tb _ T1 0 2 R1 (idm (nat z1) 1)) := ht1.step hbA
  have HT2a : Hid (Tb _ T2 0 2 R2 (idj (nat z1) 1)) := ht2.step hbA
  have HBa : Hid (Below w.heap.size w _) := Below.then HB1.out hbA
  clear ht1 ht2 hbA HB1
  go_wp2_with fail
  generalize w1.alloc (.cells #[.int .i64 ((2 : Nat) : Int), .slice (some ⟨T1, 0, none⟩) 2 2, .slice (some ⟨T2, 0, none⟩) 2 2] 27) = w2 at *
  refine (pair_any _).mono ?_
  rintro e w3 ⟨⟨x, rfl, b, b2, Rp, Rp2, rfl, hp1, hp2⟩, hb3⟩
  have HB3 : Hid (Below w.heap.size w w3) := Below.then HBa.out hb3
  have HT1b : Hid (Tb w3 T1 0 2 R1 (idm (nat z1) 1)) := HT1a.out.step hb3
  have HT2b : Hid (Tb w3 T2 0 2 R2 (idj (nat z1) 1)) := HT2a.out.step hb3
  have HL3 : Hid (LB w3 w1.heap.size ((2 : Nat) : Int) (some ⟨T1, 0, none⟩) 2 2 (some ⟨T2, 0, none⟩) 2 2) := HL1.out.step hb3
  have HRA : Hid (RR w3 (some ⟨b, 0, none⟩) 2 _ _) := hp1.rr (by unfold maxLen; omega)
  have HRB : Hid (RR w3 (some ⟨b2, 0, none⟩) 2 _ _) := hp2.rr (by unfold maxLen; omega)
  clear hp1 hp2 hb3 HBa HT1a HT2a HL1
  go_wp2_with fail
  refine (setL_any 2 _ 2 2 _ _ _ 2 2 _ _ 1 _ (by unfold maxLen; omega) (by unfold maxLen; omega) HRA.out HRB.out).mono ?_
  rintro e W ⟨⟨c0, c, v, hc0, hc, rfl, hv⟩, hb4⟩
  have hlc : LCk ((2 : Nat) : Int) 2 _ _ 2 _ _ 0 := LCk.of (SA := fun x => (some ⟨(Rp x).1, (Rp x).2.1, none⟩, 2, (Rp x).2.2)) (SB := fun x => (some ⟨(Rp2 x).1, (Rp2 x).2.1, none⟩, 2, (Rp2 x).2.2)) (by omega) (by omega) (fun _ _ => rfl) (fun _ _ => rfl) lat2
  obtain rfl := LCk.one hc0 hlc
  rw [nat2_cast, nat2_cast, show (2 : Int).toNat = 2 from rfl, irrs2] at hc hv
  obtain rfl : c = 0 := hc.one (.inr ⟨rfl, .inr ⟨⟨by decide, by decide⟩, .inr ⟨rfl, by simp⟩⟩⟩)
  obtain rfl : v = 1 := by
    rcases hv with ⟨h, _⟩ | ⟨_, h⟩
    · exact absurd rfl h
    · rw [h]; exact congrArg (fun t : Nat => (t : Int)) ps2
  have HB4 : Hid (Below w.heap.size w W) := Below.then HB3.out hb4
  have HT1 : Hid (∀ w', Below W.heap.size W w' → Tb w' T1 0 2 R1 (idm (nat z1) 1)) := fun w' h => (HT1b.out.step hb4).step h
  have HT2 : Hid (∀ w', Below W.heap.size W w' → Tb w' T2 0 2 R2 (idj (nat z1) 1)) := fun w' h => (HT2b.out.step hb4).step h
  have HMI : Hid (∀ x y, x < 2 → y < 2 → idm (nat z1) 1 x y = min x y) := z1_m
  have HMA : Hid (∀ x y, x < 2 → y < 2 → idj (nat z1) 1 x y = max x y) := z1_j
  have L4 := HL3.out.step hb4
  have l0 : ∀ w', Below W.heap.size W w' → w'.cell? ⟨w1.heap.size, 0, none⟩ = some (.int .i64 2) := fun w' h => (L4.step h).1
  have l1 : ∀ w', Below W.heap.size W w' → w'.cell? ⟨w1.heap.size, 1, none⟩ = some (.slice (some ⟨T1, 0, none⟩) 2 2) := fun w' h => (L4.step h).2.1
  have l2 : ∀ w', Below W.heap.size W w' → w'.cell? ⟨w1.heap.size, 2, none⟩ = some (.slice (some ⟨T2, 0, none⟩) 2 2) := fun w' h => (L4.step h).2.2
  have KK : Below W.heap.size W W.drew := (Below.refl _ _).drew
  clear L4 hc0 hc hv hb4 hlc HB3 HT1b HT2b HL3 HRA HRB
  go_wp2_with fail
  refine wp_region_held_drew (S := (fun w' => Below W.heap.size W w')) (by kernel_rfl) (KK) (fun hHeld => ?_)
  refine wpAnyH_take (i := 0) (oi := { dst := some 16, op := Go.Op.move (Go.Operand.tmp 2), type := 33, pos := "lattice.go:515", after := #[], guard := none }) (v := ?_) rfl (by kernel_rfl) (by kernel_rfl) (by kernel_rfl) (fun _ _ _ h => h) (Or.inl ⟨by rfl, ?hy⟩) (by assumption) ?_
  case hy => (intro w9 hSw; (try dsimp only at hSw); go_simp; try with_reducible rfl)
  try simp only [Act.put, List.setIfInBounds_toArray, List.set_cons_zero, List.set_cons_succ]
  refine wpAnyH_take (i := 1) (oi := { dst := some 17, op := Go.Op.binOp Go.BinOp.eql 33 (Go.Operand.tmp 16) (Go.Operand.const (Go.Value.int Go.IntKind.i64 0)) 33, type := 4, pos := "lattice.go:515", after := #[{ on := 0, ground := Go.Ground.data }], guard := none }) (v := ?_) rfl (by kernel_rfl) (by kernel_rfl) (by kernel_rfl) (fun _ _ _ h => h) (Or.inl ⟨by rfl, ?hy⟩) (by assumption) ?_
  case hy => (intro w9 hSw; (try dsimp only at hSw); go_simp; try with_reducible rfl)
  try simp only [Act.put, List.setIfInBounds_toArray, List.set_cons_zero, List.set_cons_succ]
  refine wpAnyH_take (i := 2) (oi := { dst := some 18, op := Go.Op.move (Go.Operand.tmp 17), type := 4, pos := "lattice.go:515", after := #[{ on := 1, ground := Go.Ground.data }], guard := none }) (v := ?_) rfl (by kernel_rfl) (by kernel_rfl) (by kernel_rfl) (fun _ _ _ h => h) (Or.inl ⟨by rfl, ?hy⟩) (by assumption) ?_
  case hy => (intro w9 hSw; (try dsimp only at hSw); go_simp; try with_reducible rfl)
  try simp only [Act.put, List.setIfInBounds_toArray, List.set_cons_zero, List.set_cons_succ]
  refine wpAnyH_take (i := 3) (oi := { dst := some 19, op := Go.Op.load 27 (Go.Operand.tmp 1), type := 27, pos := "lattice.go:515", after := #[{ on := 2, ground := Go.Ground.guard }], guard := some (2, true) }) (v := ?_) rfl (by kernel_rfl) (by kernel_rfl) (by kernel_rfl) (fun _ _ _ h => h) (Or.inl ⟨by rfl, ?hy⟩) (by assumption) ?_
  case hy => (intro w9 hSw; (try dsimp only at hSw); go_simp; try with_reducible rfl)
  try simp only [Act.put, List.setIfInBounds_toArray, List.set_cons_zero, List.set_cons_succ]
  refine wpAnyH_ready (rs := [4]) (by kernel_rfl) (by simp) ?_
  refine AllReadyH.cons (o := { dst := some 20, op := Go.Op.call { callee := Go.Callee.value (Go.Operand.func 20), args := #[], argTypes := #[] }, type := 27, pos := "lattice.go:515", after := #[{ on := 2, ground := Go.Ground.chain }, { on := 2, ground := Go.Ground.guard }], guard := some (2, true) }) rfl (fun K hK => ?_) AllReadyH.nil
  go_simp
  refine (pair_any _).mono ?_
  rintro e w5 ⟨⟨x, rfl, b', b2', R', R2', rfl, hp1, hp2⟩, hb5⟩
  have hE1 : EqT w5 (some ⟨T1, 0, none⟩) (some ⟨b', 0, none⟩) 2 := EqT.of (HT1.out _ (Below.then (by assumption) hb5)) hp1 (by unfold maxLen; omega) HMI.out
  have hE2 : EqT w5 (some ⟨T2, 0, none⟩) (some ⟨b2', 0, none⟩) 2 := EqT.of (HT2.out _ (Below.then (by assumption) hb5)) hp2 (by unfold maxLen; omega) HMA.out
  have HE1 : Hid (EqT w5 (some ⟨T1, 0, none⟩) (some ⟨b', 0, none⟩) 2) := hE1
  have HE2 : Hid (EqT w5 (some ⟨T2, 0, none⟩) (some ⟨b2', 0, none⟩) 2) := hE2
  clear hE1 hE2 hp1 hp2
  refine hK.out _ _ ?_ (fun hHeld => ?_)
  · first | assumption | exact Below.then (by assumption) (by assumption)
  clear hK K
  try simp only [Act.put, List.setIfInBounds_toArray, List.set_cons_zero, List.set_cons_succ]
  refine wpAnyH_ready (rs := [5]) (by kernel_rfl) (by simp) ?_
  refine AllReadyH.cons (o := { dst := some 21, op := Go.Op.call { callee := Go.Callee.value (Go.Operand.func 16), args := #[Go.Operand.tmp 19, Go.Operand.tmp 20], argTypes := #[27, 27] }, type := 4, pos := "lattice.go:515", after := #[{ on := 3, ground := Go.Ground.data }, { on := 4, ground := Go.Ground.data }, { on := 4, ground := Go.Ground.chain }, { on := 2, ground := Go.Ground.guard }], guard := some (2, true) }) rfl (fun K hK => ?_) AllReadyH.nil
  go_simp
  refine (sameLattice_true 2 (some ⟨T1, 0, none⟩) (some ⟨T2, 0, none⟩) (some ⟨b', 0, none⟩) (some ⟨b2', 0, none⟩) 2 2 2 2 2 2 _ (by unfold maxLen; omega) (by unfold maxLen; omega) HE1.out HE2.out).mono ?_
  rintro e w6 ⟨rfl, hb6⟩
  refine hK.out _ _ ?_ (fun hHeld => ?_)
  · first | assumption | exact Below.then (by assumption) (by assumption)
  clear hK K
  try simp only [Act.put, List.setIfInBounds_toArray, List.set_cons_zero, List.set_cons_succ]
  refine wpAnyH_take (i := 6) (oi := { dst := some 22, op := Go.Op.pick (Go.Operand.tmp 18) (Go.Operand.tmp 21) (Go.Operand.const (Go.Value.bool false)), type := 4, pos := "lattice.go:515", after := #[{ on := 2, ground := Go.Ground.data }, { on := 5, ground := Go.Ground.data }], guard := none }) (v := ?_) rfl (by kernel_rfl) (by kernel_rfl) (by kernel_rfl) (fun _ _ _ h => h) (Or.inl ⟨by rfl, ?hy⟩) (by assumption) ?_
  case hy => (intro w9 hSw; (try dsimp only at hSw); go_simp; try with_reducible rfl)
  try simp only [Act.put, List.setIfInBounds_toArray, List.set_cons_zero, List.set_cons_succ]
  refine wpAnyH_take (i := 7) (oi := { dst := some 23, op := Go.Op.move (Go.Operand.tmp 22), type := 4, pos := "lattice.go:515", after := #[{ on := 6, ground := Go.Ground.data }, { on := 5, ground := Go.Ground.chain }], guard := none }) (v := ?_) rfl (by kernel_rfl) (by kernel_rfl) (by kernel_rfl) (fun _ _ _ h => h) (Or.inl ⟨by rfl, ?hy⟩) (by assumption) ?_
  case hy => (intro w9 hSw; (try dsimp only at hSw); go_simp; try with_reducible rfl)
  try simp only [Act.put, List.setIfInBounds_toArray, List.set_cons_zero, List.set_cons_succ]
  refine wpAnyH_take (i := 8) (oi := { dst := some 24, op := Go.Op.move (Go.Operand.tmp 4), type := 33, pos := "lattice.go:515", after := #[{ on := 7, ground := Go.Ground.guard }], guard := some (7, true) }) (v := ?_) rfl (by kernel_rfl) (by kernel_rfl) (by kernel_rfl) (fun _ _ _ h => h) (Or.inl ⟨by rfl, ?hy⟩) (by assumption) ?_
  case hy => (intro w9 hSw; (try dsimp only at hSw); go_simp; try with_reducible rfl)
  try simp only [Act.put, List.setIfInBounds_toArray, List.set_cons_zero, List.set_cons_succ]
  refine wpAnyH_take (i := 9) (oi := { dst := some 25, op := Go.Op.binOp Go.BinOp.eql 33 (Go.Operand.tmp 24) (Go.Operand.const (Go.Value.int Go.IntKind.i64 0)) 33, type := 4, pos := "lattice.go:515", after := #[{ on := 8, ground := Go.Ground.data }, { on := 7, ground := Go.Ground.guard }], guard := some (7, true) }) (v := ?_) rfl (by kernel_rfl) (by kernel_rfl) (by kernel_rfl) (fun _ _ _ h => h) (Or.inl ⟨by rfl, ?hy⟩) (by assumption) ?_
  case hy => (intro w9 hSw; (try dsimp only at hSw); go_simp; try with_reducible rfl)
  try simp only [Act.put, List.setIfInBounds_toArray, List.set_cons_zero, List.set_cons_succ]
  refine wpAnyH_take (i := 10) (oi := { dst := some 26, op := Go.Op.pick (Go.Operand.tmp 23) (Go.Operand.tmp 25) (Go.Operand.const (Go.Value.bool false)), type := 4, pos := "lattice.go:515", after := #[{ on := 7, ground := Go.Ground.data }, { on := 9, ground := Go.Ground.data }], guard := none }) (v := ?_) rfl (by kernel_rfl) (by kernel_rfl) (by kernel_rfl) (fun _ _ _ h => h) (Or.inl ⟨by rfl, ?hy⟩) (by assumption) ?_
  case hy => (intro w9 hSw; (try dsimp only at hSw); go_simp; try with_reducible rfl)
  try simp only [Act.put, List.setIfInBounds_toArray, List.set_cons_zero, List.set_cons_succ]
  refine wpAnyH_take (i := 11) (oi := { dst := some 27, op := Go.Op.move (Go.Operand.tmp 26), type := 4, pos := "lattice.go:515", after := #[{ on := 10, ground := Go.Ground.data }, { on := 7, ground := Go.Ground.chain }], guard := none }) (v := ?_) rfl (by kernel_rfl) (by kernel_rfl) (by kernel_rfl) (fun _ _ _ h => h) (Or.inl ⟨by rfl, ?hy⟩) (by assumption) ?_
  case hy => (intro w9 hSw; (try dsimp only at hSw); go_simp; try with_reducible rfl)
  try simp only [Act.put, List.setIfInBounds_toArray, List.set_cons_zero, List.set_cons_succ]
  refine wpAnyH_take (i := 12) (oi := { dst := some 28, op := Go.Op.move (Go.Operand.tmp 3), type := 3, pos := "lattice.go:515", after := #[{ on := 11, ground := Go.Ground.guard }], guard := some (11, true) }) (v := ?_) rfl (by kernel_rfl) (by kernel_rfl) (by kernel_rfl) (fun _ _ _ h => h) (Or.inl ⟨by rfl, ?hy⟩) (by assumption) ?_
  case hy => (intro w9 hSw; (try dsimp only at hSw); go_simp; try with_reducible rfl)
  try simp only [Act.put, List.setIfInBounds_toArray, List.set_cons_zero, List.set_cons_succ]
  refine wpAnyH_take (i := 13) (oi := { dst := some 29, op := Go.Op.binOp Go.BinOp.eql 3 (Go.Operand.tmp 28) (Go.Operand.const (Go.Value.int Go.IntKind.i64 1)) 3, type := 4, pos := "lattice.go:515", after := #[{ on := 12, ground := Go.Ground.data }, { on := 11, ground := Go.Ground.guard }], guard := some (11, true) }) (v := ?_) rfl (by kernel_rfl) (by kernel_rfl) (by kernel_rfl) (fun _ _ _ h => h) (Or.inl ⟨by rfl, ?hy⟩) (by assumption) ?_
  case hy => (intro w9 hSw; (try dsimp only at hSw); go_simp; try with_reducible rfl)
  try simp only [Act.put, List.setIfInBounds_toArray, List.set_cons_zero, List.set_cons_succ]
  refine wpAnyH_take (i := 14) (oi := { dst := some 30, op := Go.Op.pick (Go.Operand.tmp 27) (Go.Operand.tmp 29) (Go.Operand.const (Go.Value.bool false)), type := 4, pos := "lattice.go:515", after := #[{ on := 11, ground := Go.Ground.data }, { on := 13, ground := Go.Ground.data }], guard := none }) (v := ?_) rfl (by kernel_rfl) (by kernel_rfl) (by kernel_rfl) (fun _ _ _ h => h) (Or.inl ⟨by rfl, ?hy⟩) (by assumption) ?_
  case hy => (intro w9 hSw; (try dsimp only at hSw); go_simp; try with_reducible rfl)
  try simp only [Act.put, List.setIfInBounds_toArray, List.set_cons_zero, List.set_cons_succ]
  refine wpAnyH_take (i := 15) (oi := { dst := some 0, op := Go.Op.assign (Go.Operand.tmp 30), type := 4, pos := "lattice.go:515", after := #[{ on := 14, ground := Go.Ground.data }, { on := 11, ground := Go.Ground.chain }, { on := 0, ground := Go.Ground.phase }, { on := 1, ground := Go.Ground.phase }, { on := 2, ground := Go.Ground.phase }, { on := 3, ground := Go.Ground.phase }, { on := 4, ground := Go.Ground.phase }, { on := 5, ground := Go.Ground.phase }, { on := 6, ground := Go.Ground.phase }, { on := 7, ground := Go.Ground.phase }, { on := 8, ground := Go.Ground.phase }, { on := 9, ground := Go.Ground.phase }, { on := 10, ground := Go.Ground.phase }, { on := 11, ground := Go.Ground.phase }, { on := 12, ground := Go.Ground.phase }, { on := 13, ground := Go.Ground.phase }, { on := 14, ground := Go.Ground.phase }], guard := none }) (v := ?_) rfl (by kernel_rfl) (by kernel_rfl) (by kernel_rfl) (fun _ _ _ h => h) (Or.inl ⟨by rfl, ?hy⟩) (by assumption) ?_
  case hy => (intro w9 hSw; (try dsimp only at hSw); go_simp; try with_reducible rfl)
  try simp only [Act.put, List.setIfInBounds_toArray, List.set_cons_zero]
  refine wpAnyH_done (by kernel_rfl) ?_ _
  try simp only [Act.put, List.setIfInBounds_toArray, List.set_cons_zero, List.set_cons_succ]
  have hb8 : Below W.heap.size W w6 := by first | assumption | exact hHeld
  have HB8 : Hid (Below w.heap.size w w6) := Below.then HB4.out hb8
  clear hb8
  go_wp2_with fail
  go_ret
  exact ⟨rfl, HB8.out⟩
end Go.Proofs.YthhnngmfbbljaaaGreat
