/-
  What the reference's LeastOnes and IsLighter answer, and the closures of hasselaw.EmbedLeast and EmbedCorners. Conditions: as each theorem says.
-/
import Derived.Test.YtimpgcmkdcmhkaaDoorRefG
import Derived.Test.YtimpgcmkdcmhkaaDoorEmL
namespace Go.Proofs.YtimpgcmkdcmhkaaDoor
set_option maxRecDepth 100000
open Go.RowKit

theorem ent_refLeast1 : Ent 16 := fun _ _ => by kernel_rfl
theorem ent_refCorn1 : Ent 25 := fun _ _ => by kernel_rfl

set_option maxHeartbeats 2000000 in
theorem refLeast1_any (n : Int) (ao : Option Addr) (len co B0 B1 : Nat) (f : Nat → Int) (a : Option Addr) (m cap : Nat) (S : Nat → Option Addr × Nat × Nat) (F : Nat → Nat → Int) (w : World) (h10 : len ≤ 10) (hg : ∀ k, k < len → nat f k < 1024)
    (hH : Held w B0 n ao len co (fun k => ((nat f k : Nat) : Int))) (hB : w.cell? ⟨B1, 0, none⟩ = some (.slice a m cap)) (hr : RR w a m S F) (hM : ¬ Many m S) (hL : Lets len m S F) :
    Clo2 m 16 #[.pointer (some ⟨B0, 0, none⟩), .pointer (some ⟨B1, 0, none⟩)] (wdP (nat f) S F) w := fun x y hx hy W hW => by
  show Calls Tryd.prog 16 #[.int .i64 (x : Nat), .int .i64 (y : Nat), .pointer (some ⟨B0, 0, none⟩), .pointer (some ⟨B1, 0, none⟩)] W _
  have HH : Hid (Held W B0 n ao len co (fun k => ((nat f k : Nat) : Int))) := hH.step hW
  have hB' := cell_step hW hB
  have hR := hr.below hW
  obtain ⟨b, off, rfl, cx, lx, rx, fx⟩ := word_of hR hM hL hx
  obtain ⟨b', off', hbb, cy, ly, ry, fy⟩ := word_of hR hM hL hy
  simp at hbb
  obtain ⟨rfl, rfl⟩ := hbb
  have HG : Hid (∀ k, k < len → nat f k < 1024) := hg
  have HLX : Hid (∀ i, i < (S x).2.1 → nat (F x) i < len) := fx
  have HLY : Hid (∀ i, i < (S y).2.1 → nat (F y) i < len) := fy
  have HX : Hid (∀ w', Below W.heap.size W w' → Row w' (S x).1 (S x).2.1 (fun i => ((nat (F x) i : Nat) : Int))) := fun w' h => rx.below h
  have HY : Hid (∀ w', Below W.heap.size W w' → Row w' (S y).1 (S y).2.1 (fun i => ((nat (F y) i : Nat) : Int))) := fun w' h => ry.below h
  have HRO : Hid (∀ w', Below W.heap.size W w' → Row w' ao len (fun k => ((nat f k : Nat) : Int))) := fun w' h => (HH.out.step h).row
  have l0 : ∀ w', Below W.heap.size W w' → w'.cell? ⟨B0, 0, none⟩ = some (.int .i64 n) := fun w' h => (HH.out.step h).c0
  have l1 : ∀ w', Below W.heap.size W w' → w'.cell? ⟨B0, 1, none⟩ = some (.slice ao len co) := fun w' h => (HH.out.step h).c1
  have l2 : ∀ w', Below W.heap.size W w' → w'.cell? ⟨B1, 0, none⟩ = some (.slice (some ⟨b, off, none⟩) m cap) := fun w' h => cell_step h hB'
  have l3 : ∀ w', Below W.heap.size W w' → w'.cell? ⟨b, off + x, none⟩ = some (.slice (S x).1 (S x).2.1 (S x).2.2) := fun w' h => cell_step h cx
  have l4 : ∀ w', Below W.heap.size W w' → w'.cell? ⟨b, off + y, none⟩ = some (.slice (S y).1 (S y).2.1 (S y).2.2) := fun w' h => cell_step h cy
  have hx' : (x : Int) < (m : Int) := by omega
  have hy' : (y : Int) < (m : Int) := by omega
  clear hH hB hB' hr hM hL hR cx cy rx ry fx fy hg hW HH
  unfold wdP
  have hr2 := lx
  have hs2 := ly
  clear lx ly
  generalize hs1 : (S x).1 = r1 at *
  generalize hs2' : (S x).2.1 = r2 at *
  generalize hs3 : (S x).2.2 = r3 at *
  generalize ht1 : (S y).1 = s1 at *
  generalize ht2 : (S y).2.1 = s2 at *
  generalize ht3 : (S y).2.2 = s3 at *
  clear hs1 hs2' hs3 ht1 ht2 ht3
  have KK : Below W.heap.size W W.drew := (Below.refl _ _).drew
  go_enter Tryd.func16, Tryd.ntmps16
  go_wp2_with fail
  refine wp_region_held_drew (S := (fun w' => Below W.heap.size W w')) (by kernel_rfl) (KK) (fun hHeld => ?_)
  refine wpAnyH_take (i := 0) (oi := { dst := some 7, op := Go.Op.load 24 (Go.Operand.tmp 2), type := 24, pos := "embed.go:37", after := #[], guard := none }) (v := ?_) rfl (by kernel_rfl) (by kernel_rfl) (by kernel_rfl) (fun _ _ _ h => h) (Or.inl ⟨by rfl, ?hy⟩) (by assumption) ?_
  case hy => (intro w9 hSw; (try dsimp only at hSw); go_simp; try with_reducible rfl)
  try simp only [Act.put, List.setIfInBounds_toArray, List.set_cons_zero, List.set_cons_succ]
  refine wpAnyH_take (i := 1) (oi := { dst := some 8, op := Go.Op.load 29 (Go.Operand.tmp 3), type := 29, pos := "embed.go:37", after := #[], guard := none }) (v := ?_) rfl (by kernel_rfl) (by kernel_rfl) (by kernel_rfl) (fun _ _ _ h => h) (Or.inl ⟨by rfl, ?hy⟩) (by assumption) ?_
  case hy => (intro w9 hSw; (try dsimp only at hSw); go_simp; try with_reducible rfl)
  try simp only [Act.put, List.setIfInBounds_toArray, List.set_cons_zero, List.set_cons_succ]
  refine wpAnyH_take (i := 2) (oi := { dst := some 9, op := Go.Op.move (Go.Operand.tmp 0), type := 3, pos := "embed.go:37", after := #[], guard := none }) (v := ?_) rfl (by kernel_rfl) (by kernel_rfl) (by kernel_rfl) (fun _ _ _ h => h) (Or.inl ⟨by rfl, ?hy⟩) (by assumption) ?_
  case hy => (intro w9 hSw; (try dsimp only at hSw); go_simp; try with_reducible rfl)
  try simp only [Act.put, List.setIfInBounds_toArray, List.set_cons_zero, List.set_cons_succ]
  refine wpAnyH_take (i := 3) (oi := { dst := some 10, op := Go.Op.indexAddr 29 (Go.Operand.tmp 8) (Go.Operand.tmp 9), type := 0, pos := "embed.go:37", after := #[{ on := 1, ground := Go.Ground.data }, { on := 2, ground := Go.Ground.data }], guard := none }) (v := ?_) rfl (by kernel_rfl) (by kernel_rfl) (by kernel_rfl) (fun _ _ _ h => h) (Or.inl ⟨by rfl, ?hy⟩) (by assumption) ?_
  case hy => (intro w9 hSw; (try dsimp only at hSw); go_simp; try with_reducible rfl)
  try simp only [Act.put, List.setIfInBounds_toArray, List.set_cons_zero, List.set_cons_succ]
  refine wpAnyH_take (i := 4) (oi := { dst := some 11, op := Go.Op.load 22 (Go.Operand.tmp 10), type := 22, pos := "embed.go:37", after := #[{ on := 3, ground := Go.Ground.data }], guard := none }) (v := ?_) rfl (by kernel_rfl) (by kernel_rfl) (by kernel_rfl) (fun _ _ _ h => h) (Or.inl ⟨by rfl, ?hy⟩) (by assumption) ?_
  case hy => (intro w9 hSw; (try dsimp only at hSw); go_simp; try with_reducible rfl)
  try simp only [Act.put, List.setIfInBounds_toArray, List.set_cons_zero, List.set_cons_succ]
  refine wpAnyH_take (i := 5) (oi := { dst := some 12, op := Go.Op.load 29 (Go.Operand.tmp 3), type := 29, pos := "embed.go:37", after := #[], guard := none }) (v := ?_) rfl (by kernel_rfl) (by kernel_rfl) (by kernel_rfl) (fun _ _ _ h => h) (Or.inl ⟨by rfl, ?hy⟩) (by assumption) ?_
  case hy => (intro w9 hSw; (try dsimp only at hSw); go_simp; try with_reducible rfl)
  try simp only [Act.put, List.setIfInBounds_toArray, List.set_cons_zero, List.set_cons_succ]
  refine wpAnyH_take (i := 6) (oi := { dst := some 13, op := Go.Op.move (Go.Operand.tmp 1), type := 3, pos := "embed.go:37", after := #[], guard := none }) (v := ?_) rfl (by kernel_rfl) (by kernel_rfl) (by kernel_rfl) (fun _ _ _ h => h) (Or.inl ⟨by rfl, ?hy⟩) (by assumption) ?_
  case hy => (intro w9 hSw; (try dsimp only at hSw); go_simp; try with_reducible rfl)
  try simp only [Act.put, List.setIfInBounds_toArray, List.set_cons_zero, List.set_cons_succ]
  refine wpAnyH_take (i := 7) (oi := { dst := some 14, op := Go.Op.indexAddr 29 (Go.Operand.tmp 12) (Go.Operand.tmp 13), type := 0, pos := "embed.go:37", after := #[{ on := 5, ground := Go.Ground.data }, { on := 6, ground := Go.Ground.data }], guard := none }) (v := ?_) rfl (by kernel_rfl) (by kernel_rfl) (by kernel_rfl) (fun _ _ _ h => h) (Or.inl ⟨by rfl, ?hy⟩) (by assumption) ?_
  case hy => (intro w9 hSw; (try dsimp only at hSw); go_simp; try with_reducible rfl)
  try simp only [Act.put, List.setIfInBounds_toArray, List.set_cons_zero, List.set_cons_succ]
  refine wpAnyH_take (i := 8) (oi := { dst := some 15, op := Go.Op.load 22 (Go.Operand.tmp 14), type := 22, pos := "embed.go:37", after := #[{ on := 7, ground := Go.Ground.data }], guard := none }) (v := ?_) rfl (by kernel_rfl) (by kernel_rfl) (by kernel_rfl) (fun _ _ _ h => h) (Or.inl ⟨by rfl, ?hy⟩) (by assumption) ?_
  case hy => (intro w9 hSw; (try dsimp only at hSw); go_simp; try with_reducible rfl)
  try simp only [Act.put, List.setIfInBounds_toArray, List.set_cons_zero, List.set_cons_succ]
  refine wpAnyH_ready (rs := [9]) (by kernel_rfl) (by simp) ?_
  refine AllReadyH.cons (o := { dst := some 16, op := Go.Op.call { callee := Go.Callee.value (Go.Operand.func 13), args := #[Go.Operand.tmp 7, Go.Operand.tmp 11, Go.Operand.tmp 15], argTypes := #[24, 22, 22] }, type := 4, pos := "embed.go:37", after := #[{ on := 0, ground := Go.Ground.data }, { on := 4, ground := Go.Ground.data }, { on := 8, ground := Go.Ground.data }], guard := none }) rfl (fun K hK => ?_) AllReadyH.nil
  go_simp
  refine (refGoes_any n ao len co (nat f) r1 r2 r3 (nat (F x)) s1 s2 s3 (nat (F y)) _ h10 HG.out (HRO.out _ (by assumption)) (HX.out _ (by assumption)) (HY.out _ (by assumption)) hr2 hs2 HLX.out HLY.out).mono ?_
  rintro e w5 ⟨rfl, hb5⟩
  refine hK.out _ _ ?_ (fun hHeld => ?_)
  · first | assumption | exact Below.then (by assumption) (by assumption)
  clear hK K
  try simp only [Act.put, List.setIfInBounds_toArray, List.set_cons_zero, List.set_cons_succ]
  refine wpAnyH_take (i := 10) (oi := { dst := some 6, op := Go.Op.assign (Go.Operand.tmp 16), type := 4, pos := "embed.go:37", after := #[{ on := 9, ground := Go.Ground.data }, { on := 9, ground := Go.Ground.chain }, { on := 0, ground := Go.Ground.phase }, { on := 1, ground := Go.Ground.phase }, { on := 2, ground := Go.Ground.phase }, { on := 3, ground := Go.Ground.phase }, { on := 4, ground := Go.Ground.phase }, { on := 5, ground := Go.Ground.phase }, { on := 6, ground := Go.Ground.phase }, { on := 7, ground := Go.Ground.phase }, { on := 8, ground := Go.Ground.phase }, { on := 9, ground := Go.Ground.phase }], guard := none }) (v := ?_) rfl (by kernel_rfl) (by kernel_rfl) (by kernel_rfl) (fun _ _ _ h => h) (Or.inl ⟨by rfl, ?hy⟩) (by assumption) ?_
  case hy => (intro w9 hSw; (try dsimp only at hSw); go_simp; try with_reducible rfl)
  try simp only [Act.put, List.setIfInBounds_toArray, List.set_cons_zero, List.set_cons_succ]
  refine wpAnyH_done (by kernel_rfl) ?_ _
  try simp only [Act.put, List.setIfInBounds_toArray, List.set_cons_zero, List.set_cons_succ]
  have HB6 : Hid (Below W.heap.size W w5) := by assumption
  clear l0 l1 l2 l3 l4
  go_wp2_with fail
  go_ret
  exact ⟨rfl, HB6.out⟩

set_option maxHeartbeats 2000000 in
theorem refCorn1_any (B1 : Nat) (a : Option Addr) (m cap : Nat) (S : Nat → Option Addr × Nat × Nat) (F : Nat → Nat → Int) (w : World) (hB : w.cell? ⟨B1, 0, none⟩ = some (.slice a m cap)) (hr : RR w a m S F) (hM : ¬ Many m S) (hFr : Frm m S) :
    Clo2 m 25 #[.pointer (some ⟨B1, 0, none⟩)] (rwP S F) w := fun x y hx hy W hW => by
  show Calls Tryd.prog 25 #[.int .i64 (x : Nat), .int .i64 (y : Nat), .pointer (some ⟨B1, 0, none⟩)] W _
  have hB' := cell_step hW hB
  have hR := hr.below hW
  obtain ⟨b, off, rfl, cx, _, rx⟩ := hR x hx
  obtain ⟨b', off', hbb, cy, _, ry⟩ := hR y hy
  simp at hbb
  obtain ⟨rfl, rfl⟩ := hbb
  have hr2 : (S x).2.1 ≤ 12 := Nat.le_of_not_lt fun h => hM (.inr ⟨x, hx, h⟩)
  have exy : (S y).2.1 = (S x).2.1 := (hFr y hy).trans (hFr x hx).symm
  rw [exy] at ry cy
  have HX : Hid (∀ w', Below W.heap.size W w' → Row w' (S x).1 (S x).2.1 (F x)) := fun w' h => rx.below h
  have HY : Hid (∀ w', Below W.heap.size W w' → Row w' (S y).1 (S x).2.1 (F y)) := fun w' h => ry.below h
  have l2 : ∀ w', Below W.heap.size W w' → w'.cell? ⟨B1, 0, none⟩ = some (.slice (some ⟨b, off, none⟩) m cap) := fun w' h => cell_step h hB'
  have l3 : ∀ w', Below W.heap.size W w' → w'.cell? ⟨b, off + x, none⟩ = some (.slice (S x).1 (S x).2.1 (S x).2.2) := fun w' h => cell_step h cx
  have l4 : ∀ w', Below W.heap.size W w' → w'.cell? ⟨b, off + y, none⟩ = some (.slice (S y).1 (S x).2.1 (S y).2.2) := fun w' h => cell_step h cy
  have hx' : (x : Int) < (m : Int) := by omega
  have hy' : (y : Int) < (m : Int) := by omega
  clear hB hB' hr hM hR cx cy rx ry hW exy hFr
  unfold rwP
  generalize hs1 : (S x).1 = r1 at *
  generalize hs2' : (S x).2.1 = r2 at *
  generalize hs3 : (S x).2.2 = r3 at *
  generalize ht1 : (S y).1 = s1 at *
  generalize ht3 : (S y).2.2 = s3 at *
  clear hs1 hs2' hs3 ht1 ht3
  have KK : Below W.heap.size W W.drew := (Below.refl _ _).drew
  go_enter Tryd.func25, Tryd.ntmps25
  go_wp2_with fail
  refine wp_region_held_drew (S := (fun w' => Below W.heap.size W w')) (by kernel_rfl) (KK) (fun hHeld => ?_)
  refine wpAnyH_take (i := 0) (oi := { dst := some 6, op := Go.Op.load 29 (Go.Operand.tmp 2), type := 29, pos := "embed.go:79", after := #[], guard := none }) (v := ?_) rfl (by kernel_rfl) (by kernel_rfl) (by kernel_rfl) (fun _ _ _ h => h) (Or.inl ⟨by rfl, ?hy⟩) (by assumption) ?_
  case hy => (intro w9 hSw; (try dsimp only at hSw); go_simp; try with_reducible rfl)
  try simp only [Act.put, List.setIfInBounds_toArray, List.set_cons_zero, List.set_cons_succ]
  refine wpAnyH_take (i := 1) (oi := { dst := some 7, op := Go.Op.move (Go.Operand.tmp 0), type := 3, pos := "embed.go:79", after := #[], guard := none }) (v := ?_) rfl (by kernel_rfl) (by kernel_rfl) (by kernel_rfl) (fun _ _ _ h => h) (Or.inl ⟨by rfl, ?hy⟩) (by assumption) ?_
  case hy => (intro w9 hSw; (try dsimp only at hSw); go_simp; try with_reducible rfl)
  try simp only [Act.put, List.setIfInBounds_toArray, List.set_cons_zero, List.set_cons_succ]
  refine wpAnyH_take (i := 2) (oi := { dst := some 8, op := Go.Op.indexAddr 29 (Go.Operand.tmp 6) (Go.Operand.tmp 7), type := 0, pos := "embed.go:79", after := #[{ on := 0, ground := Go.Ground.data }, { on := 1, ground := Go.Ground.data }], guard := none }) (v := ?_) rfl (by kernel_rfl) (by kernel_rfl) (by kernel_rfl) (fun _ _ _ h => h) (Or.inl ⟨by rfl, ?hy⟩) (by assumption) ?_
  case hy => (intro w9 hSw; (try dsimp only at hSw); go_simp; try with_reducible rfl)
  try simp only [Act.put, List.setIfInBounds_toArray, List.set_cons_zero, List.set_cons_succ]
  refine wpAnyH_take (i := 3) (oi := { dst := some 9, op := Go.Op.load 22 (Go.Operand.tmp 8), type := 22, pos := "embed.go:79", after := #[{ on := 2, ground := Go.Ground.data }], guard := none }) (v := ?_) rfl (by kernel_rfl) (by kernel_rfl) (by kernel_rfl) (fun _ _ _ h => h) (Or.inl ⟨by rfl, ?hy⟩) (by assumption) ?_
  case hy => (intro w9 hSw; (try dsimp only at hSw); go_simp; try with_reducible rfl)
  try simp only [Act.put, List.setIfInBounds_toArray, List.set_cons_zero, List.set_cons_succ]
  refine wpAnyH_take (i := 4) (oi := { dst := some 10, op := Go.Op.load 29 (Go.Operand.tmp 2), type := 29, pos := "embed.go:79", after := #[], guard := none }) (v := ?_) rfl (by kernel_rfl) (by kernel_rfl) (by kernel_rfl) (fun _ _ _ h => h) (Or.inl ⟨by rfl, ?hy⟩) (by assumption) ?_
  case hy => (intro w9 hSw; (try dsimp only at hSw); go_simp; try with_reducible rfl)
  try simp only [Act.put, List.setIfInBounds_toArray, List.set_cons_zero, List.set_cons_succ]
  refine wpAnyH_take (i := 5) (oi := { dst := some 11, op := Go.Op.move (Go.Operand.tmp 1), type := 3, pos := "embed.go:79", after := #[], guard := none }) (v := ?_) rfl (by kernel_rfl) (by kernel_rfl) (by kernel_rfl) (fun _ _ _ h => h) (Or.inl ⟨by rfl, ?hy⟩) (by assumption) ?_
  case hy => (intro w9 hSw; (try dsimp only at hSw); go_simp; try with_reducible rfl)
  try simp only [Act.put, List.setIfInBounds_toArray, List.set_cons_zero, List.set_cons_succ]
  refine wpAnyH_take (i := 6) (oi := { dst := some 12, op := Go.Op.indexAddr 29 (Go.Operand.tmp 10) (Go.Operand.tmp 11), type := 0, pos := "embed.go:79", after := #[{ on := 4, ground := Go.Ground.data }, { on := 5, ground := Go.Ground.data }], guard := none }) (v := ?_) rfl (by kernel_rfl) (by kernel_rfl) (by kernel_rfl) (fun _ _ _ h => h) (Or.inl ⟨by rfl, ?hy⟩) (by assumption) ?_
  case hy => (intro w9 hSw; (try dsimp only at hSw); go_simp; try with_reducible rfl)
  try simp only [Act.put, List.setIfInBounds_toArray, List.set_cons_zero, List.set_cons_succ]
  refine wpAnyH_take (i := 7) (oi := { dst := some 13, op := Go.Op.load 22 (Go.Operand.tmp 12), type := 22, pos := "embed.go:79", after := #[{ on := 6, ground := Go.Ground.data }], guard := none }) (v := ?_) rfl (by kernel_rfl) (by kernel_rfl) (by kernel_rfl) (fun _ _ _ h => h) (Or.inl ⟨by rfl, ?hy⟩) (by assumption) ?_
  case hy => (intro w9 hSw; (try dsimp only at hSw); go_simp; try with_reducible rfl)
  try simp only [Act.put, List.setIfInBounds_toArray, List.set_cons_zero, List.set_cons_succ]
  refine wpAnyH_ready (rs := [8]) (by kernel_rfl) (by simp) ?_
  refine AllReadyH.cons (o := { dst := some 14, op := Go.Op.call { callee := Go.Callee.value (Go.Operand.func 23), args := #[Go.Operand.tmp 9, Go.Operand.tmp 13], argTypes := #[22, 22] }, type := 4, pos := "embed.go:79", after := #[{ on := 3, ground := Go.Ground.data }, { on := 7, ground := Go.Ground.data }], guard := none }) rfl (fun K hK => ?_) AllReadyH.nil
  go_simp
  refine (refDivides_any r1 r2 r3 (F x) s1 s3 (F y) _ hr2 (HX.out _ (by assumption)) (HY.out _ (by assumption))).mono ?_
  rintro e w5 ⟨rfl, hb5⟩
  refine hK.out _ _ ?_ (fun hHeld => ?_)
  · first | assumption | exact Below.then (by assumption) (by assumption)
  clear hK K
  try simp only [Act.put, List.setIfInBounds_toArray, List.set_cons_zero, List.set_cons_succ]
  refine wpAnyH_take (i := 9) (oi := { dst := some 5, op := Go.Op.assign (Go.Operand.tmp 14), type := 4, pos := "embed.go:79", after := #[{ on := 8, ground := Go.Ground.data }, { on := 8, ground := Go.Ground.chain }, { on := 0, ground := Go.Ground.phase }, { on := 1, ground := Go.Ground.phase }, { on := 2, ground := Go.Ground.phase }, { on := 3, ground := Go.Ground.phase }, { on := 4, ground := Go.Ground.phase }, { on := 5, ground := Go.Ground.phase }, { on := 6, ground := Go.Ground.phase }, { on := 7, ground := Go.Ground.phase }, { on := 8, ground := Go.Ground.phase }], guard := none }) (v := ?_) rfl (by kernel_rfl) (by kernel_rfl) (by kernel_rfl) (fun _ _ _ h => h) (Or.inl ⟨by rfl, ?hy⟩) (by assumption) ?_
  case hy => (intro w9 hSw; (try dsimp only at hSw); go_simp; try with_reducible rfl)
  try simp only [Act.put, List.setIfInBounds_toArray, List.set_cons_zero, List.set_cons_succ]
  refine wpAnyH_done (by kernel_rfl) ?_ _
  try simp only [Act.put, List.setIfInBounds_toArray, List.set_cons_zero, List.set_cons_succ]
  have HB6 : Hid (Below W.heap.size W w5) := by assumption
  clear l2 l3 l4
  go_wp2_with fail
  go_ret
  exact ⟨rfl, HB6.out⟩

def NoBad (P : Nat → Nat → Bool) (k p : Nat) : Prop := ∀ q, q < p → badB P k q = false
theorem NoBad.more {P : Nat → Nat → Bool} {k p : Nat} {v : Bool} (h : BP v (NoBad P k p)) (hb : badB P k p = false) : BP v (NoBad P k (p + 1)) :=
  h.trans ⟨fun h => upto_succ h hb, fun h q hq => h q (by omega)⟩
theorem NoBad.bad {P : Nat → Nat → Bool} {k p : Nat} (hb : badB P k p = true) : BP false (NoBad P k (p + 1)) := BP.not fun h => by
  have := h p (by omega); rw [hb] at this; cases this
theorem NoBad.fall {P : Nat → Nat → Bool} {k p : Nat} (h : BP false (NoBad P k p)) : BP false (NoBad P k (p + 1)) := BP.not fun h2 => h.no fun q hq => h2 q (by omega)

set_option maxHeartbeats 4000000 in
theorem leastOnes_any (n F : Nat) (caps : Array Value) (P : Nat → Nat → Bool) (w : World) (hn : n ≤ 12) (hF : Ent F) (hcl : Clo2 n F caps P w) :
    Calls Tryd.prog 15 #[.int .i64 (n : Nat), .func (.func F) #[] caps] w fun e w' => (∃ v, e = .returned v ∧ NSl w' v (lst P n n) ∧ ∀ k, v.ownBlock = some k → w.heap.size ≤ k) ∧ Below w.heap.size w w' := by
  have HCL : Hid (Clo2 n F caps P w) := hcl
  clear hcl
  obtain ⟨i0, hi, hz0, hz1, hz2⟩ := info_parts Tryd.info3
  go_enter Tryd.func15, Tryd.ntmps15
  go_wp2_with fail
  go_loopw [5, 6] (fun v i wx => ∃ k : Nat, k ≤ n ∧ i = .int .i64 k ∧ wx.ownsRow w.heap.size 3 1 v (lst P n k).length (natVals (lst P n k)) ∧ Hid (Below w.heap.size w wx)) (fun _ i _ => n - (intOf i).toNat)
  case atStart => exact ⟨0, Nat.zero_le _, rfl, World.ownsRow_nil _ _ _ _, Below.refl _ _⟩
  case round =>
    obtain ⟨k, hk, rfl, hown, hB⟩ := hrel
    by_cases hlt : k < n
    · have HZ : Hid (BP true (NoBad P k 0)) := BP.of upto_zero
      go_wp2_with fail
      go_loopw [8, 7] (fun t u wy => ∃ (p : Nat) (v : Bool), p ≤ n ∧ t = .int .i64 p ∧ u = .bool v ∧ Hid (BP v (NoBad P k p)) ∧ Hid (Below w.heap.size w wy) ∧ wy.ownsRow w.heap.size 3 1 u5 (lst P n k).length (natVals (lst P n k))) (fun t _ _ => n - (intOf t).toNat)
      case atStart => exact ⟨0, true, Nat.zero_le _, rfl, rfl, HZ.out, hB.out, hown⟩
      case round =>
        clear hB hown HZ
        obtain ⟨p, v, hp, rfl, rfl, HV, hB, hown⟩ := hrel
        by_cases hpl : p < n
        · by_cases hpk : p = k
          · subst hpk
            have HN : Hid (BP v (NoBad P p (p + 1))) := NoBad.more HV.out (bad_self P p)
            clear HV
            go_wp2_with fail
            go_roundw
            case rel => exact ⟨p + 1, v, by omega, by go_num, by first | rfl | trivial, HN.out, hB.out, hown⟩
            case measure => simp [intOf]; omega
          · have hne : ((p : Int) == (k : Int)) = false := by simp; omega
            have HC := HCL.out p k hpl hlt _ hB.out
            rcases (Bool.eq_false_or_eq_true (P p k)).symm with hp1 | hp1
            · have HN : Hid (BP v (NoBad P k (p + 1))) := NoBad.more HV.out (bad_no hp1)
              rw [hp1] at HC
              clear hp1 HV
              go_wp2_with fail
              rw [hF, Oper.upon_enter]
              refine HC.mono ?_
              rintro e w' ⟨rfl, hbw⟩
              have HW2 : Hid (Below w.heap.size w w') := Below.then hB.out hbw
              have hown2 := owns_below hown hbw
              clear HC hbw hB hown
              go_wp2_with fail
              go_roundw
              case rel => exact ⟨p + 1, v, by omega, by go_num, by first | rfl | trivial, HN.out, HW2.out, hown2⟩
              case measure => simp [intOf]; omega
            · cases v
              · have HN : Hid (BP false (NoBad P k (p + 1))) := NoBad.fall HV.out
                rw [hp1] at HC
                clear hp1 HV
                go_wp2_with fail
                rw [hF, Oper.upon_enter]
                refine HC.mono ?_
                rintro e w' ⟨rfl, hbw⟩
                have HW2 : Hid (Below w.heap.size w w') := Below.then hB.out hbw
                have hown2 := owns_below hown hbw
                clear HC hbw hB hown
                go_wp2_with fail
                go_roundw
                case rel => exact ⟨p + 1, false, by omega, by go_num, by first | rfl | trivial, HN.out, HW2.out, hown2⟩
                case measure => simp [intOf]; omega
              · obtain ⟨v2, hv2, HN⟩ : ∃ v2, (P k p && decide ((k : Int) < (p : Int))) = v2 ∧ Hid (BP v2 (NoBad P k (p + 1))) := by
                  cases h2 : P k p
                  · exact ⟨false, by simp, NoBad.bad (bad_one hp1 h2 hpk)⟩
                  · by_cases h3 : p < k
                    · exact ⟨false, by simp; omega, NoBad.bad (bad_less hp1 h3)⟩
                    · exact ⟨true, by simp; omega, NoBad.more HV.out (bad_both h2 h3)⟩
                rw [hp1] at HC
                clear hp1 HV
                go_wp2_with fail
                rw [hF, Oper.upon_enter]
                refine HC.mono ?_
                rintro e w' ⟨rfl, hbw⟩
                have HW2 : Hid (Below w.heap.size w w') := Below.then hB.out hbw
                have hown2 := owns_below hown hbw
                have HC2 := HCL.out k p hlt hpl _ HW2.out
                clear HC hbw hB hown
                go_wp2_with fail
                rw [hF, Oper.upon_enter]
                refine HC2.mono ?_
                rintro e w2 ⟨rfl, hbw⟩
                have HW3 : Hid (Below w.heap.size w w2) := Below.then HW2.out hbw
                have hown3 := owns_below hown2 hbw
                clear HC2 hbw HW2 hown2
                cases h2 : P k p
                · rw [h2, Bool.false_and] at hv2
                  subst hv2
                  go_wp2_with fail
                  go_roundw
                  case rel => exact ⟨p + 1, false, by omega, by go_num, by first | rfl | trivial, HN.out, HW3.out, hown3⟩
                  case measure => simp [intOf]; omega
                · rw [h2, Bool.true_and] at hv2
                  go_wp2_with fail
                  go_roundw
                  case rel => exact ⟨p + 1, v2, by omega, by go_num, by first | rfl | (rw [← hv2]; simp), HN.out, HW3.out, hown3⟩
                  case measure => simp [intOf]; omega
        · obtain rfl : p = n := by omega
          cases v
          · have HE : Hid (lst P p (k + 1) = lst P p k) := by
              obtain ⟨i, hi⟩ := Classical.not_forall.1 HV.out.no
              obtain ⟨hi, hb⟩ := Classical.not_imp.1 hi
              exact lst_no hi (by cases e : badB P k i <;> simp_all)
            clear HV
            go_wp2_with fail
            go_roundw
            case rel => exact ⟨k + 1, by omega, by go_num, by rw [HE.out]; exact hown, hB.out⟩
            case measure => simp [intOf]; omega
          · have HE : Hid (lst P p (k + 1) = lst P p k ++ [k]) := lst_yes HV.out.yes
            have hlen := lst_len P p k
            have hsz := hB.out.size
            obtain ⟨L, HL⟩ : ∃ L, Hid (L = lst P p k) := ⟨_, rfl⟩
            rw [← HL.out] at hown hlen
            clear HV
            go_wp2_with (at_builtin; refine wpList_append_own _ rfl _ _ 22 rfl w.heap.size 3 i0 (.int .i64 0) 1 8 Tryd.underlying22 hi hz0 hz1 hz2 rfl (by decide) _ _ _ rfl (hown.alloc _) ⟨wr.heap.size, 0, none⟩ 1 1 [.int .i64 (k : Nat)] rfl rfl ?c1 ?c2 ?c3 ?c4 ?c5 ?_)
            case c1 =>
              intro j u hj
              match j, hj with
              | 0, hj => simp at hj; subst hj; simp [Addr.add]
            case c2 => intro u hu; simp at hu; subst hu; rfl
            case c3 => unfold maxLen; omega
            case c4 => omega
            case c5 => simp; omega
            intro v' w2 hown' hgrow _
            have HB5 : Hid (Below w.heap.size w w2) := below_append3 hB.out hown hgrow
            have HO5 : Hid (w2.ownsRow w.heap.size 3 1 v' (lst P p (k + 1)).length (natVals (lst P p (k + 1)))) := by
              rw [HE.out, ← HL.out, natVals_append, List.length_append]; exact hown'
            clear hown' hgrow hown hB hlen hsz HL
            go_wp2_with fail
            go_roundw
            case rel => exact ⟨k + 1, by omega, by go_num, HO5.out, HB5.out⟩
            case measure => simp [intOf]; omega
    · obtain rfl : k = n := by omega
      have HF : Hid (NSl wr u5 (lst P k k) ∧ ∀ q, u5.ownBlock = some q → w.heap.size ≤ q) := ⟨owns_nats hown, owns_block hown⟩
      clear hown
      go_wp2_with fail
      go_ret
      exact ⟨⟨_, rfl, HF.out⟩, hB.out⟩

theorem times_any (a : Option Addr) (l ca : Nat) (f : Nat → Nat) (x : Nat) (w : World) (hl : l ≤ 12) (ha : Row w a l (fun k => (f k : Nat))) :
    Calls Tryd.prog 37 #[.slice a l ca, .int .i64 (x : Nat)] w fun e w' => e = .returned (.int .i64 (tms l f x : Nat)) ∧ w = w' := timesIn_any a l ca f x w hl ha
def Two (A B : Nat → Nat) (k : Nat) : Prop := ∃ x, x < k ∧ A x ≠ B x
def Und (g A B : Nat → Nat) (x q : Nat) : Prop := ∃ y, y < q ∧ (g y).testBit x = true ∧ A y < B y
theorem Two.skip {A B : Nat → Nat} {k : Nat} {v : Bool} (h : BP v (Two A B k)) (e : A k = B k) : BP v (Two A B (k + 1)) := by
  refine h.trans ⟨fun ⟨x, h1, h2⟩ => ⟨x, by omega, h2⟩, fun ⟨x, h1, h2⟩ => ?_⟩
  by_cases ex : x = k
  · subst ex; exact absurd e h2
  · exact ⟨x, by omega, h2⟩
theorem Und.skip {g A B : Nat → Nat} {x q : Nat} {v : Bool} (h : BP v (Und g A B x q)) (e : ¬ ((g q).testBit x = true ∧ A q < B q)) : BP v (Und g A B x (q + 1)) := by
  refine h.trans ⟨fun ⟨y, h1, h2⟩ => ⟨y, by omega, h2⟩, fun ⟨y, h1, h2⟩ => ?_⟩
  by_cases ex : y = q
  · subst ex; exact absurd h2 e
  · exact ⟨y, by omega, h2⟩
end Go.Proofs.YtimpgcmkdcmhkaaDoor
