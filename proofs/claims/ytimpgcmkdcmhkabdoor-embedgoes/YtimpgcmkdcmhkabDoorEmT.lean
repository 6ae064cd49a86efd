/-
  What the closures of embed.Least and Corners answer, and Into, Least, Divides, Corners, Good themselves, whatever they are handed. No condition but that slices read as slices of numbers.
-/
import Derived.Test.YtimpgcmkdcmhkabDoorEmS
namespace Go.Proofs.YtimpgcmkdcmhkabDoor
set_option maxRecDepth 100000
open Go.RowKit

/-- Does word x go into word y? -/
def wdP (g : Nat → Nat) (S : Nat → Option Addr × Nat × Nat) (F : Nat → Nat → Int) (x y : Nat) : Bool := goesB g (S x).2.1 (nat (F x)) (S y).2.1 (nat (F y))
/-- Does row x divide row y? -/
def rwP (S : Nat → Option Addr × Nat × Nat) (F : Nat → Nat → Int) (x y : Nat) : Bool := divB (S x).2.1 (F x) (F y)
theorem row_nat {w : World} {a : Option Addr} {l : Nat} {f : Nat → Int} (h : Row w a l f) (hp : ∀ k, k < l → 0 ≤ f k) : Row w a l (fun k => ((nat f k : Nat) : Int)) := fun k hk => by
  obtain ⟨b, off, e, hc⟩ := h k hk
  refine ⟨b, off, e, ?_⟩
  have := hp k hk
  rw [hc, show f k = ((nat f k : Nat) : Int) by unfold nat; omega]
/-- What is known of one of the words. -/
theorem word_of {w : World} {a : Option Addr} {m : Nat} {S : Nat → Option Addr × Nat × Nat} {F : Nat → Nat → Int} {n : Nat} (h : RR w a m S F) (hM : ¬ Many m S) (hL : Lets n m S F) {k : Nat} (hk : k < m) :
    ∃ b off, a = some ⟨b, off, none⟩ ∧ w.cell? ⟨b, off + k, none⟩ = some (.slice (S k).1 (S k).2.1 (S k).2.2) ∧ (S k).2.1 ≤ 12 ∧ Row w (S k).1 (S k).2.1 (fun i => ((nat (F k) i : Nat) : Int)) ∧ ∀ i, i < (S k).2.1 → nat (F k) i < n := by
  obtain ⟨b, off, e, hc, _, hr⟩ := h k hk
  refine ⟨b, off, e, hc, ?_, row_nat hr (fun i hi => (hL k hk i hi).1), fun i hi => ?_⟩
  · exact Nat.le_of_not_lt fun h => hM (.inr ⟨k, hk, h⟩)
  · have := hL k hk i hi; unfold nat; omega
theorem ent_least1 : Ent 20 := fun _ _ => by kernel_rfl
theorem ent_corn1 : Ent 23 := fun _ _ => by kernel_rfl

set_option maxHeartbeats 2000000 in
theorem least1_any (n : Int) (ao : Option Addr) (len co B0 B1 : Nat) (f : Nat → Int) (a : Option Addr) (m cap : Nat) (S : Nat → Option Addr × Nat × Nat) (F : Nat → Nat → Int) (w : World) (h10 : len ≤ 10) (hg : ∀ k, k < len → nat f k < 1024)
    (hH : Held w B0 n ao len co (fun k => ((nat f k : Nat) : Int))) (hB : w.cell? ⟨B1, 0, none⟩ = some (.slice a m cap)) (hr : RR w a m S F) (hM : ¬ Many m S) (hL : Lets len m S F) :
    Clo2 m 20 #[.pointer (some ⟨B0, 0, none⟩), .pointer (some ⟨B1, 0, none⟩)] (wdP (nat f) S F) w := fun x y hx hy W hW => by
  show Calls Tryd.prog 20 #[.int .i64 (x : Nat), .int .i64 (y : Nat), .pointer (some ⟨B0, 0, none⟩), .pointer (some ⟨B1, 0, none⟩)] W _
  have HH : Hid (Held W B0 n ao len co (fun k => ((nat f k : Nat) : Int))) := hH.step hW
  have hB' := cell_step hW hB
  have hR := hr.below hW
  obtain ⟨b, off, rfl, cx, lx, rx, fx⟩ := word_of hR hM hL hx
  obtain ⟨b', off', hbb, cy, ly, ry, fy⟩ := word_of hR hM hL hy
  simp at hbb
  obtain ⟨rfl, rfl⟩ := hbb
  have HG : Hid (∀ k, k < len → nat f k < 1024) := hg
  have HLX : Hid (∀ i, i < (S x).2.1 → nat (F x) i < len) := fx
  have HLY : Hid (∀ i, i < (S y).2.1 → nat (F y) i < len) := fy
  have HX : Hid (∀ w', Below W.heap.size W w' → Row w' (S x).1 (S x).2.1 (fun i => ((nat (F x) i : Nat) : Int))) := fun w' h => rx.below h
  have HY : Hid (∀ w', Below W.heap.size W w' → Row w' (S y).1 (S y).2.1 (fun i => ((nat (F y) i : Nat) : Int))) := fun w' h => ry.below h
  have HRO : Hid (∀ w', Below W.heap.size W w' → Row w' ao len (fun k => ((nat f k : Nat) : Int))) := fun w' h => (HH.out.step h).row
  have l0 : ∀ w', Below W.heap.size W w' → w'.cell? ⟨B0, 0, none⟩ = some (.int .i64 n) := fun w' h => (HH.out.step h).c0
  have l1 : ∀ w', Below W.heap.size W w' → w'.cell? ⟨B0, 1, none⟩ = some (.slice ao len co) := fun w' h => (HH.out.step h).c1
  have l2 : ∀ w', Below W.heap.size W w' → w'.cell? ⟨B1, 0, none⟩ = some (.slice (some ⟨b, off, none⟩) m cap) := fun w' h => cell_step h hB'
  have l3 : ∀ w', Below W.heap.size W w' → w'.cell? ⟨b, off + x, none⟩ = some (.slice (S x).1 (S x).2.1 (S x).2.2) := fun w' h => cell_step h cx
  have l4 : ∀ w', Below W.heap.size W w' → w'.cell? ⟨b, off + y, none⟩ = some (.slice (S y).1 (S y).2.1 (S y).2.2) := fun w' h => cell_step h cy
  have hx' : (x : Int) < (m : Int) := by omega
  have hy' : (y : Int) < (m : Int) := by omega
  clear hH hB hB' hr hM hL hR cx cy rx ry fx fy hg hW HH
  unfold wdP
  have hr2 := lx
  have hs2 := ly
  clear lx ly
  generalize hs1 : (S x).1 = r1 at *
  generalize hs2' : (S x).2.1 = r2 at *
  generalize hs3 : (S x).2.2 = r3 at *
  generalize ht1 : (S y).1 = s1 at *
  generalize ht2 : (S y).2.1 = s2 at *
  generalize ht3 : (S y).2.2 = s3 at *
  clear hs1 hs2' hs3 ht1 ht2 ht3
  have KK : Below W.heap.size W W.drew := (Below.refl _ _).drew
  go_enter Tryd.func20, Tryd.ntmps20
  go_wp2_with fail
  refine wp_region_held_drew (S := (fun w' => Below W.heap.size W w')) (by kernel_rfl) (KK) (fun hHeld => ?_)
  refine wpAnyH_take (i := 0) (oi := { dst := some 7, op := Go.Op.load 24 (Go.Operand.tmp 2), type := 24, pos := "embed.go:23", after := #[], guard := none }) (v := ?_) rfl (by kernel_rfl) (by kernel_rfl) (by kernel_rfl) (fun _ _ _ h => h) (Or.inl ⟨by rfl, ?hy⟩) (by assumption) ?_
  case hy => (intro w9 hSw; (try dsimp only at hSw); go_simp; try with_reducible rfl)
  try simp only [Act.put, List.setIfInBounds_toArray, List.set_cons_zero, List.set_cons_succ]
  refine wpAnyH_take (i := 1) (oi := { dst := some 8, op := Go.Op.load 25 (Go.Operand.tmp 3), type := 25, pos := "embed.go:23", after := #[], guard := none }) (v := ?_) rfl (by kernel_rfl) (by kernel_rfl) (by kernel_rfl) (fun _ _ _ h => h) (Or.inl ⟨by rfl, ?hy⟩) (by assumption) ?_
  case hy => (intro w9 hSw; (try dsimp only at hSw); go_simp; try with_reducible rfl)
  try simp only [Act.put, List.setIfInBounds_toArray, List.set_cons_zero, List.set_cons_succ]
  refine wpAnyH_take (i := 2) (oi := { dst := some 9, op := Go.Op.move (Go.Operand.tmp 0), type := 3, pos := "embed.go:23", after := #[], guard := none }) (v := ?_) rfl (by kernel_rfl) (by kernel_rfl) (by kernel_rfl) (fun _ _ _ h => h) (Or.inl ⟨by rfl, ?hy⟩) (by assumption) ?_
  case hy => (intro w9 hSw; (try dsimp only at hSw); go_simp; try with_reducible rfl)
  try simp only [Act.put, List.setIfInBounds_toArray, List.set_cons_zero, List.set_cons_succ]
  refine wpAnyH_take (i := 3) (oi := { dst := some 10, op := Go.Op.indexAddr 25 (Go.Operand.tmp 8) (Go.Operand.tmp 9), type := 0, pos := "embed.go:23", after := #[{ on := 1, ground := Go.Ground.data }, { on := 2, ground := Go.Ground.data }], guard := none }) (v := ?_) rfl (by kernel_rfl) (by kernel_rfl) (by kernel_rfl) (fun _ _ _ h => h) (Or.inl ⟨by rfl, ?hy⟩) (by assumption) ?_
  case hy => (intro w9 hSw; (try dsimp only at hSw); go_simp; try with_reducible rfl)
  try simp only [Act.put, List.setIfInBounds_toArray, List.set_cons_zero, List.set_cons_succ]
  refine wpAnyH_take (i := 4) (oi := { dst := some 11, op := Go.Op.load 22 (Go.Operand.tmp 10), type := 22, pos := "embed.go:23", after := #[{ on := 3, ground := Go.Ground.data }], guard := none }) (v := ?_) rfl (by kernel_rfl) (by kernel_rfl) (by kernel_rfl) (fun _ _ _ h => h) (Or.inl ⟨by rfl, ?hy⟩) (by assumption) ?_
  case hy => (intro w9 hSw; (try dsimp only at hSw); go_simp; try with_reducible rfl)
  try simp only [Act.put, List.setIfInBounds_toArray, List.set_cons_zero, List.set_cons_succ]
  refine wpAnyH_take (i := 5) (oi := { dst := some 12, op := Go.Op.load 25 (Go.Operand.tmp 3), type := 25, pos := "embed.go:23", after := #[], guard := none }) (v := ?_) rfl (by kernel_rfl) (by kernel_rfl) (by kernel_rfl) (fun _ _ _ h => h) (Or.inl ⟨by rfl, ?hy⟩) (by assumption) ?_
  case hy => (intro w9 hSw; (try dsimp only at hSw); go_simp; try with_reducible rfl)
  try simp only [Act.put, List.setIfInBounds_toArray, List.set_cons_zero, List.set_cons_succ]
  refine wpAnyH_take (i := 6) (oi := { dst := some 13, op := Go.Op.move (Go.Operand.tmp 1), type := 3, pos := "embed.go:23", after := #[], guard := none }) (v := ?_) rfl (by kernel_rfl) (by kernel_rfl) (by kernel_rfl) (fun _ _ _ h => h) (Or.inl ⟨by rfl, ?hy⟩) (by assumption) ?_
  case hy => (intro w9 hSw; (try dsimp only at hSw); go_simp; try with_reducible rfl)
  try simp only [Act.put, List.setIfInBounds_toArray, List.set_cons_zero, List.set_cons_succ]
  refine wpAnyH_take (i := 7) (oi := { dst := some 14, op := Go.Op.indexAddr 25 (Go.Operand.tmp 12) (Go.Operand.tmp 13), type := 0, pos := "embed.go:23", after := #[{ on := 5, ground := Go.Ground.data }, { on := 6, ground := Go.Ground.data }], guard := none }) (v := ?_) rfl (by kernel_rfl) (by kernel_rfl) (by kernel_rfl) (fun _ _ _ h => h) (Or.inl ⟨by rfl, ?hy⟩) (by assumption) ?_
  case hy => (intro w9 hSw; (try dsimp only at hSw); go_simp; try with_reducible rfl)
  try simp only [Act.put, List.setIfInBounds_toArray, List.set_cons_zero, List.set_cons_succ]
  refine wpAnyH_take (i := 8) (oi := { dst := some 15, op := Go.Op.load 22 (Go.Operand.tmp 14), type := 22, pos := "embed.go:23", after := #[{ on := 7, ground := Go.Ground.data }], guard := none }) (v := ?_) rfl (by kernel_rfl) (by kernel_rfl) (by kernel_rfl) (fun _ _ _ h => h) (Or.inl ⟨by rfl, ?hy⟩) (by assumption) ?_
  case hy => (intro w9 hSw; (try dsimp only at hSw); go_simp; try with_reducible rfl)
  try simp only [Act.put, List.setIfInBounds_toArray, List.set_cons_zero, List.set_cons_succ]
  refine wpAnyH_ready (rs := [9]) (by kernel_rfl) (by simp) ?_
  refine AllReadyH.cons (o := { dst := some 16, op := Go.Op.call { callee := Go.Callee.value (Go.Operand.func 21), args := #[Go.Operand.tmp 7, Go.Operand.tmp 11, Go.Operand.tmp 15], argTypes := #[24, 22, 22] }, type := 4, pos := "embed.go:23", after := #[{ on := 0, ground := Go.Ground.data }, { on := 4, ground := Go.Ground.data }, { on := 8, ground := Go.Ground.data }], guard := none }) rfl (fun K hK => ?_) AllReadyH.nil
  go_simp
  refine (goesInto_any n ao len co (nat f) r1 r2 r3 (nat (F x)) s1 s2 s3 (nat (F y)) _ h10 HG.out (HRO.out _ (by assumption)) (HX.out _ (by assumption)) (HY.out _ (by assumption)) hr2 hs2 HLX.out HLY.out).mono ?_
  rintro e w5 ⟨rfl, hb5⟩
  refine hK.out _ _ ?_ (fun hHeld => ?_)
  · first | assumption | exact Below.then (by assumption) (by assumption)
  clear hK K
  try simp only [Act.put, List.setIfInBounds_toArray, List.set_cons_zero, List.set_cons_succ]
  refine wpAnyH_take (i := 10) (oi := { dst := some 6, op := Go.Op.assign (Go.Operand.tmp 16), type := 4, pos := "embed.go:23", after := #[{ on := 9, ground := Go.Ground.data }, { on := 9, ground := Go.Ground.chain }, { on := 0, ground := Go.Ground.phase }, { on := 1, ground := Go.Ground.phase }, { on := 2, ground := Go.Ground.phase }, { on := 3, ground := Go.Ground.phase }, { on := 4, ground := Go.Ground.phase }, { on := 5, ground := Go.Ground.phase }, { on := 6, ground := Go.Ground.phase }, { on := 7, ground := Go.Ground.phase }, { on := 8, ground := Go.Ground.phase }, { on := 9, ground := Go.Ground.phase }], guard := none }) (v := ?_) rfl (by kernel_rfl) (by kernel_rfl) (by kernel_rfl) (fun _ _ _ h => h) (Or.inl ⟨by rfl, ?hy⟩) (by assumption) ?_
  case hy => (intro w9 hSw; (try dsimp only at hSw); go_simp; try with_reducible rfl)
  try simp only [Act.put, List.setIfInBounds_toArray, List.set_cons_zero, List.set_cons_succ]
  refine wpAnyH_done (by kernel_rfl) ?_ _
  try simp only [Act.put, List.setIfInBounds_toArray, List.set_cons_zero, List.set_cons_succ]
  have HB6 : Hid (Below W.heap.size W w5) := by assumption
  clear l0 l1 l2 l3 l4
  go_wp2_with fail
  go_ret
  exact ⟨rfl, HB6.out⟩

set_option maxHeartbeats 2000000 in
theorem corn1_any (B1 : Nat) (a : Option Addr) (m cap : Nat) (S : Nat → Option Addr × Nat × Nat) (F : Nat → Nat → Int) (w : World) (hB : w.cell? ⟨B1, 0, none⟩ = some (.slice a m cap)) (hr : RR w a m S F) (hM : ¬ Many m S) (hFr : Frm m S) :
    Clo2 m 23 #[.pointer (some ⟨B1, 0, none⟩)] (rwP S F) w := fun x y hx hy W hW => by
  show Calls Tryd.prog 23 #[.int .i64 (x : Nat), .int .i64 (y : Nat), .pointer (some ⟨B1, 0, none⟩)] W _
  have hB' := cell_step hW hB
  have hR := hr.below hW
  obtain ⟨b, off, rfl, cx, _, rx⟩ := hR x hx
  obtain ⟨b', off', hbb, cy, _, ry⟩ := hR y hy
  simp at hbb
  obtain ⟨rfl, rfl⟩ := hbb
  have hr2 : (S x).2.1 ≤ 12 := Nat.le_of_not_lt fun h => hM (.inr ⟨x, hx, h⟩)
  have exy : (S y).2.1 = (S x).2.1 := (hFr y hy).trans (hFr x hx).symm
  rw [exy] at ry cy
  have HX : Hid (∀ w', Below W.heap.size W w' → Row w' (S x).1 (S x).2.1 (F x)) := fun w' h => rx.below h
  have HY : Hid (∀ w', Below W.heap.size W w' → Row w' (S y).1 (S x).2.1 (F y)) := fun w' h => ry.below h
  have l2 : ∀ w', Below W.heap.size W w' → w'.cell? ⟨B1, 0, none⟩ = some (.slice (some ⟨b, off, none⟩) m cap) := fun w' h => cell_step h hB'
  have l3 : ∀ w', Below W.heap.size W w' → w'.cell? ⟨b, off + x, none⟩ = some (.slice (S x).1 (S x).2.1 (S x).2.2) := fun w' h => cell_step h cx
  have l4 : ∀ w', Below W.heap.size W w' → w'.cell? ⟨b, off + y, none⟩ = some (.slice (S y).1 (S x).2.1 (S y).2.2) := fun w' h => cell_step h cy
  have hx' : (x : Int) < (m : Int) := by omega
  have hy' : (y : Int) < (m : Int) := by omega
  clear hB hB' hr hM hR cx cy rx ry hW exy hFr
  unfold rwP
  generalize hs1 : (S x).1 = r1 at *
  generalize hs2' : (S x).2.1 = r2 at *
  generalize hs3 : (S x).2.2 = r3 at *
  generalize ht1 : (S y).1 = s1 at *
  generalize ht3 : (S y).2.2 = s3 at *
  clear hs1 hs2' hs3 ht1 ht3
  have KK : Below W.heap.size W W.drew := (Below.refl _ _).drew
  go_enter Tryd.func23, Tryd.ntmps23
  go_wp2_with fail
  refine wp_region_held_drew (S := (fun w' => Below W.heap.size W w')) (by kernel_rfl) (KK) (fun hHeld => ?_)
  refine wpAnyH_take (i := 0) (oi := { dst := some 6, op := Go.Op.load 25 (Go.Operand.tmp 2), type := 25, pos := "embed.go:68", after := #[], guard := none }) (v := ?_) rfl (by kernel_rfl) (by kernel_rfl) (by kernel_rfl) (fun _ _ _ h => h) (Or.inl ⟨by rfl, ?hy⟩) (by assumption) ?_
  case hy => (intro w9 hSw; (try dsimp only at hSw); go_simp; try with_reducible rfl)
  try simp only [Act.put, List.setIfInBounds_toArray, List.set_cons_zero, List.set_cons_succ]
  refine wpAnyH_take (i := 1) (oi := { dst := some 7, op := Go.Op.move (Go.Operand.tmp 0), type := 3, pos := "embed.go:68", after := #[], guard := none }) (v := ?_) rfl (by kernel_rfl) (by kernel_rfl) (by kernel_rfl) (fun _ _ _ h => h) (Or.inl ⟨by rfl, ?hy⟩) (by assumption) ?_
  case hy => (intro w9 hSw; (try dsimp only at hSw); go_simp; try with_reducible rfl)
  try simp only [Act.put, List.setIfInBounds_toArray, List.set_cons_zero, List.set_cons_succ]
  refine wpAnyH_take (i := 2) (oi := { dst := some 8, op := Go.Op.indexAddr 25 (Go.Operand.tmp 6) (Go.Operand.tmp 7), type := 0, pos := "embed.go:68", after := #[{ on := 0, ground := Go.Ground.data }, { on := 1, ground := Go.Ground.data }], guard := none }) (v := ?_) rfl (by kernel_rfl) (by kernel_rfl) (by kernel_rfl) (fun _ _ _ h => h) (Or.inl ⟨by rfl, ?hy⟩) (by assumption) ?_
  case hy => (intro w9 hSw; (try dsimp only at hSw); go_simp; try with_reducible rfl)
  try simp only [Act.put, List.setIfInBounds_toArray, List.set_cons_zero, List.set_cons_succ]
  refine wpAnyH_take (i := 3) (oi := { dst := some 9, op := Go.Op.load 22 (Go.Operand.tmp 8), type := 22, pos := "embed.go:68", after := #[{ on := 2, ground := Go.Ground.data }], guard := none }) (v := ?_) rfl (by kernel_rfl) (by kernel_rfl) (by kernel_rfl) (fun _ _ _ h => h) (Or.inl ⟨by rfl, ?hy⟩) (by assumption) ?_
  case hy => (intro w9 hSw; (try dsimp only at hSw); go_simp; try with_reducible rfl)
  try simp only [Act.put, List.setIfInBounds_toArray, List.set_cons_zero, List.set_cons_succ]
  refine wpAnyH_take (i := 4) (oi := { dst := some 10, op := Go.Op.load 25 (Go.Operand.tmp 2), type := 25, pos := "embed.go:68", after := #[], guard := none }) (v := ?_) rfl (by kernel_rfl) (by kernel_rfl) (by kernel_rfl) (fun _ _ _ h => h) (Or.inl ⟨by rfl, ?hy⟩) (by assumption) ?_
  case hy => (intro w9 hSw; (try dsimp only at hSw); go_simp; try with_reducible rfl)
  try simp only [Act.put, List.setIfInBounds_toArray, List.set_cons_zero, List.set_cons_succ]
  refine wpAnyH_take (i := 5) (oi := { dst := some 11, op := Go.Op.move (Go.Operand.tmp 1), type := 3, pos := "embed.go:68", after := #[], guard := none }) (v := ?_) rfl (by kernel_rfl) (by kernel_rfl) (by kernel_rfl) (fun _ _ _ h => h) (Or.inl ⟨by rfl, ?hy⟩) (by assumption) ?_
  case hy => (intro w9 hSw; (try dsimp only at hSw); go_simp; try with_reducible rfl)
  try simp only [Act.put, List.setIfInBounds_toArray, List.set_cons_zero, List.set_cons_succ]
  refine wpAnyH_take (i := 6) (oi := { dst := some 12, op := Go.Op.indexAddr 25 (Go.Operand.tmp 10) (Go.Operand.tmp 11), type := 0, pos := "embed.go:68", after := #[{ on := 4, ground := Go.Ground.data }, { on := 5, ground := Go.Ground.data }], guard := none }) (v := ?_) rfl (by kernel_rfl) (by kernel_rfl) (by kernel_rfl) (fun _ _ _ h => h) (Or.inl ⟨by rfl, ?hy⟩) (by assumption) ?_
  case hy => (intro w9 hSw; (try dsimp only at hSw); go_simp; try with_reducible rfl)
  try simp only [Act.put, List.setIfInBounds_toArray, List.set_cons_zero, List.set_cons_succ]
  refine wpAnyH_take (i := 7) (oi := { dst := some 13, op := Go.Op.load 22 (Go.Operand.tmp 12), type := 22, pos := "embed.go:68", after := #[{ on := 6, ground := Go.Ground.data }], guard := none }) (v := ?_) rfl (by kernel_rfl) (by kernel_rfl) (by kernel_rfl) (fun _ _ _ h => h) (Or.inl ⟨by rfl, ?hy⟩) (by assumption) ?_
  case hy => (intro w9 hSw; (try dsimp only at hSw); go_simp; try with_reducible rfl)
  try simp only [Act.put, List.setIfInBounds_toArray, List.set_cons_zero, List.set_cons_succ]
  refine wpAnyH_ready (rs := [8]) (by kernel_rfl) (by simp) ?_
  refine AllReadyH.cons (o := { dst := some 14, op := Go.Op.call { callee := Go.Callee.value (Go.Operand.func 24), args := #[Go.Operand.tmp 9, Go.Operand.tmp 13], argTypes := #[22, 22] }, type := 4, pos := "embed.go:68", after := #[{ on := 3, ground := Go.Ground.data }, { on := 7, ground := Go.Ground.data }], guard := none }) rfl (fun K hK => ?_) AllReadyH.nil
  go_simp
  refine (divides_any r1 r2 r3 (F x) s1 s3 (F y) _ hr2 (HX.out _ (by assumption)) (HY.out _ (by assumption))).mono ?_
  rintro e w5 ⟨rfl, hb5⟩
  subst hb5
  refine hK.out _ _ ?_ (fun hHeld => ?_)
  · first | assumption | exact Below.then (by assumption) (by assumption)
  clear hK K
  try simp only [Act.put, List.setIfInBounds_toArray, List.set_cons_zero, List.set_cons_succ]
  refine wpAnyH_take (i := 9) (oi := { dst := some 5, op := Go.Op.assign (Go.Operand.tmp 14), type := 4, pos := "embed.go:68", after := #[{ on := 8, ground := Go.Ground.data }, { on := 8, ground := Go.Ground.chain }, { on := 0, ground := Go.Ground.phase }, { on := 1, ground := Go.Ground.phase }, { on := 2, ground := Go.Ground.phase }, { on := 3, ground := Go.Ground.phase }, { on := 4, ground := Go.Ground.phase }, { on := 5, ground := Go.Ground.phase }, { on := 6, ground := Go.Ground.phase }, { on := 7, ground := Go.Ground.phase }, { on := 8, ground := Go.Ground.phase }], guard := none }) (v := ?_) rfl (by kernel_rfl) (by kernel_rfl) (by kernel_rfl) (fun _ _ _ h => h) (Or.inl ⟨by rfl, ?hy⟩) (by assumption) ?_
  case hy => (intro w9 hSw; (try dsimp only at hSw); go_simp; try with_reducible rfl)
  try simp only [Act.put, List.setIfInBounds_toArray, List.set_cons_zero, List.set_cons_succ]
  refine wpAnyH_done (by kernel_rfl) ?_ _
  try simp only [Act.put, List.setIfInBounds_toArray, List.set_cons_zero, List.set_cons_succ]
  clear l2 l3 l4
  go_wp2_with fail
  go_ret
  exact ⟨rfl, KK⟩
end Go.Proofs.YtimpgcmkdcmhkabDoor
