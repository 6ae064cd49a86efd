/-
  What worse answers, where next answers what is weighed next of what has fewer open pairs. Conditions: at most five points.
-/
import Derived.Test.YtipgojoiakbaiaaWoN
namespace Go.Proofs.Ytipgojoiakbaiaa
open Go.RowKit Go.Maps Go.WideMaps
set_option maxRecDepth 100000

/-- A table as a value. -/
def tbl (n Bm : Nat) : Value := .agg #[.int .i64 (n : Nat), .map (some Bm)]
theorem grown_drew (W : World) (row : Option Nat) : W.grownBy W.drew row := ⟨rfl, rfl, rfl, Nat.le_refl _, fun _ _ _ => rfl⟩
/-- What next answers of what has fewer than d open pairs. -/
def NxC (n Bm d : Nat) : Prop := ∀ (g : Nat → Nat) (w : World) (D : DataW Value) (k : Nat), WOk n g → ops n g < d → MOk n Bm k w D → k + 21 ^ d < maxLen →
  Calls Try.prog 30 #[tbl n Bm, .agg (kva g)] w fun e w' => e = .returned (wgV (nx n g)) ∧ w.grownBy w' (some Bm) ∧ ∃ D', MOk n Bm (k + 21 ^ d) w' D'
theorem TB.box (w : World) (n Bm : Nat) : (w.alloc (.cells #[.int .i64 (n : Nat), .map (some Bm)] 58)).cell? ⟨w.heap.size, 0, none⟩ = some (.int .i64 (n : Nat)) ∧ (w.alloc (.cells #[.int .i64 (n : Nat), .map (some Bm)] 58)).cell? ⟨w.heap.size, 1, none⟩ = some (.map (some Bm)) := by simp
theorem field_c (A B C : Value) (w : World) : Sem.run Try.prog (Instr.field 55 (.agg #[A, B, C]) 2) w = .ok C w := by simp [go_sem, Instr.field, asAgg]
set_option maxHeartbeats 4000000 in
theorem worse_any {n Bm d : Nat} (h : NxC n Bm d) (g1 g2 : Nat → Nat) (w : World) (D : DataW Value) (k : Nat) (h1 : WOk n g1) (h2 : WOk n g2) (o1 : ops n g1 < d) (o2 : ops n g2 < d) (hm : MOk n Bm k w D) (hk : k + 2 * 21 ^ d < maxLen) :
    Calls Try.prog 54 #[tbl n Bm, .agg (kva g1), .agg (kva g2)] w fun e w' => e = .returned (.int .i64 ((max (cst n g1) (cst n g2) : Nat) : Int)) ∧ w.grownBy w' (some Bm) ∧ ∃ D', MOk n Bm (k + 2 * 21 ^ d) w' D' := by
  obtain ⟨W, HW⟩ : ∃ W, Hid (((w.alloc (.cells #[.int .i64 (n : Nat), .map (some Bm)] 58)).alloc (.cells (kva g1) 62)).alloc (.cells (kva g2) 62) = W) := ⟨_, rfl⟩
  have hB : Below w.heap.size w W := by rw [← HW.out]; exact (((Below.refl _ _).alloc (Nat.le_refl _) _).alloc (by simp) _).alloc (by simp; omega) _
  have hbm : Bm < w.heap.size := hm.own.lt
  have ht : W.cell? ⟨w.heap.size, 0, none⟩ = some (.int .i64 (n : Nat)) ∧ W.cell? ⟨w.heap.size, 1, none⟩ = some (.map (some Bm)) := by
    rw [← HW.out]
    have k0 := TB.box w n Bm
    constructor
    · rw [World.cell?_alloc_lt _ _ _ (by simp; omega), World.cell?_alloc_lt _ _ _ (by simp)]; exact k0.1
    · rw [World.cell?_alloc_lt _ _ _ (by simp; omega), World.cell?_alloc_lt _ _ _ (by simp)]; exact k0.2
  have hk1 : KB W (w.heap.size + 1) g1 := by
    have := KB.box (w.alloc (.cells #[.int .i64 (n : Nat), .map (some Bm)] 58)) g1
    simp only [World.size_alloc] at this
    rw [← HW.out]
    exact this.keep (B := w.heap.size + 1 + 1) ((Below.refl _ _).alloc (by simp) _) (by omega)
  have hk2 : KB W (w.heap.size + 1 + 1) g2 := by
    have := KB.box ((w.alloc (.cells #[.int .i64 (n : Nat), .map (some Bm)] 58)).alloc (.cells (kva g1) 62)) g2
    simp only [World.size_alloc] at this
    rw [← HW.out]
    exact this
  have tk : ∀ {b i : Nat} {v : Value}, w.heap.size ≤ b → W.cell? ⟨b, i, none⟩ = some v → ∀ wx, W.grownBy wx (some Bm) → wx.cell? ⟨b, i, none⟩ = some v := fun hb hc wx hg => hg.cell hc (fun e => by have := Option.some.inj e; simp at this; omega)
  have c0 := tk (Nat.le_refl _) ht.1
  have c1 := tk (Nat.le_refl _) ht.2
  have p0 := tk (by omega) (hk1 0 (by decide)).1
  have p1 := tk (by omega) (hk1 1 (by decide)).1
  have p2 := tk (by omega) (hk1 2 (by decide)).1
  have p3 := tk (by omega) (hk1 3 (by decide)).1
  have p4 := tk (by omega) (hk1 4 (by decide)).1
  have q0 := tk (by omega) (hk2 0 (by decide)).1
  have q1 := tk (by omega) (hk2 1 (by decide)).1
  have q2 := tk (by omega) (hk2 2 (by decide)).1
  have q3 := tk (by omega) (hk2 3 (by decide)).1
  have q4 := tk (by omega) (hk2 4 (by decide)).1
  have HN : Hid (NxC n Bm d) := h
  have HG1 : Hid (WOk n g1) := h1
  have HG2 : Hid (WOk n g2) := h2
  have HO1 : Hid (ops n g1 < d) := o1
  have HO2 : Hid (ops n g2 < d) := o2
  have HM : Hid (MOk n Bm k W D) := hm.kept (grown_of_below hB _)
  have HK1 : Hid (k + 21 ^ d < maxLen) := show _ < _ by omega
  have HK2 : Hid (k + 21 ^ d + 21 ^ d < maxLen) := show _ < _ by omega
  have HB : Hid (w.grownBy W (some Bm)) := grown_of_below hB _
  have HE : Hid (k + 21 ^ d + 21 ^ d = k + 2 * 21 ^ d) := show _ = _ by omega
  have hc1 := cst_ten h1
  have hc2 := cst_ten h2
  unfold cst at hc1 hc2
  clear tk ht hk1 hk2 hB hm h h1 h2 o1 o2 hk
  have hfc := field_c
  unfold tbl cst
  go_enter Try.func54, Try.ntmps54
  go_wp2_with fail
  rw [HW.out]
  clear HW
  refine wp_region_held_drew (S := (fun w' => W.grownBy w' (some Bm))) (by kernel_rfl) (⟨rfl, rfl, rfl, Nat.le_refl _, fun _ _ _ => rfl⟩) (fun hHeld => ?_)
  refine wpAnyH_take (i := 0) (oi := { dst := some 7, op := Go.Op.load 58 (Go.Operand.tmp 3), type := 58, pos := "table.go:74", after := #[], guard := none }) (v := ?_) rfl (by kernel_rfl) (by kernel_rfl) (by kernel_rfl) (fun _ _ _ h => h) (Or.inl ⟨by rfl, ?hy⟩) (by assumption) ?_
  case hy => (intro w9 hSw; (try dsimp only at hSw); go_simp; try with_reducible rfl)
  try simp only [Act.put, List.setIfInBounds_toArray, List.set_cons_zero, List.set_cons_succ]
  refine wpAnyH_take (i := 1) (oi := { dst := some 8, op := Go.Op.load 62 (Go.Operand.tmp 4), type := 62, pos := "table.go:74", after := #[], guard := none }) (v := ?_) rfl (by kernel_rfl) (by kernel_rfl) (by kernel_rfl) (fun _ _ _ h => h) (Or.inl ⟨by rfl, ?hy⟩) (by assumption) ?_
  case hy => (intro w9 hSw; (try dsimp only at hSw); go_simp; try with_reducible rfl)
  try simp only [Act.put, List.setIfInBounds_toArray, List.set_cons_zero, List.set_cons_succ]
  refine wpAnyH_take (i := 4) (oi := { dst := some 11, op := Go.Op.load 58 (Go.Operand.tmp 3), type := 58, pos := "table.go:74", after := #[], guard := none }) (v := ?_) rfl (by kernel_rfl) (by kernel_rfl) (by kernel_rfl) (fun _ _ _ h => h) (Or.inl ⟨by rfl, ?hy⟩) (by assumption) ?_
  case hy => (intro w9 hSw; (try dsimp only at hSw); go_simp; try with_reducible rfl)
  try simp only [Act.put, List.setIfInBounds_toArray, List.set_cons_zero, List.set_cons_succ]
  refine wpAnyH_take (i := 5) (oi := { dst := some 12, op := Go.Op.load 62 (Go.Operand.tmp 5), type := 62, pos := "table.go:74", after := #[], guard := none }) (v := ?_) rfl (by kernel_rfl) (by kernel_rfl) (by kernel_rfl) (fun _ _ _ h => h) (Or.inl ⟨by rfl, ?hy⟩) (by assumption) ?_
  case hy => (intro w9 hSw; (try dsimp only at hSw); go_simp; try with_reducible rfl)
  try simp only [Act.put, List.setIfInBounds_toArray, List.set_cons_zero, List.set_cons_succ]
  refine wpAnyH_ready (rs := [2]) (by kernel_rfl) (by simp) ?_
  refine AllReadyH.cons (o := { dst := some 9, op := Go.Op.call { callee := Go.Callee.value (Go.Operand.func 30), args := #[Go.Operand.tmp 7, Go.Operand.tmp 8], argTypes := #[58, 62] }, type := 55, pos := "table.go:74", after := #[{ on := 0, ground := Go.Ground.data }, { on := 1, ground := Go.Ground.data }], guard := none }) rfl (fun K hK => ?_) AllReadyH.nil
  go_simp
  refine (HN.out g1 _ D k HG1.out HO1.out (HM.out.kept (grown_drew _ _)) HK1.out).mono ?_
  rintro e w8 ⟨rfl, hg8, D8, hm8⟩
  unfold wgV
  refine hK.out _ _ ?_ (fun hHeld => ?_)
  · first | exact World.grownBy.trans hHeld hg8 | exact World.grownBy.trans hHeld hg9
  clear hK K
  try simp only [Act.put, List.setIfInBounds_toArray, List.set_cons_zero, List.set_cons_succ]
  refine wpAnyH_take (i := 3) (oi := { dst := some 10, op := Go.Op.field 55 (Go.Operand.tmp 9) 2, type := 3, pos := "table.go:74", after := #[{ on := 2, ground := Go.Ground.data }], guard := none }) (v := ?_) rfl (by kernel_rfl) (by kernel_rfl) (by kernel_rfl) (fun _ _ _ h => h) (Or.inl ⟨by rfl, ?hy⟩) (by assumption) ?_
  case hy => (intro w9 hSw; (try dsimp only at hSw); go_simp; try with_reducible rfl)
  try simp only [Act.put, List.setIfInBounds_toArray, List.set_cons_zero, List.set_cons_succ]
  refine wpAnyH_ready (rs := [6]) (by kernel_rfl) (by simp) ?_
  refine AllReadyH.cons (o := { dst := some 13, op := Go.Op.call { callee := Go.Callee.value (Go.Operand.func 30), args := #[Go.Operand.tmp 11, Go.Operand.tmp 12], argTypes := #[58, 62] }, type := 55, pos := "table.go:74", after := #[{ on := 4, ground := Go.Ground.data }, { on := 5, ground := Go.Ground.data }, { on := 2, ground := Go.Ground.chain }], guard := none }) rfl (fun K hK => ?_) AllReadyH.nil
  go_simp
  refine (HN.out g2 _ D8 _ HG2.out HO2.out hm8 HK2.out).mono ?_
  rintro e w9 ⟨rfl, hg9, D9, hm9⟩
  unfold wgV
  refine hK.out _ _ ?_ (fun hHeld => ?_)
  · first | exact World.grownBy.trans hHeld hg8 | exact World.grownBy.trans hHeld hg9
  clear hK K
  try simp only [Act.put, List.setIfInBounds_toArray, List.set_cons_zero, List.set_cons_succ]
  refine wpAnyH_take (i := 7) (oi := { dst := some 14, op := Go.Op.field 55 (Go.Operand.tmp 13) 2, type := 3, pos := "table.go:74", after := #[{ on := 6, ground := Go.Ground.data }], guard := none }) (v := ?_) rfl (by kernel_rfl) (by kernel_rfl) (by kernel_rfl) (fun _ _ _ h => h) (Or.inl ⟨by rfl, ?hy⟩) (by assumption) ?_
  case hy => (intro w9 hSw; (try dsimp only at hSw); go_simp; try with_reducible rfl)
  try simp only [Act.put, List.setIfInBounds_toArray, List.set_cons_zero, List.set_cons_succ]
  refine wpAnyH_take (i := 8) (oi := { dst := some 15, op := Go.Op.call { callee := Go.Callee.builtin Go.Builtin.max, args := #[Go.Operand.tmp 10, Go.Operand.tmp 14], argTypes := #[3, 3] }, type := 3, pos := "table.go:74", after := #[{ on := 3, ground := Go.Ground.data }, { on := 7, ground := Go.Ground.data }], guard := none }) (v := .int .i64 ((max (nx n g1).c (nx n g2).c : Nat) : Int)) rfl (by kernel_rfl) (by kernel_rfl) (by kernel_rfl) (fun _ _ _ h => h) (Or.inl ⟨by rfl, ?hy⟩) (by assumption) ?_
  case hy => (intro w9 hSw; (try dsimp only at hSw); go_simp <;> (first | with_reducible rfl | (simp; omega) | omega))
  try simp only [Act.put, List.setIfInBounds_toArray, List.set_cons_zero, List.set_cons_succ]
  refine wpAnyH_take (i := 9) (oi := { dst := some 6, op := Go.Op.assign (Go.Operand.tmp 15), type := 3, pos := "table.go:74", after := #[{ on := 8, ground := Go.Ground.data }, { on := 6, ground := Go.Ground.chain }, { on := 0, ground := Go.Ground.phase }, { on := 1, ground := Go.Ground.phase }, { on := 2, ground := Go.Ground.phase }, { on := 3, ground := Go.Ground.phase }, { on := 4, ground := Go.Ground.phase }, { on := 5, ground := Go.Ground.phase }, { on := 6, ground := Go.Ground.phase }, { on := 7, ground := Go.Ground.phase }, { on := 8, ground := Go.Ground.phase }], guard := none }) (v := ?_) rfl (by kernel_rfl) (by kernel_rfl) (by kernel_rfl) (fun _ _ _ h => h) (Or.inl ⟨by rfl, ?hy⟩) (by assumption) ?_
  case hy => (intro w9 hSw; (try dsimp only at hSw); go_simp; try with_reducible rfl)
  try simp only [Act.put, List.setIfInBounds_toArray, List.set_cons_zero, List.set_cons_succ]
  refine wpAnyH_done (by kernel_rfl) ?_ _
  try simp only [Act.put, List.setIfInBounds_toArray, List.set_cons_zero, List.set_cons_succ]
  go_wp2_with fail
  go_ret
  exact ⟨rfl, World.grownBy.trans HB.out hHeld, D9, by rw [← HE.out]; exact hm9⟩
end Go.Proofs.Ytipgojoiakbaiaa
