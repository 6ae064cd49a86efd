/-
  hasselaw.HeytingChecks returns true of every formula. Condition: the value reads as a formula.
-/
import Derived.Test.YtaioiopgijkemaaFmC
import Derived.Test.YtaioiopgijkemaaHBeg
namespace Go.Proofs.Ytaioiopgijkemaa
set_option maxRecDepth 100000
open Go.RowKit

/-- What Check must answer. -/
def chkF (T : FT) : Int := if lf T 30 < 0 then 2 else cf T
theorem FRep.form {w : World} {T : FT} {v : Value} (h : FRep w T v) : ∃ k x a n cap, v = .agg #[.int .i64 k, .int .i64 x, .slice a n cap] := by
  induction T using FT.ind with
  | leaf => exact h.elim
  | mk k x n kid _ =>
    obtain ⟨a, cap, e, _⟩ := h
    exact ⟨k, x, a, n, cap, e⟩
set_option maxHeartbeats 2000000 in
theorem hCheck_any (T : FT) (v : Value) (w : World) (hf : FRep w T v) :
    Calls Try.prog 5 #[v] w fun e w' => e = .returned (.int .i64 (chkF T)) ∧ Below w.heap.size w w' := by
  obtain ⟨k, x, a, n, cap, rfl⟩ := hf.form
  have B1 : Below w.heap.size w (w.alloc (.cells #[.int .i64 k, .int .i64 x, .slice a n cap] 24)) := (Below.refl _ _).alloc (Nat.le_refl _) _
  have HB1 : Hid _ := B1
  have HF : Hid (∀ w', Below w.heap.size w w' → FRep w' T (.agg #[.int .i64 k, .int .i64 x, .slice a n cap])) := fun w' h => FRep.step h _ _ hf
  have c0 : (w.alloc (.cells #[.int .i64 k, .int .i64 x, .slice a n cap] 24)).cell? ⟨w.heap.size, 0, none⟩ = some (.int .i64 k) := by simp
  have c1 : (w.alloc (.cells #[.int .i64 k, .int .i64 x, .slice a n cap] 24)).cell? ⟨w.heap.size, 1, none⟩ = some (.int .i64 x) := by simp
  have c2 : (w.alloc (.cells #[.int .i64 k, .int .i64 x, .slice a n cap] 24)).cell? ⟨w.heap.size, 2, none⟩ = some (.slice a n cap) := by simp
  clear B1 hf
  go_enter Try.func5, Try.ntmps5
  go_wp2_with fail
  refine (leftOf_any T 30 _ _ (by decide) (by decide) (HF.out _ HB1.out)).mono ?_
  rintro e w1 ⟨rfl, hb1⟩
  have d0 := cell_step hb1 c0
  have d1 := cell_step hb1 c1
  have d2 := cell_step hb1 c2
  have HB2 : Hid (Below w.heap.size w w1) := Below.then HB1.out hb1
  clear hb1 HB1 c0 c1 c2
  by_cases hl : lf T 30 < 0
  · have HC : Hid (chkF T = 2) := by rw [Hid, chkF, if_pos hl]
    go_wp2_with fail
    go_ret
    exact ⟨by rw [HC.out]; rfl, HB2.out⟩
  · have HC : Hid (chkF T = cf T) := by rw [Hid, chkF, if_neg hl]
    have hl' : 0 ≤ lf T 30 := by omega
    clear hl
    go_wp2_with fail
    refine (checkForm_any T _ _ (HF.out _ HB2.out)).mono ?_
    rintro e w2 ⟨rfl, hb2⟩
    have HB3 : Hid (Below w.heap.size w w2) := Below.then HB2.out hb2
    clear hb2 HB2
    go_wp2_with fail
    go_ret
    exact ⟨by rw [HC.out]; rfl, HB3.out⟩
set_option maxHeartbeats 2000000 in
theorem checkFormula_any (T : FT) (v : Value) (w : World) (hf : FRep w T v) :
    Calls Try.prog 6 #[v] w fun e w' => e = .returned (.int .i64 (chkF T)) ∧ Below w.heap.size w w' := by
  obtain ⟨k, x, a, n, cap, rfl⟩ := hf.form
  have B1 : Below w.heap.size w (w.alloc (.cells #[.int .i64 k, .int .i64 x, .slice a n cap] 24)) := (Below.refl _ _).alloc (Nat.le_refl _) _
  have HB1 : Hid _ := B1
  have HF : Hid (∀ w', Below w.heap.size w w' → FRep w' T (.agg #[.int .i64 k, .int .i64 x, .slice a n cap])) := fun w' h => FRep.step h _ _ hf
  have c0 : (w.alloc (.cells #[.int .i64 k, .int .i64 x, .slice a n cap] 24)).cell? ⟨w.heap.size, 0, none⟩ = some (.int .i64 k) := by simp
  have c1 : (w.alloc (.cells #[.int .i64 k, .int .i64 x, .slice a n cap] 24)).cell? ⟨w.heap.size, 1, none⟩ = some (.int .i64 x) := by simp
  have c2 : (w.alloc (.cells #[.int .i64 k, .int .i64 x, .slice a n cap] 24)).cell? ⟨w.heap.size, 2, none⟩ = some (.slice a n cap) := by simp
  clear B1 hf
  go_enter Try.func6, Try.ntmps6
  go_wp2_with fail
  refine (fCount_any T 30 _ _ (by decide) (by decide) (HF.out _ HB1.out)).mono ?_
  rintro e w1 ⟨rfl, hb1⟩
  have d0 := cell_step hb1 c0
  have d1 := cell_step hb1 c1
  have d2 := cell_step hb1 c2
  have HB2 : Hid (Below w.heap.size w w1) := Below.then HB1.out hb1
  clear hb1 HB1 c0 c1 c2
  by_cases hl : lf T 30 < 0
  · have HC : Hid (chkF T = 2) := by rw [Hid, chkF, if_pos hl]
    have hg : 30 < fc T 30 := (many_iff T).1 hl
    clear hl
    go_wp2_with fail
    go_ret
    exact ⟨by rw [HC.out]; rfl, HB2.out⟩
  · have HC : Hid (chkF T = cf T) := by rw [Hid, chkF, if_neg hl]
    have hg : fc T 30 ≤ 30 := by
      rcases Int.lt_or_le 30 (fc T 30) with q | q
      · exact absurd ((many_iff T).2 q) hl
      · exact q
    clear hl
    go_wp2_with fail
    refine (fWrong_any T _ _ (HF.out _ HB2.out)).mono ?_
    rintro e w2 ⟨rfl, hb2⟩
    have HB3 : Hid (Below w.heap.size w w2) := Below.then HB2.out hb2
    clear hb2 HB2
    go_wp2_with fail
    go_ret
    exact ⟨by rw [HC.out]; rfl, HB3.out⟩
set_option maxHeartbeats 4000000 in
theorem heytingChecks_any (T : FT) (v : Value) (w : World) (hf : FRep w T v) :
    Calls Try.prog 3 #[v] w fun e w' => e = .returned (.bool true) ∧ Below w.heap.size w w' := by
  obtain ⟨k, x, a, n, cap, rfl⟩ := hf.form
  obtain ⟨wr, hW⟩ : ∃ wr, wr = w.alloc (.cells #[.int .i64 k, .int .i64 x, .slice a n cap] 24) := ⟨_, rfl⟩
  have B1 : Below w.heap.size w wr := by rw [hW]; exact (Below.refl _ _).alloc (Nat.le_refl _) _
  have HBW : Hid (Below w.heap.size w wr) := B1
  have HF : Hid (∀ w', Below wr.heap.size wr w' → FRep w' T (.agg #[.int .i64 k, .int .i64 x, .slice a n cap])) := fun w' h => FRep.step (Below.then B1 h) _ _ hf
  have d0 : ∀ w', Below wr.heap.size wr w' → w'.cell? ⟨w.heap.size, 0, none⟩ = some (.int .i64 k) := fun w' h => cell_step h (by rw [hW]; simp)
  have d1 : ∀ w', Below wr.heap.size wr w' → w'.cell? ⟨w.heap.size, 1, none⟩ = some (.int .i64 x) := fun w' h => cell_step h (by rw [hW]; simp)
  have d2 : ∀ w', Below wr.heap.size wr w' → w'.cell? ⟨w.heap.size, 2, none⟩ = some (.slice a n cap) := fun w' h => cell_step h (by rw [hW]; simp)
  have HWE : Hid (wr = w.alloc (.cells #[.int .i64 k, .int .i64 x, .slice a n cap] 24)) := hW
  generalize chkF T = CT at *
  clear B1 hf hW
  go_enter Try.func3, Try.ntmps3
  go_wp2_with fail
  rw [← HWE.out]
  clear HWE
  refine wp_region_held_drew (S := (fun w' => Below wr.heap.size wr w')) (by kernel_rfl) ((Below.refl _ _).drew) (fun hHeld => ?_)
  refine wpAnyH_ready (rs := [0]) (by kernel_rfl) (by simp) ?_
  refine AllReadyH.cons (o := { dst := some 3, op := Go.Op.call { callee := Go.Callee.value (Go.Operand.func 4), args := #[], argTypes := #[] }, type := 4, pos := "imply.go:325", after := #[], guard := none }) rfl (fun K hK => ?_) AllReadyH.nil
  go_simp
  refine (heytingBegun_any _).mono ?_
  rintro e w5 ⟨rfl, hb5⟩
  refine hK.out _ _ ?_ (fun hHeld => ?_)
  · first | assumption | exact Below.then (by assumption) (by assumption)
  clear hK K
  try simp only [Act.put, List.setIfInBounds_toArray, List.set_cons_zero, List.set_cons_succ]
  refine wpAnyH_take (i := 1) (oi := { dst := some 4, op := Go.Op.move (Go.Operand.tmp 3), type := 4, pos := "imply.go:325", after := #[{ on := 0, ground := Go.Ground.data }, { on := 0, ground := Go.Ground.chain }], guard := none }) (v := ?_) rfl (by kernel_rfl) (by kernel_rfl) (by kernel_rfl) (fun _ _ _ h => h) (Or.inl ⟨by rfl, ?hy⟩) (by assumption) ?_
  case hy => (intro w9 hSw; (try dsimp only at hSw); go_simp; try with_reducible rfl)
  try simp only [Act.put, List.setIfInBounds_toArray, List.set_cons_zero, List.set_cons_succ]
  refine wpAnyH_take (i := 2) (oi := { dst := some 5, op := Go.Op.load 24 (Go.Operand.tmp 1), type := 24, pos := "imply.go:325", after := #[{ on := 1, ground := Go.Ground.guard }], guard := some (1, true) }) (v := ?_) rfl (by kernel_rfl) (by kernel_rfl) (by kernel_rfl) (fun _ _ _ h => h) (Or.inl ⟨by rfl, ?hy⟩) (by assumption) ?_
  case hy => (intro w9 hSw; (try dsimp only at hSw); go_simp; try with_reducible rfl)
  try simp only [Act.put, List.setIfInBounds_toArray, List.set_cons_zero, List.set_cons_succ]
  refine wpAnyH_take (i := 4) (oi := { dst := some 7, op := Go.Op.load 24 (Go.Operand.tmp 1), type := 24, pos := "imply.go:325", after := #[{ on := 1, ground := Go.Ground.guard }], guard := some (1, true) }) (v := ?_) rfl (by kernel_rfl) (by kernel_rfl) (by kernel_rfl) (fun _ _ _ h => h) (Or.inl ⟨by rfl, ?hy⟩) (by assumption) ?_
  case hy => (intro w9 hSw; (try dsimp only at hSw); go_simp; try with_reducible rfl)
  try simp only [Act.put, List.setIfInBounds_toArray, List.set_cons_zero, List.set_cons_succ]
  refine wpAnyH_ready (rs := [3]) (by kernel_rfl) (by simp) ?_
  refine AllReadyH.cons (o := { dst := some 6, op := Go.Op.call { callee := Go.Callee.value (Go.Operand.func 5), args := #[Go.Operand.tmp 5], argTypes := #[24] }, type := 26, pos := "imply.go:325", after := #[{ on := 2, ground := Go.Ground.data }, { on := 1, ground := Go.Ground.chain }, { on := 1, ground := Go.Ground.guard }], guard := some (1, true) }) rfl (fun K hK => ?_) AllReadyH.nil
  go_simp
  refine (hCheck_any T _ _ (HF.out _ (by assumption))).mono ?_
  rintro e w6 ⟨rfl, hb6⟩
  refine hK.out _ _ ?_ (fun hHeld => ?_)
  · first | assumption | exact Below.then (by assumption) (by assumption)
  clear hK K
  try simp only [Act.put, List.setIfInBounds_toArray, List.set_cons_zero, List.set_cons_succ]
  refine wpAnyH_ready (rs := [5]) (by kernel_rfl) (by simp) ?_
  refine AllReadyH.cons (o := { dst := some 8, op := Go.Op.call { callee := Go.Callee.value (Go.Operand.func 6), args := #[Go.Operand.tmp 7], argTypes := #[24] }, type := 26, pos := "imply.go:325", after := #[{ on := 4, ground := Go.Ground.data }, { on := 3, ground := Go.Ground.chain }, { on := 1, ground := Go.Ground.guard }], guard := some (1, true) }) rfl (fun K hK => ?_) AllReadyH.nil
  go_simp
  refine (checkFormula_any T _ _ (HF.out _ (by assumption))).mono ?_
  rintro e w7 ⟨rfl, hb7⟩
  refine hK.out _ _ ?_ (fun hHeld => ?_)
  · first | assumption | exact Below.then (by assumption) (by assumption)
  clear hK K
  try simp only [Act.put, List.setIfInBounds_toArray, List.set_cons_zero, List.set_cons_succ]
  refine wpAnyH_take (i := 6) (oi := { dst := some 9, op := Go.Op.binOp Go.BinOp.eql 26 (Go.Operand.tmp 6) (Go.Operand.tmp 8) 26, type := 4, pos := "imply.go:325", after := #[{ on := 3, ground := Go.Ground.data }, { on := 5, ground := Go.Ground.data }, { on := 1, ground := Go.Ground.guard }], guard := some (1, true) }) (v := ?_) rfl (by kernel_rfl) (by kernel_rfl) (by kernel_rfl) (fun _ _ _ h => h) (Or.inl ⟨by rfl, ?hy⟩) (by assumption) ?_
  case hy => (intro w9 hSw; (try dsimp only at hSw); go_simp; try with_reducible rfl)
  try simp only [Act.put, List.setIfInBounds_toArray, List.set_cons_zero, List.set_cons_succ]
  refine wpAnyH_take (i := 7) (oi := { dst := some 10, op := Go.Op.pick (Go.Operand.tmp 4) (Go.Operand.tmp 9) (Go.Operand.const (Go.Value.bool false)), type := 4, pos := "imply.go:325", after := #[{ on := 1, ground := Go.Ground.data }, { on := 6, ground := Go.Ground.data }], guard := none }) (v := ?_) rfl (by kernel_rfl) (by kernel_rfl) (by kernel_rfl) (fun _ _ _ h => h) (Or.inl ⟨by rfl, ?hy⟩) (by assumption) ?_
  case hy => (intro w9 hSw; (try dsimp only at hSw); go_simp; try with_reducible rfl)
  try simp only [Act.put, List.setIfInBounds_toArray, List.set_cons_zero, List.set_cons_succ]
  refine wpAnyH_take (i := 8) (oi := { dst := some 2, op := Go.Op.assign (Go.Operand.tmp 10), type := 4, pos := "imply.go:325", after := #[{ on := 7, ground := Go.Ground.data }, { on := 5, ground := Go.Ground.chain }, { on := 0, ground := Go.Ground.phase }, { on := 1, ground := Go.Ground.phase }, { on := 2, ground := Go.Ground.phase }, { on := 3, ground := Go.Ground.phase }, { on := 4, ground := Go.Ground.phase }, { on := 5, ground := Go.Ground.phase }, { on := 6, ground := Go.Ground.phase }, { on := 7, ground := Go.Ground.phase }], guard := none }) (v := ?_) rfl (by kernel_rfl) (by kernel_rfl) (by kernel_rfl) (fun _ _ _ h => h) (Or.inl ⟨by rfl, ?hy⟩) (by assumption) ?_
  case hy => (intro w9 hSw; (try dsimp only at hSw); go_simp; try with_reducible rfl)
  try simp only [Act.put, List.setIfInBounds_toArray, List.set_cons_zero, List.set_cons_succ]
  refine wpAnyH_done (by kernel_rfl) ?_ _
  try simp only [Act.put, List.setIfInBounds_toArray, List.set_cons_zero, List.set_cons_succ]
  have HB9 : Hid (Below w.heap.size w _) := Below.then HBW.out hHeld
  clear hHeld
  go_wp2_with fail
  go_ret
  exact ⟨rfl, HB9.out⟩
end Go.Proofs.Ytaioiopgijkemaa
