/-
  What heyting.Check and the reference's CheckFormula answer of a formula. Condition: the value reads as a formula.
-/
import Derived.Test.YtddpeldchffidaaFmC
namespace Go.Proofs.Ytddpeldchffidaa
set_option maxRecDepth 100000
open Go.RowKit

/-- What Check must answer. -/
def chkF (T : FT) : Int := if lf T 30 < 0 then 2 else cf T
theorem FRep.form {w : World} {T : FT} {v : Value} (h : FRep w T v) : ∃ k x a n cap, v = .agg #[.int .i64 k, .int .i64 x, .slice a n cap] := by
  induction T using FT.ind with
  | leaf => exact h.elim
  | mk k x n kid _ =>
    obtain ⟨a, cap, e, _⟩ := h
    exact ⟨k, x, a, n, cap, e⟩
set_option maxHeartbeats 2000000 in
theorem hCheck_any (T : FT) (v : Value) (w : World) (hf : FRep w T v) :
    Calls Try.prog 11 #[v] w fun e w' => e = .returned (.int .i64 (chkF T)) ∧ Below w.heap.size w w' := by
  obtain ⟨k, x, a, n, cap, rfl⟩ := hf.form
  have B1 : Below w.heap.size w (w.alloc (.cells #[.int .i64 k, .int .i64 x, .slice a n cap] 27)) := (Below.refl _ _).alloc (Nat.le_refl _) _
  have HB1 : Hid _ := B1
  have HF : Hid (∀ w', Below w.heap.size w w' → FRep w' T (.agg #[.int .i64 k, .int .i64 x, .slice a n cap])) := fun w' h => FRep.step h _ _ hf
  have c0 : (w.alloc (.cells #[.int .i64 k, .int .i64 x, .slice a n cap] 27)).cell? ⟨w.heap.size, 0, none⟩ = some (.int .i64 k) := by simp
  have c1 : (w.alloc (.cells #[.int .i64 k, .int .i64 x, .slice a n cap] 27)).cell? ⟨w.heap.size, 1, none⟩ = some (.int .i64 x) := by simp
  have c2 : (w.alloc (.cells #[.int .i64 k, .int .i64 x, .slice a n cap] 27)).cell? ⟨w.heap.size, 2, none⟩ = some (.slice a n cap) := by simp
  clear B1 hf
  go_enter Try.func11, Try.ntmps11
  go_wp2_with fail
  refine (leftOf_any T 30 _ _ (by decide) (by decide) (HF.out _ HB1.out)).mono ?_
  rintro e w1 ⟨rfl, hb1⟩
  have d0 := cell_step hb1 c0
  have d1 := cell_step hb1 c1
  have d2 := cell_step hb1 c2
  have HB2 : Hid (Below w.heap.size w w1) := Below.then HB1.out hb1
  clear hb1 HB1 c0 c1 c2
  by_cases hl : lf T 30 < 0
  · have HC : Hid (chkF T = 2) := by rw [Hid, chkF, if_pos hl]
    go_wp2_with fail
    go_ret
    exact ⟨by rw [HC.out]; rfl, HB2.out⟩
  · have HC : Hid (chkF T = cf T) := by rw [Hid, chkF, if_neg hl]
    have hl' : 0 ≤ lf T 30 := by omega
    clear hl
    go_wp2_with fail
    refine (checkForm_any T _ _ (HF.out _ HB2.out)).mono ?_
    rintro e w2 ⟨rfl, hb2⟩
    have HB3 : Hid (Below w.heap.size w w2) := Below.then HB2.out hb2
    clear hb2 HB2
    go_wp2_with fail
    go_ret
    exact ⟨by rw [HC.out]; rfl, HB3.out⟩
set_option maxHeartbeats 2000000 in
theorem checkFormula_any (T : FT) (v : Value) (w : World) (hf : FRep w T v) :
    Calls Try.prog 6 #[v] w fun e w' => e = .returned (.int .i64 (chkF T)) ∧ Below w.heap.size w w' := by
  obtain ⟨k, x, a, n, cap, rfl⟩ := hf.form
  have B1 : Below w.heap.size w (w.alloc (.cells #[.int .i64 k, .int .i64 x, .slice a n cap] 27)) := (Below.refl _ _).alloc (Nat.le_refl _) _
  have HB1 : Hid _ := B1
  have HF : Hid (∀ w', Below w.heap.size w w' → FRep w' T (.agg #[.int .i64 k, .int .i64 x, .slice a n cap])) := fun w' h => FRep.step h _ _ hf
  have c0 : (w.alloc (.cells #[.int .i64 k, .int .i64 x, .slice a n cap] 27)).cell? ⟨w.heap.size, 0, none⟩ = some (.int .i64 k) := by simp
  have c1 : (w.alloc (.cells #[.int .i64 k, .int .i64 x, .slice a n cap] 27)).cell? ⟨w.heap.size, 1, none⟩ = some (.int .i64 x) := by simp
  have c2 : (w.alloc (.cells #[.int .i64 k, .int .i64 x, .slice a n cap] 27)).cell? ⟨w.heap.size, 2, none⟩ = some (.slice a n cap) := by simp
  clear B1 hf
  go_enter Try.func6, Try.ntmps6
  go_wp2_with fail
  refine (fCount_any T 30 _ _ (by decide) (by decide) (HF.out _ HB1.out)).mono ?_
  rintro e w1 ⟨rfl, hb1⟩
  have d0 := cell_step hb1 c0
  have d1 := cell_step hb1 c1
  have d2 := cell_step hb1 c2
  have HB2 : Hid (Below w.heap.size w w1) := Below.then HB1.out hb1
  clear hb1 HB1 c0 c1 c2
  by_cases hl : lf T 30 < 0
  · have HC : Hid (chkF T = 2) := by rw [Hid, chkF, if_pos hl]
    have hg : 30 < fc T 30 := (many_iff T).1 hl
    clear hl
    go_wp2_with fail
    go_ret
    exact ⟨by rw [HC.out]; rfl, HB2.out⟩
  · have HC : Hid (chkF T = cf T) := by rw [Hid, chkF, if_neg hl]
    have hg : fc T 30 ≤ 30 := by
      rcases Int.lt_or_le 30 (fc T 30) with q | q
      · exact absurd ((many_iff T).2 q) hl
      · exact q
    clear hl
    go_wp2_with fail
    refine (fWrong_any T _ _ (HF.out _ HB2.out)).mono ?_
    rintro e w2 ⟨rfl, hb2⟩
    have HB3 : Hid (Below w.heap.size w w2) := Below.then HB2.out hb2
    clear hb2 HB2
    go_wp2_with fail
    go_ret
    exact ⟨by rw [HC.out]; rfl, HB3.out⟩
end Go.Proofs.Ytddpeldchffidaa
