/-
  What hasselaw.pair answers: the lattice of two elements. No condition.
-/
import Derived.Test.YtfajgahofkcndaaDoorBoth
namespace Go.Proofs.YtfajgahofkcndaaDoor
open Go.RowKit

theorem Tb.row {w : World} {b off n : Nat} {R : Nat → Nat × Nat × Nat} {m : Nat → Nat → Nat} (h : Tb w b off n R m) {x : Nat} (hx : x < n) : Row w (some ⟨(R x).1, (R x).2.1, none⟩) n (fun y => (m x y : Nat)) :=
  fun y hy => ⟨_, _, rfl, (h x hx).2 y hy⟩

/-- The lattice of two elements lies there. -/
def PairIs (x : Value) (w : World) : Prop := ∃ b b' R R', x = .agg #[.int .i64 2, .slice (some ⟨b, 0, none⟩) 2 2, .slice (some ⟨b', 0, none⟩) 2 2] ∧ Tb w b 0 2 R (fun x y => min x y) ∧ Tb w b' 0 2 R' (fun x y => max x y)
def pairW (w : World) : World :=
  ((((((w.alloc (.cells #[.int .i64 2, .slice (some ⟨w.heap.size + 1 + 1 + 1, 0, none⟩) 2 2, .slice (some ⟨w.heap.size + 1 + 1 + 1 + 1 + 1 + 1, 0, none⟩) 2 2] 39)).alloc (.cells #[.int .i64 0, .int .i64 0] 3)).alloc (.cells #[.int .i64 0, .int .i64 1] 3)).alloc
    (.cells #[.slice (some ⟨w.heap.size + 1, 0, none⟩) 2 2, .slice (some ⟨w.heap.size + 1 + 1, 0, none⟩) 2 2] 22)).alloc (.cells #[.int .i64 0, .int .i64 1] 3)).alloc (.cells #[.int .i64 1, .int .i64 1] 3)).alloc
    (.cells #[.slice (some ⟨w.heap.size + 1 + 1 + 1 + 1, 0, none⟩) 2 2, .slice (some ⟨w.heap.size + 1 + 1 + 1 + 1 + 1, 0, none⟩) 2 2] 22)
set_option maxHeartbeats 2000000 in
theorem pair_any (w : World) : Calls Tryd.prog 12 #[] w fun e w' => (∃ x, e = .returned x ∧ PairIs x w') ∧ Below w.heap.size w w' := by
  have HB : Hid (Below w.heap.size w (pairW w)) := by
    unfold pairW
    refine ((((((((Below.refl _ _).alloc (Nat.le_refl _) _).alloc ?_ _).alloc ?_ _).alloc ?_ _).alloc ?_ _).alloc ?_ _).alloc ?_ _) <;> simp <;> omega
  have HP : Hid (PairIs (.agg #[.int .i64 2, .slice (some ⟨w.heap.size + 1 + 1 + 1, 0, none⟩) 2 2, .slice (some ⟨w.heap.size + 1 + 1 + 1 + 1 + 1 + 1, 0, none⟩) 2 2]) (pairW w)) := by
    refine ⟨_, _, fun x => if x = 0 then (w.heap.size + 1, 0, 2) else (w.heap.size + 1 + 1, 0, 2), fun x => if x = 0 then (w.heap.size + 1 + 1 + 1 + 1, 0, 2) else (w.heap.size + 1 + 1 + 1 + 1 + 1, 0, 2), rfl, fun x hx => ?_, fun x hx => ?_⟩
    · rcases (by omega : x = 0 ∨ x = 1) with rfl | rfl
      · refine ⟨by simp [pairW, go_sem], fun y hy => ?_⟩
        rcases (by omega : y = 0 ∨ y = 1) with rfl | rfl <;> simp [pairW, go_sem]
      · refine ⟨by simp [pairW, go_sem], fun y hy => ?_⟩
        rcases (by omega : y = 0 ∨ y = 1) with rfl | rfl <;> simp [pairW, go_sem]
    · rcases (by omega : x = 0 ∨ x = 1) with rfl | rfl
      · refine ⟨by simp [pairW, go_sem], fun y hy => ?_⟩
        rcases (by omega : y = 0 ∨ y = 1) with rfl | rfl <;> simp [pairW, go_sem]
      · refine ⟨by simp [pairW, go_sem], fun y hy => ?_⟩
        rcases (by omega : y = 0 ∨ y = 1) with rfl | rfl <;> simp [pairW, go_sem]
  go_enter Tryd.func12, Tryd.ntmps12
  go_wp2_with fail
  exact bodyPost_ret (v := .agg #[.int .i64 2, .slice (some ⟨w.heap.size + 1 + 1 + 1, 0, none⟩) 2 2, .slice (some ⟨w.heap.size + 1 + 1 + 1 + 1 + 1 + 1, 0, none⟩) 2 2]) (by simp [results, Tryd.results12, go_sem]) rfl ⟨⟨_, rfl, HP.out⟩, HB.out⟩
end Go.Proofs.YtfajgahofkcndaaDoor
