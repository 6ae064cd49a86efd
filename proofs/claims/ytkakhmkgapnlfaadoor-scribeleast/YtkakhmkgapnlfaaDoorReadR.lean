/-
  What scribe.Read answers at the text of an order: the order, and no fault. Conditions: an order of at most ten points.
-/
import Derived.Test.YtkakhmkgapnlfaaDoorReadO
import Derived.Defers
import Derived.Recover
import Derived.Laws.Pointers
namespace Go.Proofs.YtkakhmkgapnlfaaDoor
open Go.RowKit

theorem assert_nil (w : World) : Sem.run Tryd.prog (Instr.typeAssert Value.nilIface 20 28 true) w = .ok (.tuple #[.agg #[.int .i64 0, .int .i64 0], .bool false]) w := by
  simp [go_sem, Instr.typeAssert, Tryd.zeroValue28]
set_option maxHeartbeats 2000000 in
theorem read1_idle (p q : Value) (w : World) :
    CallsD Tryd.prog 8 #[p, q] .returning w fun e u' w' => e = .returned (.tuple #[]) ∧ u' = .returning ∧ w' = w.alloc (.cells #[.int .i64 0, .int .i64 0] 28) := by
  refine callsD_of_wpS Tryd.func8 rfl fun c₀ cs hu => ?_
  apply wpS_seq
  apply wpS_region
  simp [wpOpsS, go_sem, recoverD, hu, Tryd.ntmps8, Exit.thenS, assert_nil]
  apply wpS_seq
  apply wpS_region
  simp [wpOpsS, go_sem, Exit.thenS]
  refine wpS_cond (t := false) (by simp [Act.eval, Array.replicate]) ?_
  simp only [Bool.false_eq_true, if_false]
  refine wpS_of_wp (wp_skip ?_)
  cases c₀
  simp_all [bodyPostS, results, Tryd.results8]
set_option maxHeartbeats 2000000 in
theorem read_any (n : Nat) (g : Nat → Nat) (w : World) (h10 : n ≤ 10) (hg : Sm n n g) (ho : Ord n g) :
    Calls Tryd.prog 5 #[.string (txt n (covs g n))] w fun e w' => (∃ b, e = .returned (.tuple #[.agg #[.int .i64 (n : Int), .slice (some ⟨b, 0, none⟩) n n], .agg #[.int .i64 0, .int .i64 0]]) ∧ Row w' (some ⟨b, 0, none⟩) n (fun k => (g k : Nat))) ∧ Below w.heap.size w w' := by
  have hmf : ∀ (fn : Fn) (first cap : Array Value) (w : World), (Instr.makeFunc fn first cap).run Tryd.prog w = .ok (.func fn first cap) w := fun _ _ _ _ => rfl
  have HRO : Hid (∀ w, Calls Tryd.prog 9 #[.string (txt n (covs g n))] w fun e w' => (∃ b, e = .returned (.agg #[.int .i64 (n : Int), .slice (some ⟨b, 0, none⟩) n n]) ∧ w.heap.size ≤ b ∧ Row w' (some ⟨b, 0, none⟩) n (fun k => (g k : Nat))) ∧ Below w.heap.size w w') := fun w => readOrder_any n g w h10 hg ho
  obtain ⟨T, HT⟩ : ∃ T, Hid (txt n (covs g n) = T) := ⟨_, rfl⟩
  rw [HT.out] at HRO ⊢
  clear hg ho
  go_enter_defers Tryd.func5, Tryd.ntmps5
  go_wp2_with fail
  refine (HRO.out _).mono ?_
  rintro e w1 ⟨⟨b, rfl, hbb, hr⟩, hb⟩
  have HBB : Hid (w.heap.size + 2 ≤ b) := by simpa [Hid] using hbb
  clear hbb
  have hB0 : Below w.heap.size w ((w.alloc (.cells #[.int .i64 0, .slice none 0 0] 25)).alloc (.cells #[.int .i64 0, .int .i64 0] 28)) := ((Below.refl _ _).alloc (Nat.le_refl _) _).alloc (by simp) _
  have HB1 : Hid (Below w.heap.size w w1) := Below.then hB0 hb
  have HR1 : Hid (Row w1 (some ⟨b, 0, none⟩) n (fun k => (g k : Nat))) := hr
  have hs1 : w.heap.size + 2 ≤ w1.heap.size := by have := hb.size; simpa using this
  have z0 : w1.cell? ⟨w.heap.size, 0, none⟩ = some (.int .i64 0) := (hb.cell (p := ⟨w.heap.size, 0, none⟩) (by simp; omega)).trans (by simp)
  have z1 : w1.cell? ⟨w.heap.size, 1, none⟩ = some (.slice none 0 0) := (hb.cell (p := ⟨w.heap.size, 1, none⟩) (by simp; omega)).trans (by simp)
  have y0 : w1.cell? ⟨w.heap.size + 1, 0, none⟩ = some (.int .i64 0) := (hb.cell (p := ⟨w.heap.size + 1, 0, none⟩) (by simp)).trans (by simp)
  have y1 : w1.cell? ⟨w.heap.size + 1, 1, none⟩ = some (.int .i64 0) := (hb.cell (p := ⟨w.heap.size + 1, 1, none⟩) (by simp)).trans (by simp)
  have f0 : w1.frozen? ⟨w.heap.size, 0, none⟩ = false := (hb.frozen (p := ⟨w.heap.size, 0, none⟩) (by simp; omega)).trans (by simp)
  have f1 : w1.frozen? ⟨w.heap.size, 1, none⟩ = false := (hb.frozen (p := ⟨w.heap.size, 1, none⟩) (by simp; omega)).trans (by simp)
  have g0 : w1.frozen? ⟨w.heap.size + 1, 0, none⟩ = false := (hb.frozen (p := ⟨w.heap.size + 1, 0, none⟩) (by simp)).trans (by simp [World.frozen?_alloc_at])
  have g1 : w1.frozen? ⟨w.heap.size + 1, 1, none⟩ = false := (hb.frozen (p := ⟨w.heap.size + 1, 1, none⟩) (by simp)).trans (by simp [World.frozen?_alloc_at])
  clear hb hB0 hr
  have hbn : n = 0 ∨ (b ≠ w.heap.size ∧ b ≠ w.heap.size + 1) := by
    by_cases h0 : n = 0
    · exact .inl h0
    · refine .inr ⟨fun e => ?_, fun e => ?_⟩
      · exact absurd HBB.out (by omega)
      · exact absurd HBB.out (by omega)
  obtain ⟨X, HX⟩ : ∃ X, Hid (X = (((w1.setCell ⟨w.heap.size, 0, none⟩ (.int .i64 (n : Int))).setCell ⟨w.heap.size, 1, none⟩ (.slice (some ⟨b, 0, none⟩) n n)).setCell ⟨w.heap.size + 1, 0, none⟩ (.int .i64 0)).setCell ⟨w.heap.size + 1, 1, none⟩ (.int .i64 0)) := ⟨_, rfl⟩
  have ne : ∀ {a b c d : Nat}, (a ≠ c ∨ b ≠ d) → (⟨a, b, none⟩ : Addr) ≠ ⟨c, d, none⟩ := fun h e => by
    injection e with e1 e2
    rcases h with h | h
    · exact h e1
    · exact h e2
  have x0 : X.cell? ⟨w.heap.size, 0, none⟩ = some (.int .i64 (n : Int)) := by
    rw [HX.out, World.cell?_setCell_other _ _ _ _ (ne (.inl (by omega))), World.cell?_setCell_other _ _ _ _ (ne (.inl (by omega))), World.cell?_setCell_other _ _ _ _ (ne (.inr (by decide)))]; exact World.cell?_setCell_same _ _ _ z0
  have x1 : X.cell? ⟨w.heap.size, 1, none⟩ = some (.slice (some ⟨b, 0, none⟩) n n) := by
    rw [HX.out, World.cell?_setCell_other _ _ _ _ (ne (.inl (by omega))), World.cell?_setCell_other _ _ _ _ (ne (.inl (by omega)))]
    exact World.cell?_setCell_same _ _ _ (show _ = some (Value.slice none 0 0) from by rw [World.cell?_setCell_other _ _ _ _ (ne (.inr (by decide)))]; exact z1)
  have x2 : X.cell? ⟨w.heap.size + 1, 0, none⟩ = some (.int .i64 0) := by
    rw [HX.out, World.cell?_setCell_other _ _ _ _ (ne (.inr (by decide)))]
    exact World.cell?_setCell_same _ _ _ (show _ = some (Value.int .i64 0) from by rw [World.cell?_setCell_other _ _ _ _ (ne (.inl (by omega))), World.cell?_setCell_other _ _ _ _ (ne (.inl (by omega)))]; exact y0)
  have x3 : X.cell? ⟨w.heap.size + 1, 1, none⟩ = some (.int .i64 0) := by
    rw [HX.out]
    exact World.cell?_setCell_same _ _ _ (show _ = some (Value.int .i64 0) from by rw [World.cell?_setCell_other _ _ _ _ (ne (.inr (by decide))), World.cell?_setCell_other _ _ _ _ (ne (.inl (by omega))), World.cell?_setCell_other _ _ _ _ (ne (.inl (by omega)))]; exact y1)
  have hX0 : w.heap.size < X.heap.size := World.block_lt_of_cell? _ _ x0
  have hX1 : w.heap.size + 1 < X.heap.size := World.block_lt_of_cell? _ _ x2
  have HBX : Hid (Below w.heap.size w X) := by
    rw [HX.out]
    exact (((HB1.out.setCell (p := ⟨w.heap.size, 0, none⟩) (Nat.le_refl _) _).setCell (p := ⟨w.heap.size, 1, none⟩) (Nat.le_refl _) _).setCell (p := ⟨w.heap.size + 1, 0, none⟩) (Nat.le_succ _) _).setCell (p := ⟨w.heap.size + 1, 1, none⟩) (Nat.le_succ _) _
  have HRX : Hid (Row X (some ⟨b, 0, none⟩) n (fun k => (g k : Nat))) := fun k hk => by
    obtain ⟨b', o', e, hc⟩ := HR1.out k hk
    refine ⟨b', o', e, ?_⟩
    have eb : b = b' := by injection e with e; injection e
    subst eb
    obtain ⟨n0, n1⟩ := hbn.resolve_left (by omega)
    rw [HX.out, World.cell?_setCell_other _ _ _ _ (ne (.inl (Ne.symm n1))), World.cell?_setCell_other _ _ _ _ (ne (.inl (Ne.symm n1))), World.cell?_setCell_other _ _ _ _ (ne (.inl (Ne.symm n0))), World.cell?_setCell_other _ _ _ _ (ne (.inl (Ne.symm n0)))]
    exact hc
  clear hbn ne
  go_wp2_with fail
  rw [← HX.out]
  clear HX
  refine leaves_cons (f := 8) (args := #[.pointer (some ⟨w.heap.size, 0, none⟩), .pointer (some ⟨w.heap.size + 1, 0, none⟩)]) (by simp) (by simp [go_sem]) ?_
  refine (read1_idle _ _ _).mono ?_
  rintro e u' w'' ⟨rfl, rfl, rfl⟩
  simp [Leaves, settle, results, Tryd.results5, go_sem, x0, x1, x2, x3, hX0, hX1]
  exact ⟨HRX.out.below ((Below.refl _ _).alloc (Nat.le_refl _) _), HBX.out.alloc HBX.out.size _⟩
end Go.Proofs.YtkakhmkgapnlfaaDoor
