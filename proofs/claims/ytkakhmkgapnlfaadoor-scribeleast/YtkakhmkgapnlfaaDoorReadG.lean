/-
  What scribe.Read does at any text: an order made of what was read, and no fault; or a fault. No condition.
-/
import Derived.Test.YtkakhmkgapnlfaaDoorOrderG
import Derived.Test.YtkakhmkgapnlfaaDoorReadR
namespace Go.Proofs.YtkakhmkgapnlfaaDoor
open Go.RowKit

theorem assert_fault (c k : Value) (w : World) : Sem.run Tryd.prog (Instr.typeAssert (Value.iface 28 (.agg #[c, k])) 20 28 true) w = .ok (.tuple #[.agg #[c, k], .bool true]) w := by
  simp [go_sem, Instr.typeAssert]
theorem four_set (P Q : Nat) (w : World) (hPQ : P ≠ Q) (a b c d n sl f0 f1 : Value) (h0 : w.cell? ⟨P, 0, none⟩ = some n) (h1 : w.cell? ⟨P, 1, none⟩ = some sl) (h2 : w.cell? ⟨Q, 0, none⟩ = some f0) (h3 : w.cell? ⟨Q, 1, none⟩ = some f1) :
    let X := (((w.setCell ⟨P, 0, none⟩ a).setCell ⟨P, 1, none⟩ b).setCell ⟨Q, 0, none⟩ c).setCell ⟨Q, 1, none⟩ d
    X.cell? ⟨P, 0, none⟩ = some a ∧ X.cell? ⟨P, 1, none⟩ = some b ∧ X.cell? ⟨Q, 0, none⟩ = some c ∧ X.cell? ⟨Q, 1, none⟩ = some d := by
  have ne : ∀ {a b c d : Nat}, (a ≠ c ∨ b ≠ d) → (⟨a, b, none⟩ : Addr) ≠ ⟨c, d, none⟩ := fun h e => by
    injection e with e1 e2
    rcases h with h | h
    · exact h e1
    · exact h e2
  refine ⟨?_, ?_, ?_, ?_⟩
  · rw [World.cell?_setCell_other _ _ _ _ (ne (.inl (Ne.symm hPQ))), World.cell?_setCell_other _ _ _ _ (ne (.inl (Ne.symm hPQ))), World.cell?_setCell_other _ _ _ _ (ne (.inr (by decide)))]; exact World.cell?_setCell_same _ _ _ h0
  · rw [World.cell?_setCell_other _ _ _ _ (ne (.inl (Ne.symm hPQ))), World.cell?_setCell_other _ _ _ _ (ne (.inl (Ne.symm hPQ)))]
    exact World.cell?_setCell_same _ _ _ (show _ = some sl from by rw [World.cell?_setCell_other _ _ _ _ (ne (.inr (by decide)))]; exact h1)
  · rw [World.cell?_setCell_other _ _ _ _ (ne (.inr (by decide)))]
    exact World.cell?_setCell_same _ _ _ (show _ = some f0 from by rw [World.cell?_setCell_other _ _ _ _ (ne (.inl hPQ)), World.cell?_setCell_other _ _ _ _ (ne (.inl hPQ))]; exact h2)
  · exact World.cell?_setCell_same _ _ _ (show _ = some f1 from by rw [World.cell?_setCell_other _ _ _ _ (ne (.inr (by decide))), World.cell?_setCell_other _ _ _ _ (ne (.inl hPQ)), World.cell?_setCell_other _ _ _ _ (ne (.inl hPQ))]; exact h3)
set_option maxHeartbeats 2000000 in
theorem read1_caught (P Q : Nat) (c k : Int) (older : List PanicEntry) (w : World) (hPQ : P ≠ Q) (n : Value) (sl f0 f1 : Value) (h0 : w.cell? ⟨P, 0, none⟩ = some n) (h1 : w.cell? ⟨P, 1, none⟩ = some sl) (h2 : w.cell? ⟨Q, 0, none⟩ = some f0) (h3 : w.cell? ⟨Q, 1, none⟩ = some f1) (z0 : w.frozen? ⟨P, 0, none⟩ = false) (z1 : w.frozen? ⟨P, 1, none⟩ = false) (z2 : w.frozen? ⟨Q, 0, none⟩ = false) (z3 : w.frozen? ⟨Q, 1, none⟩ = false) :
    CallsD Tryd.prog 8 #[.pointer (some ⟨P, 0, none⟩), .pointer (some ⟨Q, 0, none⟩)] (.panicking ({ v := .iface 28 (.agg #[.int .i64 c, .int .i64 k]), recovered := false } :: older)) w fun e u' w' => e = .returned (.tuple #[]) ∧ u' = .panicking ({ v := .iface 28 (.agg #[.int .i64 c, .int .i64 k]), recovered := true } :: older) ∧ (w'.cell? ⟨P, 0, none⟩ = some (.int .i64 0) ∧ w'.cell? ⟨P, 1, none⟩ = some (.slice none 0 0) ∧ w'.cell? ⟨Q, 0, none⟩ = some (.int .i64 c) ∧ w'.cell? ⟨Q, 1, none⟩ = some (.int .i64 k)) ∧ Below (min P Q) w w' := by
  refine callsD_of_wpS Tryd.func8 rfl fun c₀ cs hu => ?_
  apply wpS_seq
  apply wpS_region
  simp [wpOpsS, go_sem, recoverD, hu, Tryd.ntmps8, Exit.thenS, assert_fault]
  apply wpS_seq
  apply wpS_region
  simp [wpOpsS, go_sem, Exit.thenS]
  refine wpS_cond (t := true) (by simp [Act.eval, Array.replicate]) ?_
  simp only [if_true]
  refine wpS_of_wp ?_
  have hP : P < w.heap.size := World.block_lt_of_cell? _ _ h0
  have hQ : Q < w.heap.size := World.block_lt_of_cell? _ _ h2
  simp only [Array.replicate, List.replicate, List.setIfInBounds_toArray, List.set_cons_zero, List.set_cons_succ, List.append_toArray, List.cons_append, List.nil_append]
  go_region
  all_goals
    have hX := four_set P Q w hPQ (.int .i64 0) (.slice none 0 0) (.int .i64 c) (.int .i64 k) n sl f0 f1 h0 h1 h2 h3
    obtain ⟨X, HX⟩ : ∃ X, X = (((w.setCell ⟨P, 0, none⟩ (.int .i64 0)).setCell ⟨P, 1, none⟩ (.slice none 0 0)).setCell ⟨Q, 0, none⟩ (.int .i64 c)).setCell ⟨Q, 1, none⟩ (.int .i64 k) := ⟨_, rfl⟩
    have hb : Below (min P Q) w X := by
      rw [HX]
      exact ((((Below.refl _ w).setCell (p := ⟨P, 0, none⟩) (Nat.min_le_left _ _) _).setCell (p := ⟨P, 1, none⟩) (Nat.min_le_left _ _) _).setCell (p := ⟨Q, 0, none⟩) (Nat.min_le_right _ _) _).setCell (p := ⟨Q, 1, none⟩) (Nat.min_le_right _ _) _
    rw [← HX]
    dsimp only at hX
    rw [← HX] at hX
    have hbd := ((Below.refl X.heap.size X).alloc (Nat.le_refl _) (.cells #[.int .i64 c, .int .i64 k] 28)).drew
    have hlP : P < X.heap.size := World.block_lt_of_cell? _ _ hX.1
    have hlQ : Q < X.heap.size := World.block_lt_of_cell? _ _ hX.2.2.1
    refine ⟨rfl, _, rfl, .tuple #[], (by simp [results, Tryd.results8]), rfl, rfl, ⟨(hbd.cell (p := ⟨P, 0, none⟩) hlP).trans hX.1, (hbd.cell (p := ⟨P, 1, none⟩) hlP).trans hX.2.1, (hbd.cell (p := ⟨Q, 0, none⟩) hlQ).trans hX.2.2.1, (hbd.cell (p := ⟨Q, 1, none⟩) hlQ).trans hX.2.2.2⟩, ?_⟩
    exact (hb.alloc (by have := hb.size; omega) _).drew
/-- What Read answers. -/
def ReadIs (s : ByteArray) (e : Ending) (w' : World) : Prop :=
  (∃ (n : Nat) (l : List (Nat × Nat)) (b : Nat), e = .returned (.tuple #[.agg #[.int .i64 (n : Int), .slice (some ⟨b, 0, none⟩) n n], .agg #[.int .i64 0, .int .i64 0]]) ∧ Got s n l ∧ Row w' (some ⟨b, 0, none⟩) n (fun k => (reachOut (mk (pairAt l) l.length) n n k : Nat))) ∨ ∃ (c k : Int), c ≠ 0 ∧ e = .returned (.tuple #[.agg #[.int .i64 0, .slice none 0 0], .agg #[.int .i64 c, .int .i64 k]])
set_option maxHeartbeats 4000000 in
theorem read_gen (s : ByteArray) (w : World) :
    Calls Tryd.prog 5 #[.string s] w fun e w' => ReadIs s e w' ∧ Below w.heap.size w w' := by
  have hmf : ∀ (fn : Fn) (first cap : Array Value) (w : World), (Instr.makeFunc fn first cap).run Tryd.prog w = .ok (.func fn first cap) w := fun _ _ _ _ => rfl
  go_enter_defers Tryd.func5, Tryd.ntmps5
  go_wp2_with fail
  refine (readOrder_gen s _).mono ?_
  rintro e w1 ⟨hO, hb⟩
  have hB0 : Below w.heap.size w ((w.alloc (.cells #[.int .i64 0, .slice none 0 0] 25)).alloc (.cells #[.int .i64 0, .int .i64 0] 28)) := ((Below.refl _ _).alloc (Nat.le_refl _) _).alloc (by simp) _
  have HB1 : Hid (Below w.heap.size w w1) := Below.then hB0 hb
  have hs1 : w.heap.size + 2 ≤ w1.heap.size := by have := hb.size; simpa using this
  have z0 : w1.cell? ⟨w.heap.size, 0, none⟩ = some (.int .i64 0) := (hb.cell (p := ⟨w.heap.size, 0, none⟩) (by simp; omega)).trans (by simp)
  have z1 : w1.cell? ⟨w.heap.size, 1, none⟩ = some (.slice none 0 0) := (hb.cell (p := ⟨w.heap.size, 1, none⟩) (by simp; omega)).trans (by simp)
  have y0 : w1.cell? ⟨w.heap.size + 1, 0, none⟩ = some (.int .i64 0) := (hb.cell (p := ⟨w.heap.size + 1, 0, none⟩) (by simp)).trans (by simp)
  have y1 : w1.cell? ⟨w.heap.size + 1, 1, none⟩ = some (.int .i64 0) := (hb.cell (p := ⟨w.heap.size + 1, 1, none⟩) (by simp)).trans (by simp)
  have f0 : w1.frozen? ⟨w.heap.size, 0, none⟩ = false := (hb.frozen (p := ⟨w.heap.size, 0, none⟩) (by simp; omega)).trans (by simp)
  have f1 : w1.frozen? ⟨w.heap.size, 1, none⟩ = false := (hb.frozen (p := ⟨w.heap.size, 1, none⟩) (by simp; omega)).trans (by simp)
  have g0 : w1.frozen? ⟨w.heap.size + 1, 0, none⟩ = false := (hb.frozen (p := ⟨w.heap.size + 1, 0, none⟩) (by simp)).trans (by simp [World.frozen?_alloc_at])
  have g1 : w1.frozen? ⟨w.heap.size + 1, 1, none⟩ = false := (hb.frozen (p := ⟨w.heap.size + 1, 1, none⟩) (by simp)).trans (by simp [World.frozen?_alloc_at])
  rcases hO with ⟨n, l, b, rfl, hbb, hgot, hr⟩ | ⟨c, k, hc, rfl⟩
  · have HBB : Hid (w.heap.size + 2 ≤ b) := by simpa [Hid] using hbb
    have HGOT : Hid (Got s n l) := hgot
    have HR1 : Hid (Row w1 (some ⟨b, 0, none⟩) n (fun k => (reachOut (mk (pairAt l) l.length) n n k : Nat))) := hr
    clear hb hB0 hr hbb hgot
    obtain ⟨X, HX⟩ : ∃ X, Hid (X = (((w1.setCell ⟨w.heap.size, 0, none⟩ (.int .i64 (n : Int))).setCell ⟨w.heap.size, 1, none⟩ (.slice (some ⟨b, 0, none⟩) n n)).setCell ⟨w.heap.size + 1, 0, none⟩ (.int .i64 0)).setCell ⟨w.heap.size + 1, 1, none⟩ (.int .i64 0)) := ⟨_, rfl⟩
    have hX := four_set w.heap.size (w.heap.size + 1) w1 (by omega) (.int .i64 (n : Int)) (.slice (some ⟨b, 0, none⟩) n n) (.int .i64 0) (.int .i64 0) _ _ _ _ z0 z1 y0 y1
    dsimp only at hX
    rw [← HX.out] at hX
    obtain ⟨x0, x1, x2, x3⟩ := hX
    have hX0 : w.heap.size < X.heap.size := World.block_lt_of_cell? _ _ x0
    have hX1 : w.heap.size + 1 < X.heap.size := World.block_lt_of_cell? _ _ x2
    have HBX : Hid (Below w.heap.size w X) := by
      rw [HX.out]
      exact (((HB1.out.setCell (p := ⟨w.heap.size, 0, none⟩) (Nat.le_refl _) _).setCell (p := ⟨w.heap.size, 1, none⟩) (Nat.le_refl _) _).setCell (p := ⟨w.heap.size + 1, 0, none⟩) (Nat.le_succ _) _).setCell (p := ⟨w.heap.size + 1, 1, none⟩) (Nat.le_succ _) _
    have HRX : Hid (Row X (some ⟨b, 0, none⟩) n (fun k => (reachOut (mk (pairAt l) l.length) n n k : Nat))) := fun k hk => by
      obtain ⟨b', o', e, hc⟩ := HR1.out k hk
      refine ⟨b', o', e, ?_⟩
      have eb : b = b' := by injection e with e; injection e
      subst eb
      have hbb := HBB.out
      rw [HX.out, World.cell?_setCell_other _ _ _ _ (fun e => by injection e with e1; omega), World.cell?_setCell_other _ _ _ _ (fun e => by injection e with e1; omega), World.cell?_setCell_other _ _ _ _ (fun e => by injection e with e1; omega), World.cell?_setCell_other _ _ _ _ (fun e => by injection e with e1; omega)]
      exact hc
    go_wp2_with fail
    rw [← HX.out]
    clear HX
    refine leaves_cons (f := 8) (args := #[.pointer (some ⟨w.heap.size, 0, none⟩), .pointer (some ⟨w.heap.size + 1, 0, none⟩)]) (by simp) (by simp [go_sem]) ?_
    refine (read1_idle _ _ _).mono ?_
    rintro e u' w'' ⟨rfl, rfl, rfl⟩
    simp [Leaves, settle, results, Tryd.results5, go_sem, x0, x1, x2, x3, hX0, hX1]
    exact ⟨.inl ⟨n, l, b, rfl, HGOT.out, HRX.out.below ((Below.refl _ _).alloc (Nat.le_refl _) _)⟩, HBX.out.alloc HBX.out.size _⟩
  · clear hb hB0
    refine leaves_cons (f := 8) (args := #[.pointer (some ⟨w.heap.size, 0, none⟩), .pointer (some ⟨w.heap.size + 1, 0, none⟩)]) (by simp) (by simp [go_sem]) ?_
    refine (read1_caught w.heap.size (w.heap.size + 1) c k [] _ (by omega) _ _ _ _ z0 z1 y0 y1 f0 f1 g0 g1).mono ?_
    rintro e u' w'' ⟨rfl, rfl, ⟨q0, q1, q2, q3⟩, hbq⟩
    have HB2 : Hid (Below w.heap.size w w'') := HB1.out.trans (hbq.mono (by omega))
    simp [Leaves, settle, results, Tryd.results5, go_sem, q0, q1, q2, q3]
    exact ⟨.inr ⟨c, k, hc, rfl⟩, HB2.out⟩
end Go.Proofs.YtkakhmkgapnlfaaDoor
