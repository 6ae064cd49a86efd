/-
  The drawn region of the reference's LatticeOf that hangs a row into either table. Condition: forty at most.
-/
import Derived.Test.YtappekjkcgmheabLofZ
import Derived.Test.YtappekjkcgmheabLofM
namespace Go.Proofs.Ytappekjkcgmheab
open Go.RowKit

/-- The rows, with one more. -/
def nx (R : Nat → Nat × Nat) (x b c : Nat) (k : Nat) : Nat × Nat := if k = x then (b, c) else R k
theorem sv_nx (n : Nat) (R : Nat → Nat × Nat) (x b c : Nat) : sv n (nx R x b c) x = sv n R x := by
  unfold sv
  apply List.map_congr_left
  intro k hk
  have : k ≠ x := by have := List.mem_range.1 hk; omega
  simp [nx, this]
theorem sv_nx_succ (n : Nat) (R : Nat → Nat × Nat) (x b c : Nat) : sv n (nx R x b c) (x + 1) = sv n (nx R x b c) x ++ [.slice (some ⟨b, 0, none⟩) n c] := by
  rw [sv_nx]; exact sv_succ n R x b c
section
variable {w0 : World} {B0 B H n x b1 c1 b2 c2 : Nat} {R1 R2 R1' R2' : Nat → Nat × Nat} {m j : Nat → Nat → Nat} {vM vJ : Value} {yM yJ : Nat} {w w' : World}
theorem Hung.of (h : Lof w0 B0 B H n x R1 R2 m j vM vJ w) (hr : Rw H (.slice (some ⟨b1, 0, none⟩) n c1) (.slice (some ⟨b2, 0, none⟩) n c2) n n (m x) (j x) w) :
    Hung B n x R1 R2 m j b1 c1 b2 c2 vM vJ x x (nx R1 x b1 c1) (nx R2 x b2 c2) w := by
  have g1 := own_ge hr.r1 (k := b1) rfl
  have g2 := own_ge hr.r2 (k := b2) rfl
  have l1 := own_lt hr.r1 (k := b1) rfl
  have l2 := own_lt hr.r2 (k := b2) rfl
  have hB := h.bH
  have hs := h.hs
  refine ⟨?_, by rw [sv_nx]; exact h.M, by rw [sv_nx]; exact h.J, h.ap, ?_, ?_, ⟨⟨by omega, l1⟩, fun i hi => ?_⟩, ⟨⟨by omega, l2⟩, fun i hi => ?_⟩⟩
  · rintro k (hk | hk)
    · have q1 := own_ge h.M hk
      have q2 := h.hM k hk
      exact ⟨by omega, by omega, by omega, by omega⟩
    · have q1 := own_ge h.J hk
      have q2 := h.hJ k hk
      exact ⟨by omega, by omega, by omega, by omega⟩
  · intro k hk
    exact ⟨⟨(h.d1 k hk).1.1, Nat.lt_of_lt_of_le (h.d1 k hk).1.2 hs, (h.a1 k hk).1, (h.a1 k hk).2⟩, (h.d1 k hk).2⟩
  · intro k hk
    exact ⟨⟨(h.d2 k hk).1.1, Nat.lt_of_lt_of_le (h.d2 k hk).1.2 hs, (h.a2 k hk).1, (h.a2 k hk).2⟩, (h.d2 k hk).2⟩
  · rw [hr.r1.cellAt i (by omega), rowVals_at _ _ _ hi]
  · rw [hr.r2.cellAt i (by omega), rowVals_at _ _ _ hi]
theorem Hung.step (h : Hung B n x R1 R2 m j b1 c1 b2 c2 vM vJ yM yJ R1' R2' w) (hb : Below w.heap.size w w') : Hung B n x R1 R2 m j b1 c1 b2 c2 vM vJ yM yJ R1' R2' w' := by
  have hz := hb.size
  have kc : ∀ {b i : Nat} {v : Value}, w.cell? ⟨b, i, none⟩ = some v → w'.cell? ⟨b, i, none⟩ = some v := fun hc => (hb.cell (World.block_lt_of_cell? _ _ hc)).trans hc
  exact ⟨fun k hk => ⟨(h.bo k hk).1, Nat.lt_of_lt_of_le (h.bo k hk).2.1 hz, (h.bo k hk).2.2⟩, owns_below h.M hb, owns_below h.J hb, h.ap,
    fun k hk => ⟨⟨(h.d1 k hk).1.1, Nat.lt_of_lt_of_le (h.d1 k hk).1.2.1 hz, (h.d1 k hk).1.2.2⟩, fun i hi => kc ((h.d1 k hk).2 i hi)⟩,
    fun k hk => ⟨⟨(h.d2 k hk).1.1, Nat.lt_of_lt_of_le (h.d2 k hk).1.2.1 hz, (h.d2 k hk).1.2.2⟩, fun i hi => kc ((h.d2 k hk).2 i hi)⟩,
    ⟨⟨h.e1.1.1, Nat.lt_of_lt_of_le h.e1.1.2 hz⟩, fun i hi => kc (h.e1.2 i hi)⟩, ⟨⟨h.e2.1.1, Nat.lt_of_lt_of_le h.e2.1.2 hz⟩, fun i hi => kc (h.e2.2 i hi)⟩⟩
theorem Hung.growM (h : Hung B n x R1 R2 m j b1 c1 b2 c2 vM vJ x yJ (nx R1 x b1 c1) R2' w) {v : Value} (ho : w'.ownsRow (B + 1) 31 1 v (x + 1) (sv n (nx R1 x b1 c1) x ++ [.slice (some ⟨b1, 0, none⟩) n c1])) (hg : w.grownBy w' vM.ownBlock)
    (hk : v.ownBlock = vM.ownBlock ∨ v.ownBlock = some w.heap.size) : Hung B n x R1 R2 m j b1 c1 b2 c2 v vJ (x + 1) yJ (nx R1 x b1 c1) R2' w' := by
  have hz := hg.size
  have e1n : some b1 ≠ vM.ownBlock := fun e => (h.bo b1 (.inl e.symm)).2.2.1 rfl
  have e2n : some b2 ≠ vM.ownBlock := fun e => (h.bo b2 (.inl e.symm)).2.2.2 rfl
  have hvlt : ∀ k, v.ownBlock = some k → k < w'.heap.size := fun k hk => own_lt ho hk
  have nw : ∀ {b : Nat}, b < w.heap.size → some b ≠ vM.ownBlock → some b ≠ v.ownBlock := fun hb hne e => by
    rcases hk with q | q
    · rw [q] at e; exact hne e
    · rw [q] at e
      have e2 := Option.some.inj e
      omega
  refine ⟨?_, by rw [sv_nx_succ]; exact ho, h.J.kept hg ?_, ?_, ?_, ?_, ?_, ?_⟩
  · rintro k (q | q)
    · refine ⟨own_ge ho q, hvlt k q, fun e => ?_, fun e => ?_⟩
      · subst e; exact nw h.e1.1.2 e1n q.symm
      · subst e; exact nw h.e2.1.2 e2n q.symm
    · exact ⟨(h.bo k (.inr q)).1, Nat.lt_of_lt_of_le (h.bo k (.inr q)).2.1 hz, (h.bo k (.inr q)).2.2⟩
  · rcases h.ap with e | e
    · by_cases q : vJ.ownBlock = none
      · exact .inl q
      · right; rw [e]; exact q
    · exact .inr (fun q => e q.symm)
  · rcases hk with e | e
    · rw [e]; exact h.ap
    · right; rw [e]; intro q
      have := own_lt h.J q.symm
      omega
  · intro k hk2
    obtain ⟨⟨q1, q2, q3, q4⟩, q5⟩ := h.d1 k hk2
    exact ⟨⟨q1, Nat.lt_of_lt_of_le q2 hz, nw q2 q3, q4⟩, fun i hi => hg.cell (q5 i hi) q3⟩
  · intro k hk2
    obtain ⟨⟨q1, q2, q3, q4⟩, q5⟩ := h.d2 k hk2
    exact ⟨⟨q1, Nat.lt_of_lt_of_le q2 hz, nw q2 q3, q4⟩, fun i hi => hg.cell (q5 i hi) q3⟩
  · exact ⟨⟨h.e1.1.1, Nat.lt_of_lt_of_le h.e1.1.2 hz⟩, fun i hi => hg.cell (h.e1.2 i hi) e1n⟩
  · exact ⟨⟨h.e2.1.1, Nat.lt_of_lt_of_le h.e2.1.2 hz⟩, fun i hi => hg.cell (h.e2.2 i hi) e2n⟩
theorem Hung.growJ (h : Hung B n x R1 R2 m j b1 c1 b2 c2 vM vJ yM x R1' (nx R2 x b2 c2) w) {v : Value} (ho : w'.ownsRow (B + 1) 31 1 v (x + 1) (sv n (nx R2 x b2 c2) x ++ [.slice (some ⟨b2, 0, none⟩) n c2])) (hg : w.grownBy w' vJ.ownBlock)
    (hk : v.ownBlock = vJ.ownBlock ∨ v.ownBlock = some w.heap.size) : Hung B n x R1 R2 m j b1 c1 b2 c2 vM v yM (x + 1) R1' (nx R2 x b2 c2) w' := by
  have hz := hg.size
  have e1n : some b1 ≠ vJ.ownBlock := fun e => (h.bo b1 (.inr e.symm)).2.2.1 rfl
  have e2n : some b2 ≠ vJ.ownBlock := fun e => (h.bo b2 (.inr e.symm)).2.2.2 rfl
  have hvlt : ∀ k, v.ownBlock = some k → k < w'.heap.size := fun k hk => own_lt ho hk
  have nw : ∀ {b : Nat}, b < w.heap.size → some b ≠ vJ.ownBlock → some b ≠ v.ownBlock := fun hb hne e => by
    rcases hk with q | q
    · rw [q] at e; exact hne e
    · rw [q] at e
      have e2 := Option.some.inj e
      omega
  refine ⟨?_, h.M.kept hg ?_, by rw [sv_nx_succ]; exact ho, ?_, ?_, ?_, ?_, ?_⟩
  · rintro k (q | q)
    · exact ⟨(h.bo k (.inl q)).1, Nat.lt_of_lt_of_le (h.bo k (.inl q)).2.1 hz, (h.bo k (.inl q)).2.2⟩
    · refine ⟨own_ge ho q, hvlt k q, fun e => ?_, fun e => ?_⟩
      · subst e; exact nw h.e1.1.2 e1n q.symm
      · subst e; exact nw h.e2.1.2 e2n q.symm
  · rcases h.ap with e | e
    · exact .inl e
    · exact .inr e
  · rcases hk with e | e
    · rw [e]; exact h.ap
    · by_cases q : vM.ownBlock = none
      · exact .inl q
      · right; rw [e]; intro q2
        have := own_lt h.M q2
        omega
  · intro k hk2
    obtain ⟨⟨q1, q2, q3, q4⟩, q5⟩ := h.d1 k hk2
    exact ⟨⟨q1, Nat.lt_of_lt_of_le q2 hz, q3, nw q2 q4⟩, fun i hi => hg.cell (q5 i hi) q4⟩
  · intro k hk2
    obtain ⟨⟨q1, q2, q3, q4⟩, q5⟩ := h.d2 k hk2
    exact ⟨⟨q1, Nat.lt_of_lt_of_le q2 hz, q3, nw q2 q4⟩, fun i hi => hg.cell (q5 i hi) q4⟩
  · exact ⟨⟨h.e1.1.1, Nat.lt_of_lt_of_le h.e1.1.2 hz⟩, fun i hi => hg.cell (h.e1.2 i hi) e1n⟩
  · exact ⟨⟨h.e2.1.1, Nat.lt_of_lt_of_le h.e2.1.2 hz⟩, fun i hi => hg.cell (h.e2.2 i hi) e2n⟩
theorem Hung.below {row : Option Nat} (h0 : Below B0 w0 w) (hB : B0 ≤ B) (hs : B0 ≤ w.heap.size) (hg : w.grownBy w' row) (hr : ∀ k, row = some k → B < k) : Below B0 w0 w' :=
  h0.grown hg hs (fun k hk => by have := hr k hk; omega)
/-- Both rows hang, and the box says so. -/
theorem Hung.fin (h : Hung B n x R1 R2 m j b1 c1 b2 c2 vM vJ (x + 1) (x + 1) (nx R1 x b1 c1) (nx R2 x b2 c2) w) (hbel : Below B0 w0 w) (hB0 : B0 ≤ B) {uM uJ : Value} (hbo : Bo w B n uM uJ) :
    ∃ H', Lof w0 B0 B H' n (x + 1) (nx R1 x b1 c1) (nx R2 x b2 c2) m j vM vJ ((w.setCell ⟨B, 1, none⟩ vM).setCell ⟨B, 2, none⟩ vJ) := by
  have hlt : B < w.heap.size := World.block_lt_of_cell? _ _ hbo.c0
  have ne : ∀ {i k : Nat}, i ≠ k → (⟨B, i, none⟩ : Addr) ≠ ⟨B, k, none⟩ := fun h e => h (by injection e)
  have oc : ∀ {b i : Nat}, b ≠ B → ((w.setCell ⟨B, 1, none⟩ vM).setCell ⟨B, 2, none⟩ vJ).cell? ⟨b, i, none⟩ = w.cell? ⟨b, i, none⟩ := fun hb => by
    rw [World.cell?_setCell_other _ _ _ _ (fun e => hb (by injection e with e1 _; exact e1.symm)), World.cell?_setCell_other _ _ _ _ (fun e => hb (by injection e with e1 _; exact e1.symm))]
  have hsz : ((w.setCell ⟨B, 1, none⟩ vM).setCell ⟨B, 2, none⟩ vJ).heap.size = w.heap.size := by simp
  refine ⟨w.heap.size, (hbel.setCell (p := ⟨B, 1, none⟩) hB0 _).setCell (p := ⟨B, 2, none⟩) hB0 _, hB0, hlt, by rw [hsz]; exact Nat.le_refl _, ?_, ?_, ?_, h.ap, fun k hk => (h.bo k (.inl hk)).2.1, fun k hk => (h.bo k (.inr hk)).2.1, ?_, ?_, ?_, ?_⟩
  · refine ⟨?_, ?_, ?_, ?_, ?_⟩
    · rw [World.cell?_setCell_other _ _ _ _ (ne (by decide)), World.cell?_setCell_other _ _ _ _ (ne (by decide))]; exact hbo.c0
    · rw [World.cell?_setCell_other _ _ _ _ (ne (by decide))]; exact World.cell?_setCell_same _ _ _ hbo.c1
    · exact World.cell?_setCell_same _ _ _ (show _ = some uJ from by rw [World.cell?_setCell_other _ _ _ _ (ne (by decide))]; exact hbo.c2)
    · rw [World.frozen?_setCell, World.frozen?_setCell]; exact hbo.f1
    · rw [World.frozen?_setCell, World.frozen?_setCell]; exact hbo.f2
  · exact ownsRow_under (ownsRow_under h.M (Nat.lt_succ_self _) _ _) (Nat.lt_succ_self _) _ _
  · exact ownsRow_under (ownsRow_under h.J (Nat.lt_succ_self _) _ _) (Nat.lt_succ_self _) _ _
  · intro k hk
    by_cases e : k = x
    · subst e
      simp only [nx, if_true]
      exact ⟨⟨h.e1.1.1, h.e1.1.2⟩, fun i hi => by rw [oc (by have := h.e1.1.1; omega)]; exact h.e1.2 i hi⟩
    · obtain ⟨⟨q1, q2, _, _⟩, q5⟩ := h.d1 k (by omega)
      simp only [nx, e, if_false]
      exact ⟨⟨q1, q2⟩, fun i hi => by rw [oc (by omega)]; exact q5 i hi⟩
  · intro k hk
    by_cases e : k = x
    · subst e
      simp only [nx, if_true]
      exact ⟨⟨h.e2.1.1, h.e2.1.2⟩, fun i hi => by rw [oc (by have := h.e2.1.1; omega)]; exact h.e2.2 i hi⟩
    · obtain ⟨⟨q1, q2, _, _⟩, q5⟩ := h.d2 k (by omega)
      simp only [nx, e, if_false]
      exact ⟨⟨q1, q2⟩, fun i hi => by rw [oc (by omega)]; exact q5 i hi⟩
  · intro k hk
    by_cases e : k = x
    · subst e
      simp only [nx, if_true]
      exact ⟨fun q => (h.bo b1 (.inl q.symm)).2.2.1 rfl, fun q => (h.bo b1 (.inr q.symm)).2.2.1 rfl⟩
    · simp only [nx, e, if_false]
      exact (h.d1 k (by omega)).1.2.2
  · intro k hk
    by_cases e : k = x
    · subst e
      simp only [nx, if_true]
      exact ⟨fun q => (h.bo b2 (.inl q.symm)).2.2.2 rfl, fun q => (h.bo b2 (.inr q.symm)).2.2.2 rfl⟩
    · simp only [nx, e, if_false]
      exact (h.d2 k (by omega)).1.2.2
end
/-- An append of one row to a table of the call's own. -/
theorem wp_hang {o : Oper} {a : Act} {K : Act → World → Prop} {Q : Exit → Act → World → Prop} (w : World) (s x : Operand)
    (ho : o.op = .call { callee := .builtin .append, args := #[s, x], argTypes := #[22, 22] }) (base : Nat) (v : Value) (n : Nat) (xs : List Value) (hs : a.eval s = v) (hown : w.ownsRow base 31 1 v n xs)
    (b : Nat) (rb rl rc : Nat) (hx : a.eval x = .slice (some ⟨b, 0, none⟩) 1 1) (hc : w.cell? ⟨b, 0, none⟩ = some (.slice (some ⟨rb, 0, none⟩) rl rc)) (hlen : n ≤ 1000) (hbase : base ≤ w.heap.size)
    (h : ∀ v' w', w'.ownsRow base 31 1 v' (n + 1) (xs ++ [.slice (some ⟨rb, 0, none⟩) rl rc]) → w.grownBy w' v.ownBlock → (v'.ownBlock = v.ownBlock ∨ v'.ownBlock = some w.heap.size) → K (a.put o.dst v') w') : o.wp Try.prog a w K Q := by
  obtain ⟨i0, hi, hz0, hz1, hz2⟩ := info_parts Try.infoLI
  obtain ⟨v', w', hr, h2, h3, _, h5⟩ := run_append_own_at (P := Try.prog) w base 22 o.type 31 i0 (.slice none 0 0) 1 (12 + 12) Try.underlying22 hi hz0 hz1 hz2 rfl (by decide) v n xs hown ⟨b, 0, none⟩ 1 1 [.slice (some ⟨rb, 0, none⟩) rl rc] rfl (fun j q hj => by
    match j, hj with
    | 0, hj => simp at hj; subst hj; simpa [Addr.add] using hc) (fun q hq => by simp at hq; subst hq; rfl) (by unfold maxLen; omega) (by omega) hbase
  unfold Oper.wp execOp
  simp only [ho, resolve, invoke, builtin, Sem.run_bind, Sem.run_pure, Result.andThen_ok, List.map_toArray, List.map_cons, List.map_nil, hs, hx, hr]
  exact h v' w' h2 h3 h5

/-- What the loads of the region read. -/
def SBq (w0 : World) (B0 B n : Nat) (vM vJ : Value) (w : World) : Prop := Below B0 w0 w ∧ Bo w B n vM vJ
theorem SBq.lt {w0 w : World} {B0 B n : Nat} {vM vJ : Value} (h : SBq w0 B0 B n vM vJ w) : B < w.heap.size := World.block_lt_of_cell? _ _ h.2.c0
theorem SBq.step {w0 w w' : World} {B0 B n : Nat} {vM vJ : Value} (h : SBq w0 B0 B n vM vJ w) (hB : B0 ≤ B) (hb : Below w.heap.size w w') : SBq w0 B0 B n vM vJ w' :=
  ⟨h.1.trans (hb.mono (by have := h.lt; omega)), h.2.keep hb h.lt⟩
theorem SBq.grown {w0 w w' : World} {B0 B n : Nat} {vM vJ : Value} {row : Option Nat} (h : SBq w0 B0 B n vM vJ w) (hB : B0 ≤ B) (hg : w.grownBy w' row) (hr : ∀ k, row = some k → B < k) : SBq w0 B0 B n vM vJ w' :=
  ⟨Hung.below h.1 hB (by have := h.lt; omega) hg hr, h.2.grown hg (fun e => by have := hr B e.symm; omega)⟩
def ops26 : Array Oper :=
  #[{ dst := some 120, op := Go.Op.fieldAddr 24 (Go.Operand.tmp 6) 1, type := 0, pos := "lattice.go:396", after := #[], guard := none },
    { dst := some 121, op := Go.Op.load 22 (Go.Operand.tmp 120), type := 22, pos := "lattice.go:396", after := #[{ on := 0, ground := Go.Ground.data }], guard := none },
    { dst := some 122, op := Go.Op.move (Go.Operand.tmp 8), type := 31, pos := "lattice.go:396", after := #[], guard := none },
    { dst := some 123, op := Go.Op.buildSlice 22 1 #[(0, Go.Operand.tmp 122)], type := 22, pos := "lattice.go:396", after := #[{ on := 2, ground := Go.Ground.data }], guard := none },
    { dst := some 124, op := Go.Op.call { callee := Go.Callee.builtin Go.Builtin.append, args := #[Go.Operand.tmp 121, Go.Operand.tmp 123], argTypes := #[22, 22] }, type := 22, pos := "lattice.go:396", after := #[{ on := 1, ground := Go.Ground.data }, { on := 3, ground := Go.Ground.data }], guard := none },
    { dst := some 125, op := Go.Op.fieldAddr 24 (Go.Operand.tmp 6) 2, type := 0, pos := "lattice.go:396", after := #[], guard := none },
    { dst := some 126, op := Go.Op.load 22 (Go.Operand.tmp 125), type := 22, pos := "lattice.go:396", after := #[{ on := 5, ground := Go.Ground.data }], guard := none },
    { dst := some 127, op := Go.Op.move (Go.Operand.tmp 9), type := 31, pos := "lattice.go:396", after := #[], guard := none },
    { dst := some 128, op := Go.Op.buildSlice 22 1 #[(0, Go.Operand.tmp 127)], type := 22, pos := "lattice.go:396", after := #[{ on := 7, ground := Go.Ground.data }], guard := none },
    { dst := some 129, op := Go.Op.call { callee := Go.Callee.builtin Go.Builtin.append, args := #[Go.Operand.tmp 126, Go.Operand.tmp 128], argTypes := #[22, 22] }, type := 22, pos := "lattice.go:396", after := #[{ on := 6, ground := Go.Ground.data }, { on := 8, ground := Go.Ground.data }, { on := 4, ground := Go.Ground.chain }], guard := none },
    { dst := some 130, op := Go.Op.fieldAddr 24 (Go.Operand.tmp 6) 1, type := 0, pos := "lattice.go:396", after := #[{ on := 0, ground := Go.Ground.phase }, { on := 1, ground := Go.Ground.phase }, { on := 2, ground := Go.Ground.phase }, { on := 3, ground := Go.Ground.phase }, { on := 4, ground := Go.Ground.phase }, { on := 5, ground := Go.Ground.phase }, { on := 6, ground := Go.Ground.phase }, { on := 7, ground := Go.Ground.textOnly Go.Departure.lateStores }, { on := 8, ground := Go.Ground.textOnly Go.Departure.lateStores }, { on := 9, ground := Go.Ground.textOnly Go.Departure.lateStoresUnsure }], guard := none },
    { dst := none, op := Go.Op.store 22 (Go.Operand.tmp 130) (Go.Operand.tmp 124), type := 0, pos := "lattice.go:396", after := #[{ on := 10, ground := Go.Ground.data }, { on := 4, ground := Go.Ground.data }, { on := 9, ground := Go.Ground.chain }, { on := 0, ground := Go.Ground.phase }, { on := 1, ground := Go.Ground.phase }, { on := 2, ground := Go.Ground.phase }, { on := 3, ground := Go.Ground.phase }, { on := 4, ground := Go.Ground.phase }, { on := 5, ground := Go.Ground.phase }, { on := 6, ground := Go.Ground.phase }, { on := 7, ground := Go.Ground.textOnly Go.Departure.lateStores }, { on := 8, ground := Go.Ground.textOnly Go.Departure.lateStores }, { on := 9, ground := Go.Ground.textOnly Go.Departure.lateStoresUnsure }], guard := none },
    { dst := some 131, op := Go.Op.fieldAddr 24 (Go.Operand.tmp 6) 2, type := 0, pos := "lattice.go:396", after := #[{ on := 0, ground := Go.Ground.phase }, { on := 1, ground := Go.Ground.phase }, { on := 2, ground := Go.Ground.phase }, { on := 3, ground := Go.Ground.phase }, { on := 4, ground := Go.Ground.phase }, { on := 5, ground := Go.Ground.phase }, { on := 6, ground := Go.Ground.phase }, { on := 7, ground := Go.Ground.phase }, { on := 8, ground := Go.Ground.phase }, { on := 9, ground := Go.Ground.phase }, { on := 10, ground := Go.Ground.phase }, { on := 11, ground := Go.Ground.phase }], guard := none },
    { dst := none, op := Go.Op.store 22 (Go.Operand.tmp 131) (Go.Operand.tmp 129), type := 0, pos := "lattice.go:396", after := #[{ on := 12, ground := Go.Ground.data }, { on := 9, ground := Go.Ground.data }, { on := 11, ground := Go.Ground.chain }, { on := 0, ground := Go.Ground.phase }, { on := 1, ground := Go.Ground.phase }, { on := 2, ground := Go.Ground.phase }, { on := 3, ground := Go.Ground.phase }, { on := 4, ground := Go.Ground.phase }, { on := 5, ground := Go.Ground.phase }, { on := 6, ground := Go.Ground.phase }, { on := 7, ground := Go.Ground.phase }, { on := 8, ground := Go.Ground.phase }, { on := 9, ground := Go.Ground.phase }, { on := 10, ground := Go.Ground.phase }, { on := 11, ground := Go.Ground.phase }], guard := none }]
set_option maxHeartbeats 8000000 in
set_option maxRecDepth 100000 in
theorem reg26 {w0 w : World} {B0 B H n x b1 c1 b2 c2 : Nat} {R1 R2 : Nat → Nat × Nat} {m j : Nat → Nat → Nat} {vM vJ : Value} {u0 u1 u2 u3 u4 u5 u7 u10 u11 u12 u13 u14 u15 u16 u17 u18 u19 u20 u21 utt u23 utf u25 u26 u27 u28 u29 u30 u31 u32 u33 u34 u35 u36 u37 u38 u39 u40 u41 u42 u43 u44 u45 u46 u47 u48 u49 u50 u51 u52 u53 u54 u55 u56 u57 u58 u59 u60 u61 u62 u63 u64 u65 u66 u67 u68 u69 u70 u71 u72 u73 u74 u75 u76 u77 u78 u79 u80 u81 u82 u83 u84 u85 u86 u87 u88 u89 u90 u91 u92 u93 u94 u95 u96 u97 u98 u99 u100 u101 u102 u103 u104 u105 u106 u107 u108 u109 u110 u111 u112 u113 u114 u115 u116 u117 u118 u119 u120 u121 u122 u123 u124 u125 u126 u127 u128 u129 u130 u131 u132 u133 u134 : Value} {Q : Exit → Act → World → Prop} (h40 : x ≤ 40)
    (hL : Hid (Lof w0 B0 B H n x R1 R2 m j vM vJ w)) (hR : Hid (Rw H (.slice (some ⟨b1, 0, none⟩) n c1) (.slice (some ⟨b2, 0, none⟩) n c2) n n (m x) (j x) w))
    (hQ : ∀ c a w (d : Nat) v, Q (.panic c) (a.put (some d) v) w → Q (.panic c) a w)
    (hk : ∀ vM' vJ' R1' R2' H' w', Lof w0 B0 B H' n (x + 1) R1' R2' m j vM' vJ' w' → ∀ z120 z121 z122 z123 z124 z125 z126 z127 z128 z129 z130 z131 : Value, Q .normal { tmps := (u0 :: u1 :: u2 :: u3 :: u4 :: u5 :: (.pointer (some ⟨B, 0, none⟩)) :: u7 :: (.slice (some ⟨b1, 0, none⟩) n c1) :: (.slice (some ⟨b2, 0, none⟩) n c2) :: u10 :: u11 :: u12 :: u13 :: u14 :: u15 :: u16 :: u17 :: u18 :: u19 :: u20 :: u21 :: utt :: u23 :: utf :: u25 :: u26 :: u27 :: u28 :: u29 :: u30 :: u31 :: u32 :: u33 :: u34 :: u35 :: u36 :: u37 :: u38 :: u39 :: u40 :: u41 :: u42 :: u43 :: u44 :: u45 :: u46 :: u47 :: u48 :: u49 :: u50 :: u51 :: u52 :: u53 :: u54 :: u55 :: u56 :: u57 :: u58 :: u59 :: u60 :: u61 :: u62 :: u63 :: u64 :: u65 :: u66 :: u67 :: u68 :: u69 :: u70 :: u71 :: u72 :: u73 :: u74 :: u75 :: u76 :: u77 :: u78 :: u79 :: u80 :: u81 :: u82 :: u83 :: u84 :: u85 :: u86 :: u87 :: u88 :: u89 :: u90 :: u91 :: u92 :: u93 :: u94 :: u95 :: u96 :: u97 :: u98 :: u99 :: u100 :: u101 :: u102 :: u103 :: u104 :: u105 :: u106 :: u107 :: u108 :: u109 :: u110 :: u111 :: u112 :: u113 :: u114 :: u115 :: u116 :: u117 :: u118 :: u119 :: z120 :: z121 :: z122 :: z123 :: z124 :: z125 :: z126 :: z127 :: z128 :: z129 :: z130 :: z131 :: u132 :: u133 :: u134 :: []).toArray, defers := [] } w') :
    (Code.region 26 ops26 true).wp Try.prog Q { tmps := (u0 :: u1 :: u2 :: u3 :: u4 :: u5 :: (.pointer (some ⟨B, 0, none⟩)) :: u7 :: (.slice (some ⟨b1, 0, none⟩) n c1) :: (.slice (some ⟨b2, 0, none⟩) n c2) :: u10 :: u11 :: u12 :: u13 :: u14 :: u15 :: u16 :: u17 :: u18 :: u19 :: u20 :: u21 :: utt :: u23 :: utf :: u25 :: u26 :: u27 :: u28 :: u29 :: u30 :: u31 :: u32 :: u33 :: u34 :: u35 :: u36 :: u37 :: u38 :: u39 :: u40 :: u41 :: u42 :: u43 :: u44 :: u45 :: u46 :: u47 :: u48 :: u49 :: u50 :: u51 :: u52 :: u53 :: u54 :: u55 :: u56 :: u57 :: u58 :: u59 :: u60 :: u61 :: u62 :: u63 :: u64 :: u65 :: u66 :: u67 :: u68 :: u69 :: u70 :: u71 :: u72 :: u73 :: u74 :: u75 :: u76 :: u77 :: u78 :: u79 :: u80 :: u81 :: u82 :: u83 :: u84 :: u85 :: u86 :: u87 :: u88 :: u89 :: u90 :: u91 :: u92 :: u93 :: u94 :: u95 :: u96 :: u97 :: u98 :: u99 :: u100 :: u101 :: u102 :: u103 :: u104 :: u105 :: u106 :: u107 :: u108 :: u109 :: u110 :: u111 :: u112 :: u113 :: u114 :: u115 :: u116 :: u117 :: u118 :: u119 :: u120 :: u121 :: u122 :: u123 :: u124 :: u125 :: u126 :: u127 :: u128 :: u129 :: u130 :: u131 :: u132 :: u133 :: u134 :: []).toArray, defers := [] } w := by
  unfold ops26
  refine wp_lates (S := SBq w0 B0 B n vM vJ) (late := fun i => i == 7 || (i == 11 || (i == 12 || i == 13))) (by kernel_rfl) ?_
  obtain ⟨wd, hwd⟩ : ∃ wd, Hid (wd = w.drew) := ⟨_, rfl⟩
  have hbd : Below w.heap.size w wd := by rw [hwd.out]; exact (Below.refl _ _).drew
  rw [← hwd.out]
  have HG : Hid (Hung B n x R1 R2 m j b1 c1 b2 c2 vM vJ x x (nx R1 x b1 c1) (nx R2 x b2 c2) wd) := (Hung.of hL.out hR.out).step hbd
  have hB0 := hL.out.b0
  have HS : Hid (SBq w0 B0 B n vM vJ wd) := SBq.step ⟨hL.out.bel, hL.out.bo⟩ hB0 hbd
  clear hwd hbd hL hR
  refine lates_free (i := 7) (oi := { dst := some 127, op := Go.Op.move (Go.Operand.tmp 9), type := 31, pos := "lattice.go:396", after := #[], guard := none }) (v := ?_) rfl (by kernel_rfl) (by kernel_rfl) (by kernel_rfl) rfl (fun _ _ _ h => hQ _ _ _ _ _ h) (Or.inl ⟨by rfl, ?hy⟩) ?_
  case hy => (intro w9 hSw; clear hSw; go_simp; try with_reducible rfl)
  try simp only [Act.put, List.setIfInBounds_toArray, List.set_cons_zero, List.set_cons_succ]
  refine lates_takeD (i := 0) (oi := { dst := some 120, op := Go.Op.fieldAddr 24 (Go.Operand.tmp 6) 1, type := 0, pos := "lattice.go:396", after := #[], guard := none }) (v := ?_) rfl (by kernel_rfl) (by kernel_rfl) (by kernel_rfl) (by kernel_rfl) (fun _ _ _ h => hQ _ _ _ _ _ h) (Or.inl ⟨by rfl, ?hy⟩) HS.out ?_
  case hy => (intro w9 hSw; obtain ⟨qb, qo⟩ := hSw; have q1 := qo.c1; have q2 := qo.c2; clear qb qo; go_simp; try with_reducible rfl)
  try simp only [Act.put, List.setIfInBounds_toArray, List.set_cons_zero, List.set_cons_succ]
  refine lates_takeD (i := 1) (oi := { dst := some 121, op := Go.Op.load 22 (Go.Operand.tmp 120), type := 22, pos := "lattice.go:396", after := #[{ on := 0, ground := Go.Ground.data }], guard := none }) (v := ?_) rfl (by kernel_rfl) (by kernel_rfl) (by kernel_rfl) (by kernel_rfl) (fun _ _ _ h => hQ _ _ _ _ _ h) (Or.inl ⟨by rfl, ?hy⟩) HS.out ?_
  case hy => (intro w9 hSw; obtain ⟨qb, qo⟩ := hSw; have q1 := qo.c1; have q2 := qo.c2; clear qb qo; go_simp; try with_reducible rfl)
  try simp only [Act.put, List.setIfInBounds_toArray, List.set_cons_zero, List.set_cons_succ]
  refine lates_takeD (i := 2) (oi := { dst := some 122, op := Go.Op.move (Go.Operand.tmp 8), type := 31, pos := "lattice.go:396", after := #[], guard := none }) (v := ?_) rfl (by kernel_rfl) (by kernel_rfl) (by kernel_rfl) (by kernel_rfl) (fun _ _ _ h => hQ _ _ _ _ _ h) (Or.inl ⟨by rfl, ?hy⟩) HS.out ?_
  case hy => (intro w9 hSw; obtain ⟨qb, qo⟩ := hSw; have q1 := qo.c1; have q2 := qo.c2; clear qb qo; go_simp; try with_reducible rfl)
  try simp only [Act.put, List.setIfInBounds_toArray, List.set_cons_zero, List.set_cons_succ]
  refine lates_takeD (i := 5) (oi := { dst := some 125, op := Go.Op.fieldAddr 24 (Go.Operand.tmp 6) 2, type := 0, pos := "lattice.go:396", after := #[], guard := none }) (v := ?_) rfl (by kernel_rfl) (by kernel_rfl) (by kernel_rfl) (by kernel_rfl) (fun _ _ _ h => hQ _ _ _ _ _ h) (Or.inl ⟨by rfl, ?hy⟩) HS.out ?_
  case hy => (intro w9 hSw; obtain ⟨qb, qo⟩ := hSw; have q1 := qo.c1; have q2 := qo.c2; clear qb qo; go_simp; try with_reducible rfl)
  try simp only [Act.put, List.setIfInBounds_toArray, List.set_cons_zero, List.set_cons_succ]
  refine lates_takeD (i := 6) (oi := { dst := some 126, op := Go.Op.load 22 (Go.Operand.tmp 125), type := 22, pos := "lattice.go:396", after := #[{ on := 5, ground := Go.Ground.data }], guard := none }) (v := ?_) rfl (by kernel_rfl) (by kernel_rfl) (by kernel_rfl) (by kernel_rfl) (fun _ _ _ h => hQ _ _ _ _ _ h) (Or.inl ⟨by rfl, ?hy⟩) HS.out ?_
  case hy => (intro w9 hSw; obtain ⟨qb, qo⟩ := hSw; have q1 := qo.c1; have q2 := qo.c2; clear qb qo; go_simp; try with_reducible rfl)
  try simp only [Act.put, List.setIfInBounds_toArray, List.set_cons_zero, List.set_cons_succ]
  refine lates_ready (rs := [3, 8]) (by kernel_rfl) (by simp) ?_
  refine AllLate.cons (o := { dst := some 123, op := Go.Op.buildSlice 22 1 #[(0, Go.Operand.tmp 122)], type := 22, pos := "lattice.go:396", after := #[{ on := 2, ground := Go.Ground.data }], guard := none }) rfl (fun K hK => ?_) ?_
  · go_simp
    refine hK.out _ _ (fun _ => SBq.step HS.out hB0 ((Below.refl _ _).alloc (Nat.le_refl _) _)) ?_
    obtain ⟨w3, h3⟩ : ∃ w9, Hid (w9 = wd.alloc (.cells #[.slice (some ⟨b1, 0, none⟩) n c1] 31)) := ⟨_, rfl⟩
    rw [← h3.out]
    have hb3 : Below wd.heap.size wd w3 := by rw [h3.out]; exact (Below.refl _ _).alloc (Nat.le_refl _) _
    have HC3 : Hid (w3.cell? ⟨wd.heap.size, 0, none⟩ = some (.slice (some ⟨b1, 0, none⟩) n c1)) := by rw [Hid, h3.out]; simp
    have HG := (show Hid _ from HG.out.step hb3)
    have HS : Hid (SBq w0 B0 B n vM vJ w3) := SBq.step HS.out hB0 hb3
    clear hb3 h3
    clear hK K
    try simp only [Act.put, List.setIfInBounds_toArray, List.set_cons_zero, List.set_cons_succ]
    refine lates_ready (rs := [4, 8]) (by kernel_rfl) (by simp) ?_
    refine AllLate.cons (o := { dst := some 124, op := Go.Op.call { callee := Go.Callee.builtin Go.Builtin.append, args := #[Go.Operand.tmp 121, Go.Operand.tmp 123], argTypes := #[22, 22] }, type := 22, pos := "lattice.go:396", after := #[{ on := 1, ground := Go.Ground.data }, { on := 3, ground := Go.Ground.data }], guard := none }) rfl (fun K hK => ?_) ?_
    · rw [if_pos (by rfl)]
      refine wp_hang _ _ _ rfl (B + 1) vM x _ rfl HG.out.M _ b1 n c1 rfl HC3.out (by omega) (by have := HS.out.lt; omega) ?_
      intro v4 w4 hown4 hgrow4 hblk4
      obtain ⟨g4, cp4, rfl⟩ := owns_form hown4 (Nat.succ_pos _)
      have HS4 : Hid (SBq w0 B0 B n vM vJ w4) := SBq.grown HS.out hB0 hgrow4 (fun k hk => (HG.out.bo k (.inl hk)).1)
      refine hK.out _ _ (fun _ => HS4.out) ?_
      have HG := (show Hid _ from HG.out.growM hown4 hgrow4 hblk4)
      have HS := HS4
      clear hown4 hgrow4 hblk4 HS4 HC3
      clear hK K
      try simp only [Act.put, List.setIfInBounds_toArray, List.set_cons_zero, List.set_cons_succ]
      refine lates_takeD (i := 10) (oi := { dst := some 130, op := Go.Op.fieldAddr 24 (Go.Operand.tmp 6) 1, type := 0, pos := "lattice.go:396", after := #[{ on := 0, ground := Go.Ground.phase }, { on := 1, ground := Go.Ground.phase }, { on := 2, ground := Go.Ground.phase }, { on := 3, ground := Go.Ground.phase }, { on := 4, ground := Go.Ground.phase }, { on := 5, ground := Go.Ground.phase }, { on := 6, ground := Go.Ground.phase }, { on := 7, ground := Go.Ground.textOnly Go.Departure.lateStores }, { on := 8, ground := Go.Ground.textOnly Go.Departure.lateStores }, { on := 9, ground := Go.Ground.textOnly Go.Departure.lateStoresUnsure }], guard := none }) (v := ?_) rfl (by kernel_rfl) (by kernel_rfl) (by kernel_rfl) (by kernel_rfl) (fun _ _ _ h => hQ _ _ _ _ _ h) (Or.inl ⟨by rfl, ?hy⟩) HS.out ?_
      case hy => (intro w9 hSw; obtain ⟨qb, qo⟩ := hSw; have q1 := qo.c1; have q2 := qo.c2; clear qb qo; go_simp; try with_reducible rfl)
      try simp only [Act.put, List.setIfInBounds_toArray, List.set_cons_zero, List.set_cons_succ]
      refine lates_ready (rs := [8]) (by kernel_rfl) (by simp) ?_
      refine AllLate.cons (o := { dst := some 128, op := Go.Op.buildSlice 22 1 #[(0, Go.Operand.tmp 127)], type := 22, pos := "lattice.go:396", after := #[{ on := 7, ground := Go.Ground.data }], guard := none }) rfl (fun K hK => ?_) ?_
      · go_simp
        refine hK.out _ _ (fun _ => SBq.step HS.out hB0 ((Below.refl _ _).alloc (Nat.le_refl _) _)) ?_
        obtain ⟨w8, h8⟩ : ∃ w9, Hid (w9 = w4.alloc (.cells #[.slice (some ⟨b2, 0, none⟩) n c2] 31)) := ⟨_, rfl⟩
        rw [← h8.out]
        have hb8 : Below w4.heap.size w4 w8 := by rw [h8.out]; exact (Below.refl _ _).alloc (Nat.le_refl _) _
        have HC8 : Hid (w8.cell? ⟨w4.heap.size, 0, none⟩ = some (.slice (some ⟨b2, 0, none⟩) n c2)) := by rw [Hid, h8.out]; simp
        have HG := (show Hid _ from HG.out.step hb8)
        have HS : Hid (SBq w0 B0 B n vM vJ w8) := SBq.step HS.out hB0 hb8
        clear hb8 h8
        clear hK K
        try simp only [Act.put, List.setIfInBounds_toArray, List.set_cons_zero, List.set_cons_succ]
        refine lates_ready (rs := [9]) (by kernel_rfl) (by simp) ?_
        refine AllLate.cons (o := { dst := some 129, op := Go.Op.call { callee := Go.Callee.builtin Go.Builtin.append, args := #[Go.Operand.tmp 126, Go.Operand.tmp 128], argTypes := #[22, 22] }, type := 22, pos := "lattice.go:396", after := #[{ on := 6, ground := Go.Ground.data }, { on := 8, ground := Go.Ground.data }, { on := 4, ground := Go.Ground.chain }], guard := none }) rfl (fun K hK => ?_) ?_
        · rw [if_pos (by rfl)]
          refine wp_hang _ _ _ rfl (B + 1) vJ x _ rfl HG.out.J _ b2 n c2 rfl HC8.out (by omega) (by have := HS.out.lt; omega) ?_
          intro v9 w9 hown9 hgrow9 hblk9
          obtain ⟨g9, cp9, rfl⟩ := owns_form hown9 (Nat.succ_pos _)
          have HS9 : Hid (SBq w0 B0 B n vM vJ w9) := SBq.grown HS.out hB0 hgrow9 (fun k hk => (HG.out.bo k (.inr hk)).1)
          refine hK.out _ _ (fun _ => HS9.out) ?_
          have HG := (show Hid _ from HG.out.growJ hown9 hgrow9 hblk9)
          have HS := HS9
          clear hown9 hgrow9 hblk9 HS9 HC8
          clear hK K
          try simp only [Act.put, List.setIfInBounds_toArray, List.set_cons_zero, List.set_cons_succ]
          refine lates_ready (rs := [11]) (by kernel_rfl) (by simp) ?_
          refine AllLate.cons (o := { dst := none, op := Go.Op.store 22 (Go.Operand.tmp 130) (Go.Operand.tmp 124), type := 0, pos := "lattice.go:396", after := #[{ on := 10, ground := Go.Ground.data }, { on := 4, ground := Go.Ground.data }, { on := 9, ground := Go.Ground.chain }, { on := 0, ground := Go.Ground.phase }, { on := 1, ground := Go.Ground.phase }, { on := 2, ground := Go.Ground.phase }, { on := 3, ground := Go.Ground.phase }, { on := 4, ground := Go.Ground.phase }, { on := 5, ground := Go.Ground.phase }, { on := 6, ground := Go.Ground.phase }, { on := 7, ground := Go.Ground.textOnly Go.Departure.lateStores }, { on := 8, ground := Go.Ground.textOnly Go.Departure.lateStores }, { on := 9, ground := Go.Ground.textOnly Go.Departure.lateStoresUnsure }], guard := none }) rfl (fun K hK => ?_) ?_
          · obtain ⟨hc0, hc1, hc2, hf1, hf2⟩ := HS.out.2
            go_simp
            refine hK.out _ _ (fun h => by cases h) ?_
            clear hK K
            try simp only [Act.put, List.setIfInBounds_toArray, List.set_cons_zero, List.set_cons_succ]
            refine lates_free (i := 12) (oi := { dst := some 131, op := Go.Op.fieldAddr 24 (Go.Operand.tmp 6) 2, type := 0, pos := "lattice.go:396", after := #[{ on := 0, ground := Go.Ground.phase }, { on := 1, ground := Go.Ground.phase }, { on := 2, ground := Go.Ground.phase }, { on := 3, ground := Go.Ground.phase }, { on := 4, ground := Go.Ground.phase }, { on := 5, ground := Go.Ground.phase }, { on := 6, ground := Go.Ground.phase }, { on := 7, ground := Go.Ground.phase }, { on := 8, ground := Go.Ground.phase }, { on := 9, ground := Go.Ground.phase }, { on := 10, ground := Go.Ground.phase }, { on := 11, ground := Go.Ground.phase }], guard := none }) (v := ?_) rfl (by kernel_rfl) (by kernel_rfl) (by kernel_rfl) rfl (fun _ _ _ h => hQ _ _ _ _ _ h) (Or.inl ⟨by rfl, ?hy⟩) ?_
            case hy => (intro w9 hSw; clear hSw; go_simp; try with_reducible rfl)
            try simp only [Act.put, List.setIfInBounds_toArray, List.set_cons_zero, List.set_cons_succ]
            refine lates_ready (rs := [13]) (by kernel_rfl) (by simp) ?_
            refine AllLate.cons (o := { dst := none, op := Go.Op.store 22 (Go.Operand.tmp 131) (Go.Operand.tmp 129), type := 0, pos := "lattice.go:396", after := #[{ on := 12, ground := Go.Ground.data }, { on := 9, ground := Go.Ground.data }, { on := 11, ground := Go.Ground.chain }, { on := 0, ground := Go.Ground.phase }, { on := 1, ground := Go.Ground.phase }, { on := 2, ground := Go.Ground.phase }, { on := 3, ground := Go.Ground.phase }, { on := 4, ground := Go.Ground.phase }, { on := 5, ground := Go.Ground.phase }, { on := 6, ground := Go.Ground.phase }, { on := 7, ground := Go.Ground.phase }, { on := 8, ground := Go.Ground.phase }, { on := 9, ground := Go.Ground.phase }, { on := 10, ground := Go.Ground.phase }, { on := 11, ground := Go.Ground.phase }], guard := none }) rfl (fun K hK => ?_) ?_
            · obtain ⟨hc0, hc1, hc2, hf1, hf2⟩ := HS.out.2
              go_simp
              refine hK.out _ _ (fun h => by cases h) ?_
              obtain ⟨H', HF⟩ := HG.out.fin HS.out.1 hB0 HS.out.2
              clear hK K
              try simp only [Act.put, List.setIfInBounds_toArray, List.set_cons_zero, List.set_cons_succ]
              refine lates_done (by kernel_rfl) ?_ _
              try simp only [Act.put, List.setIfInBounds_toArray, List.set_cons_zero, List.set_cons_succ]
              exact hk _ _ _ _ _ _ HF _ _ _ _ _ _ _ _ _ _ _ _
            exact AllLate.nil
          exact AllLate.nil
        exact AllLate.nil
      exact AllLate.nil
    refine AllLate.cons (o := { dst := some 128, op := Go.Op.buildSlice 22 1 #[(0, Go.Operand.tmp 127)], type := 22, pos := "lattice.go:396", after := #[{ on := 7, ground := Go.Ground.data }], guard := none }) rfl (fun K hK => ?_) ?_
    · go_simp
      refine hK.out _ _ (fun _ => SBq.step HS.out hB0 ((Below.refl _ _).alloc (Nat.le_refl _) _)) ?_
      obtain ⟨w8, h8⟩ : ∃ w9, Hid (w9 = w3.alloc (.cells #[.slice (some ⟨b2, 0, none⟩) n c2] 31)) := ⟨_, rfl⟩
      rw [← h8.out]
      have hb8 : Below w3.heap.size w3 w8 := by rw [h8.out]; exact (Below.refl _ _).alloc (Nat.le_refl _) _
      have HC8 : Hid (w8.cell? ⟨w3.heap.size, 0, none⟩ = some (.slice (some ⟨b2, 0, none⟩) n c2)) := by rw [Hid, h8.out]; simp
      have HN8 : Hid (∀ v : Value, v.ownBlock = vM.ownBlock → some w3.heap.size ≠ v.ownBlock) := fun v hv e => by
        rw [hv] at e
        have := (HG.out.bo _ (.inl e.symm)).2.1
        omega
      have HC3 := (show Hid _ from (hb8.cell (World.block_lt_of_cell? _ _ HC3.out)).trans HC3.out)
      have HG := (show Hid _ from HG.out.step hb8)
      have HS : Hid (SBq w0 B0 B n vM vJ w8) := SBq.step HS.out hB0 hb8
      clear hb8 h8
      clear hK K
      try simp only [Act.put, List.setIfInBounds_toArray, List.set_cons_zero, List.set_cons_succ]
      refine lates_ready (rs := [4]) (by kernel_rfl) (by simp) ?_
      refine AllLate.cons (o := { dst := some 124, op := Go.Op.call { callee := Go.Callee.builtin Go.Builtin.append, args := #[Go.Operand.tmp 121, Go.Operand.tmp 123], argTypes := #[22, 22] }, type := 22, pos := "lattice.go:396", after := #[{ on := 1, ground := Go.Ground.data }, { on := 3, ground := Go.Ground.data }], guard := none }) rfl (fun K hK => ?_) ?_
      · rw [if_pos (by rfl)]
        refine wp_hang _ _ _ rfl (B + 1) vM x _ rfl HG.out.M _ b1 n c1 rfl HC3.out (by omega) (by have := HS.out.lt; omega) ?_
        intro v4 w4 hown4 hgrow4 hblk4
        obtain ⟨g4, cp4, rfl⟩ := owns_form hown4 (Nat.succ_pos _)
        have HS4 : Hid (SBq w0 B0 B n vM vJ w4) := SBq.grown HS.out hB0 hgrow4 (fun k hk => (HG.out.bo k (.inl hk)).1)
        refine hK.out _ _ (fun _ => HS4.out) ?_
        have HC8 := (show Hid _ from hgrow4.cell HC8.out (HN8.out vM rfl))
        have HG := (show Hid _ from HG.out.growM hown4 hgrow4 hblk4)
        have HS := HS4
        clear hown4 hgrow4 hblk4 HS4 HC3
        clear hK K
        try simp only [Act.put, List.setIfInBounds_toArray, List.set_cons_zero, List.set_cons_succ]
        refine lates_takeD (i := 10) (oi := { dst := some 130, op := Go.Op.fieldAddr 24 (Go.Operand.tmp 6) 1, type := 0, pos := "lattice.go:396", after := #[{ on := 0, ground := Go.Ground.phase }, { on := 1, ground := Go.Ground.phase }, { on := 2, ground := Go.Ground.phase }, { on := 3, ground := Go.Ground.phase }, { on := 4, ground := Go.Ground.phase }, { on := 5, ground := Go.Ground.phase }, { on := 6, ground := Go.Ground.phase }, { on := 7, ground := Go.Ground.textOnly Go.Departure.lateStores }, { on := 8, ground := Go.Ground.textOnly Go.Departure.lateStores }, { on := 9, ground := Go.Ground.textOnly Go.Departure.lateStoresUnsure }], guard := none }) (v := ?_) rfl (by kernel_rfl) (by kernel_rfl) (by kernel_rfl) (by kernel_rfl) (fun _ _ _ h => hQ _ _ _ _ _ h) (Or.inl ⟨by rfl, ?hy⟩) HS.out ?_
        case hy => (intro w9 hSw; obtain ⟨qb, qo⟩ := hSw; have q1 := qo.c1; have q2 := qo.c2; clear qb qo; go_simp; try with_reducible rfl)
        try simp only [Act.put, List.setIfInBounds_toArray, List.set_cons_zero, List.set_cons_succ]
        refine lates_ready (rs := [9]) (by kernel_rfl) (by simp) ?_
        refine AllLate.cons (o := { dst := some 129, op := Go.Op.call { callee := Go.Callee.builtin Go.Builtin.append, args := #[Go.Operand.tmp 126, Go.Operand.tmp 128], argTypes := #[22, 22] }, type := 22, pos := "lattice.go:396", after := #[{ on := 6, ground := Go.Ground.data }, { on := 8, ground := Go.Ground.data }, { on := 4, ground := Go.Ground.chain }], guard := none }) rfl (fun K hK => ?_) ?_
        · rw [if_pos (by rfl)]
          refine wp_hang _ _ _ rfl (B + 1) vJ x _ rfl HG.out.J _ b2 n c2 rfl HC8.out (by omega) (by have := HS.out.lt; omega) ?_
          intro v9 w9 hown9 hgrow9 hblk9
          obtain ⟨g9, cp9, rfl⟩ := owns_form hown9 (Nat.succ_pos _)
          have HS9 : Hid (SBq w0 B0 B n vM vJ w9) := SBq.grown HS.out hB0 hgrow9 (fun k hk => (HG.out.bo k (.inr hk)).1)
          refine hK.out _ _ (fun _ => HS9.out) ?_
          have HG := (show Hid _ from HG.out.growJ hown9 hgrow9 hblk9)
          have HS := HS9
          clear hown9 hgrow9 hblk9 HS9 HC8
          clear hK K
          try simp only [Act.put, List.setIfInBounds_toArray, List.set_cons_zero, List.set_cons_succ]
          refine lates_ready (rs := [11]) (by kernel_rfl) (by simp) ?_
          refine AllLate.cons (o := { dst := none, op := Go.Op.store 22 (Go.Operand.tmp 130) (Go.Operand.tmp 124), type := 0, pos := "lattice.go:396", after := #[{ on := 10, ground := Go.Ground.data }, { on := 4, ground := Go.Ground.data }, { on := 9, ground := Go.Ground.chain }, { on := 0, ground := Go.Ground.phase }, { on := 1, ground := Go.Ground.phase }, { on := 2, ground := Go.Ground.phase }, { on := 3, ground := Go.Ground.phase }, { on := 4, ground := Go.Ground.phase }, { on := 5, ground := Go.Ground.phase }, { on := 6, ground := Go.Ground.phase }, { on := 7, ground := Go.Ground.textOnly Go.Departure.lateStores }, { on := 8, ground := Go.Ground.textOnly Go.Departure.lateStores }, { on := 9, ground := Go.Ground.textOnly Go.Departure.lateStoresUnsure }], guard := none }) rfl (fun K hK => ?_) ?_
          · obtain ⟨hc0, hc1, hc2, hf1, hf2⟩ := HS.out.2
            go_simp
            refine hK.out _ _ (fun h => by cases h) ?_
            clear hK K
            try simp only [Act.put, List.setIfInBounds_toArray, List.set_cons_zero, List.set_cons_succ]
            refine lates_free (i := 12) (oi := { dst := some 131, op := Go.Op.fieldAddr 24 (Go.Operand.tmp 6) 2, type := 0, pos := "lattice.go:396", after := #[{ on := 0, ground := Go.Ground.phase }, { on := 1, ground := Go.Ground.phase }, { on := 2, ground := Go.Ground.phase }, { on := 3, ground := Go.Ground.phase }, { on := 4, ground := Go.Ground.phase }, { on := 5, ground := Go.Ground.phase }, { on := 6, ground := Go.Ground.phase }, { on := 7, ground := Go.Ground.phase }, { on := 8, ground := Go.Ground.phase }, { on := 9, ground := Go.Ground.phase }, { on := 10, ground := Go.Ground.phase }, { on := 11, ground := Go.Ground.phase }], guard := none }) (v := ?_) rfl (by kernel_rfl) (by kernel_rfl) (by kernel_rfl) rfl (fun _ _ _ h => hQ _ _ _ _ _ h) (Or.inl ⟨by rfl, ?hy⟩) ?_
            case hy => (intro w9 hSw; clear hSw; go_simp; try with_reducible rfl)
            try simp only [Act.put, List.setIfInBounds_toArray, List.set_cons_zero, List.set_cons_succ]
            refine lates_ready (rs := [13]) (by kernel_rfl) (by simp) ?_
            refine AllLate.cons (o := { dst := none, op := Go.Op.store 22 (Go.Operand.tmp 131) (Go.Operand.tmp 129), type := 0, pos := "lattice.go:396", after := #[{ on := 12, ground := Go.Ground.data }, { on := 9, ground := Go.Ground.data }, { on := 11, ground := Go.Ground.chain }, { on := 0, ground := Go.Ground.phase }, { on := 1, ground := Go.Ground.phase }, { on := 2, ground := Go.Ground.phase }, { on := 3, ground := Go.Ground.phase }, { on := 4, ground := Go.Ground.phase }, { on := 5, ground := Go.Ground.phase }, { on := 6, ground := Go.Ground.phase }, { on := 7, ground := Go.Ground.phase }, { on := 8, ground := Go.Ground.phase }, { on := 9, ground := Go.Ground.phase }, { on := 10, ground := Go.Ground.phase }, { on := 11, ground := Go.Ground.phase }], guard := none }) rfl (fun K hK => ?_) ?_
            · obtain ⟨hc0, hc1, hc2, hf1, hf2⟩ := HS.out.2
              go_simp
              refine hK.out _ _ (fun h => by cases h) ?_
              obtain ⟨H', HF⟩ := HG.out.fin HS.out.1 hB0 HS.out.2
              clear hK K
              try simp only [Act.put, List.setIfInBounds_toArray, List.set_cons_zero, List.set_cons_succ]
              refine lates_done (by kernel_rfl) ?_ _
              try simp only [Act.put, List.setIfInBounds_toArray, List.set_cons_zero, List.set_cons_succ]
              exact hk _ _ _ _ _ _ HF _ _ _ _ _ _ _ _ _ _ _ _
            exact AllLate.nil
          exact AllLate.nil
        exact AllLate.nil
      exact AllLate.nil
    exact AllLate.nil
  refine AllLate.cons (o := { dst := some 128, op := Go.Op.buildSlice 22 1 #[(0, Go.Operand.tmp 127)], type := 22, pos := "lattice.go:396", after := #[{ on := 7, ground := Go.Ground.data }], guard := none }) rfl (fun K hK => ?_) ?_
  · go_simp
    refine hK.out _ _ (fun _ => SBq.step HS.out hB0 ((Below.refl _ _).alloc (Nat.le_refl _) _)) ?_
    obtain ⟨w8, h8⟩ : ∃ w9, Hid (w9 = wd.alloc (.cells #[.slice (some ⟨b2, 0, none⟩) n c2] 31)) := ⟨_, rfl⟩
    rw [← h8.out]
    have hb8 : Below wd.heap.size wd w8 := by rw [h8.out]; exact (Below.refl _ _).alloc (Nat.le_refl _) _
    have HC8 : Hid (w8.cell? ⟨wd.heap.size, 0, none⟩ = some (.slice (some ⟨b2, 0, none⟩) n c2)) := by rw [Hid, h8.out]; simp
    have HN8 : Hid (∀ v : Value, v.ownBlock = vM.ownBlock → some wd.heap.size ≠ v.ownBlock) := fun v hv e => by
      rw [hv] at e
      have := (HG.out.bo _ (.inl e.symm)).2.1
      omega
    have HG := (show Hid _ from HG.out.step hb8)
    have HS : Hid (SBq w0 B0 B n vM vJ w8) := SBq.step HS.out hB0 hb8
    clear hb8 h8
    clear hK K
    try simp only [Act.put, List.setIfInBounds_toArray, List.set_cons_zero, List.set_cons_succ]
    refine lates_ready (rs := [3]) (by kernel_rfl) (by simp) ?_
    refine AllLate.cons (o := { dst := some 123, op := Go.Op.buildSlice 22 1 #[(0, Go.Operand.tmp 122)], type := 22, pos := "lattice.go:396", after := #[{ on := 2, ground := Go.Ground.data }], guard := none }) rfl (fun K hK => ?_) ?_
    · go_simp
      refine hK.out _ _ (fun _ => SBq.step HS.out hB0 ((Below.refl _ _).alloc (Nat.le_refl _) _)) ?_
      obtain ⟨w3, h3⟩ : ∃ w9, Hid (w9 = w8.alloc (.cells #[.slice (some ⟨b1, 0, none⟩) n c1] 31)) := ⟨_, rfl⟩
      rw [← h3.out]
      have hb3 : Below w8.heap.size w8 w3 := by rw [h3.out]; exact (Below.refl _ _).alloc (Nat.le_refl _) _
      have HC3 : Hid (w3.cell? ⟨w8.heap.size, 0, none⟩ = some (.slice (some ⟨b1, 0, none⟩) n c1)) := by rw [Hid, h3.out]; simp
      have HC8 := (show Hid _ from (hb3.cell (World.block_lt_of_cell? _ _ HC8.out)).trans HC8.out)
      have HG := (show Hid _ from HG.out.step hb3)
      have HS : Hid (SBq w0 B0 B n vM vJ w3) := SBq.step HS.out hB0 hb3
      clear hb3 h3
      clear hK K
      try simp only [Act.put, List.setIfInBounds_toArray, List.set_cons_zero, List.set_cons_succ]
      refine lates_ready (rs := [4]) (by kernel_rfl) (by simp) ?_
      refine AllLate.cons (o := { dst := some 124, op := Go.Op.call { callee := Go.Callee.builtin Go.Builtin.append, args := #[Go.Operand.tmp 121, Go.Operand.tmp 123], argTypes := #[22, 22] }, type := 22, pos := "lattice.go:396", after := #[{ on := 1, ground := Go.Ground.data }, { on := 3, ground := Go.Ground.data }], guard := none }) rfl (fun K hK => ?_) ?_
      · rw [if_pos (by rfl)]
        refine wp_hang _ _ _ rfl (B + 1) vM x _ rfl HG.out.M _ b1 n c1 rfl HC3.out (by omega) (by have := HS.out.lt; omega) ?_
        intro v4 w4 hown4 hgrow4 hblk4
        obtain ⟨g4, cp4, rfl⟩ := owns_form hown4 (Nat.succ_pos _)
        have HS4 : Hid (SBq w0 B0 B n vM vJ w4) := SBq.grown HS.out hB0 hgrow4 (fun k hk => (HG.out.bo k (.inl hk)).1)
        refine hK.out _ _ (fun _ => HS4.out) ?_
        have HC8 := (show Hid _ from hgrow4.cell HC8.out (HN8.out vM rfl))
        have HG := (show Hid _ from HG.out.growM hown4 hgrow4 hblk4)
        have HS := HS4
        clear hown4 hgrow4 hblk4 HS4 HC3
        clear hK K
        try simp only [Act.put, List.setIfInBounds_toArray, List.set_cons_zero, List.set_cons_succ]
        refine lates_takeD (i := 10) (oi := { dst := some 130, op := Go.Op.fieldAddr 24 (Go.Operand.tmp 6) 1, type := 0, pos := "lattice.go:396", after := #[{ on := 0, ground := Go.Ground.phase }, { on := 1, ground := Go.Ground.phase }, { on := 2, ground := Go.Ground.phase }, { on := 3, ground := Go.Ground.phase }, { on := 4, ground := Go.Ground.phase }, { on := 5, ground := Go.Ground.phase }, { on := 6, ground := Go.Ground.phase }, { on := 7, ground := Go.Ground.textOnly Go.Departure.lateStores }, { on := 8, ground := Go.Ground.textOnly Go.Departure.lateStores }, { on := 9, ground := Go.Ground.textOnly Go.Departure.lateStoresUnsure }], guard := none }) (v := ?_) rfl (by kernel_rfl) (by kernel_rfl) (by kernel_rfl) (by kernel_rfl) (fun _ _ _ h => hQ _ _ _ _ _ h) (Or.inl ⟨by rfl, ?hy⟩) HS.out ?_
        case hy => (intro w9 hSw; obtain ⟨qb, qo⟩ := hSw; have q1 := qo.c1; have q2 := qo.c2; clear qb qo; go_simp; try with_reducible rfl)
        try simp only [Act.put, List.setIfInBounds_toArray, List.set_cons_zero, List.set_cons_succ]
        refine lates_ready (rs := [9]) (by kernel_rfl) (by simp) ?_
        refine AllLate.cons (o := { dst := some 129, op := Go.Op.call { callee := Go.Callee.builtin Go.Builtin.append, args := #[Go.Operand.tmp 126, Go.Operand.tmp 128], argTypes := #[22, 22] }, type := 22, pos := "lattice.go:396", after := #[{ on := 6, ground := Go.Ground.data }, { on := 8, ground := Go.Ground.data }, { on := 4, ground := Go.Ground.chain }], guard := none }) rfl (fun K hK => ?_) ?_
        · rw [if_pos (by rfl)]
          refine wp_hang _ _ _ rfl (B + 1) vJ x _ rfl HG.out.J _ b2 n c2 rfl HC8.out (by omega) (by have := HS.out.lt; omega) ?_
          intro v9 w9 hown9 hgrow9 hblk9
          obtain ⟨g9, cp9, rfl⟩ := owns_form hown9 (Nat.succ_pos _)
          have HS9 : Hid (SBq w0 B0 B n vM vJ w9) := SBq.grown HS.out hB0 hgrow9 (fun k hk => (HG.out.bo k (.inr hk)).1)
          refine hK.out _ _ (fun _ => HS9.out) ?_
          have HG := (show Hid _ from HG.out.growJ hown9 hgrow9 hblk9)
          have HS := HS9
          clear hown9 hgrow9 hblk9 HS9 HC8
          clear hK K
          try simp only [Act.put, List.setIfInBounds_toArray, List.set_cons_zero, List.set_cons_succ]
          refine lates_ready (rs := [11]) (by kernel_rfl) (by simp) ?_
          refine AllLate.cons (o := { dst := none, op := Go.Op.store 22 (Go.Operand.tmp 130) (Go.Operand.tmp 124), type := 0, pos := "lattice.go:396", after := #[{ on := 10, ground := Go.Ground.data }, { on := 4, ground := Go.Ground.data }, { on := 9, ground := Go.Ground.chain }, { on := 0, ground := Go.Ground.phase }, { on := 1, ground := Go.Ground.phase }, { on := 2, ground := Go.Ground.phase }, { on := 3, ground := Go.Ground.phase }, { on := 4, ground := Go.Ground.phase }, { on := 5, ground := Go.Ground.phase }, { on := 6, ground := Go.Ground.phase }, { on := 7, ground := Go.Ground.textOnly Go.Departure.lateStores }, { on := 8, ground := Go.Ground.textOnly Go.Departure.lateStores }, { on := 9, ground := Go.Ground.textOnly Go.Departure.lateStoresUnsure }], guard := none }) rfl (fun K hK => ?_) ?_
          · obtain ⟨hc0, hc1, hc2, hf1, hf2⟩ := HS.out.2
            go_simp
            refine hK.out _ _ (fun h => by cases h) ?_
            clear hK K
            try simp only [Act.put, List.setIfInBounds_toArray, List.set_cons_zero, List.set_cons_succ]
            refine lates_free (i := 12) (oi := { dst := some 131, op := Go.Op.fieldAddr 24 (Go.Operand.tmp 6) 2, type := 0, pos := "lattice.go:396", after := #[{ on := 0, ground := Go.Ground.phase }, { on := 1, ground := Go.Ground.phase }, { on := 2, ground := Go.Ground.phase }, { on := 3, ground := Go.Ground.phase }, { on := 4, ground := Go.Ground.phase }, { on := 5, ground := Go.Ground.phase }, { on := 6, ground := Go.Ground.phase }, { on := 7, ground := Go.Ground.phase }, { on := 8, ground := Go.Ground.phase }, { on := 9, ground := Go.Ground.phase }, { on := 10, ground := Go.Ground.phase }, { on := 11, ground := Go.Ground.phase }], guard := none }) (v := ?_) rfl (by kernel_rfl) (by kernel_rfl) (by kernel_rfl) rfl (fun _ _ _ h => hQ _ _ _ _ _ h) (Or.inl ⟨by rfl, ?hy⟩) ?_
            case hy => (intro w9 hSw; clear hSw; go_simp; try with_reducible rfl)
            try simp only [Act.put, List.setIfInBounds_toArray, List.set_cons_zero, List.set_cons_succ]
            refine lates_ready (rs := [13]) (by kernel_rfl) (by simp) ?_
            refine AllLate.cons (o := { dst := none, op := Go.Op.store 22 (Go.Operand.tmp 131) (Go.Operand.tmp 129), type := 0, pos := "lattice.go:396", after := #[{ on := 12, ground := Go.Ground.data }, { on := 9, ground := Go.Ground.data }, { on := 11, ground := Go.Ground.chain }, { on := 0, ground := Go.Ground.phase }, { on := 1, ground := Go.Ground.phase }, { on := 2, ground := Go.Ground.phase }, { on := 3, ground := Go.Ground.phase }, { on := 4, ground := Go.Ground.phase }, { on := 5, ground := Go.Ground.phase }, { on := 6, ground := Go.Ground.phase }, { on := 7, ground := Go.Ground.phase }, { on := 8, ground := Go.Ground.phase }, { on := 9, ground := Go.Ground.phase }, { on := 10, ground := Go.Ground.phase }, { on := 11, ground := Go.Ground.phase }], guard := none }) rfl (fun K hK => ?_) ?_
            · obtain ⟨hc0, hc1, hc2, hf1, hf2⟩ := HS.out.2
              go_simp
              refine hK.out _ _ (fun h => by cases h) ?_
              obtain ⟨H', HF⟩ := HG.out.fin HS.out.1 hB0 HS.out.2
              clear hK K
              try simp only [Act.put, List.setIfInBounds_toArray, List.set_cons_zero, List.set_cons_succ]
              refine lates_done (by kernel_rfl) ?_ _
              try simp only [Act.put, List.setIfInBounds_toArray, List.set_cons_zero, List.set_cons_succ]
              exact hk _ _ _ _ _ _ HF _ _ _ _ _ _ _ _ _ _ _ _
            exact AllLate.nil
          exact AllLate.nil
        exact AllLate.nil
      exact AllLate.nil
    exact AllLate.nil
  exact AllLate.nil
end Go.Proofs.Ytappekjkcgmheab
