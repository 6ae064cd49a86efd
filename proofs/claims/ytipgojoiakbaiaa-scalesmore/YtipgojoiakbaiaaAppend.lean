/-
  Appending pairs to an empty slice that has no room, and to what came of it. Conditions: as each theorem says.
-/
import Derived.Test.YtipgojoiakbaiaaReducesM
import Derived.ArgAppend
namespace Go.Proofs.Ytipgojoiakbaiaa
open Go.RowKit

/-- The pairs l lie in v, above base; or v is empty and has no room. -/
def PApp (w : World) (base : Nat) (v : Value) (l : List (Nat × Nat)) : Prop :=
  (l = [] ∧ ∃ b, v = .slice (some ⟨b, 0, none⟩) 0 0) ∨ w.ownsRow base 42 2 v l.length (pairVals l)
theorem PApp.pairs {w : World} {base : Nat} {v : Value} {l : List (Nat × Nat)} (h : PApp w base v l) : PSl w v l := by
  rcases h with ⟨rfl, b, rfl⟩ | h
  · exact ⟨_, 0, rfl, fun k hk => absurd hk (Nat.not_lt_zero _)⟩
  · exact owns_pairs h
theorem owns_base {w : World} {base base' e size : Nat} {v : Value} {n : Nat} {xs : List Value} (h : w.ownsRow base e size v n xs) (hb : base' ≤ base) : w.ownsRow base' e size v n xs := by
  obtain ⟨h1, h2 | ⟨g, cap, cur, h3, h4, h5⟩⟩ := h
  · exact ⟨h1, .inl h2⟩
  · exact ⟨h1, .inr ⟨g, cap, cur, h3, Nat.le_trans hb h4, h5⟩⟩

theorem wp_app {o : Oper} {a : Act} {K : Act → World → Prop} {Q : Exit → Act → World → Prop} (w W : World) (s x : Operand)
    (ho : o.op = .call { callee := .builtin .append, args := #[s, x], argTypes := #[37, 37] }) (v : Value) (l l2 : List (Nat × Nat)) (hs : a.eval s = v) (hA : PApp w W.heap.size v l) (hB : Below W.heap.size W w)
    (b off m c : Nat) (hx : a.eval x = .slice (some ⟨b, off, none⟩) m c) (hm : m = l2.length) (hp : PRow w (some ⟨b, off, none⟩) l2.length (pairAt l2)) (hlen : l.length + l2.length ≤ 1000)
    (h : ∀ v' w', PApp w' W.heap.size v' (l ++ l2) → Below W.heap.size W w' → K (a.put o.dst v') w') : o.wp Try.prog a w K Q := by
  obtain ⟨i0, hi, hz0, hz1, hz2⟩ := info_parts Try.info42
  have hc := prow_cells hp
  have h1 := pairVals_one l2
  have hl := pairVals_len l2
  subst hm
  rcases hA with ⟨rfl, b', rfl⟩ | hown
  · by_cases h0 : l2.length = 0
    · obtain rfl : l2 = [] := List.eq_nil_of_length_eq_zero h0
      have hrun := run_append_room_cells (P := Try.prog) w 37 o.type 42 i0 Try.underlying37 hi b' 0 0 0 ⟨b, off, none⟩ 0 c [] (by simp) (fun j u hj => by simp at hj) (fun u hu => by simp at hu) (by omega) (fun j hj => by simp at hj) (fun j hj => by simp at hj)
      unfold Oper.wp
      simp only [List.length_nil] at hx
      simp [execOp, ho, resolve, invoke, builtin, hs, hx, hrun, Result.andThen]
      exact h _ _ (.inl ⟨rfl, b', rfl⟩) hB
    · obtain ⟨v', w', hrun, r1, r2⟩ := run_append_arg_grows (P := Try.prog) w 37 o.type 42 i0 (.agg #[.int .i64 0, .int .i64 0]) 2 16 Try.underlying37 hi hz0 hz1 hz2 rfl (by decide) ⟨b', 0, none⟩ 0 0 [] rfl (fun j u hj => by simp at hj) ⟨b, off, none⟩ l2.length c (pairVals l2) hl hc (by omega) (by unfold maxLen; omega) (by omega)
      unfold Oper.wp
      simp [execOp, ho, resolve, invoke, builtin, hs, hx, hrun, Result.andThen]
      refine h v' w' (.inr (owns_base ?_ hB.size)) (hB.grown r2 hB.size (by simp))
      simpa using r1
  · refine wp_append_own w s x 37 ho W.heap.size 42 i0 (.agg #[.int .i64 0, .int .i64 0]) 2 16 Try.underlying37 hi hz0 hz1 hz2 rfl (by decide) v l.length (pairVals l) hs hown ⟨b, off, none⟩ l2.length c (pairVals l2) hx hl hc h1 (by unfold maxLen; omega) (by omega) hB.size ?_
    intro v' w' hown' hgrow _
    refine h v' w' (.inr ?_) (hB.grown hgrow hB.size (owns_block hown))
    rw [List.length_append, pairVals_append]
    exact hown'
end Go.Proofs.Ytipgojoiakbaiaa
