/-
  Pairs in slices: reading and appending. Conditions: as each theorem says.
-/
import Derived.ArgAppend
import Derived.Test.YtappekjkcgmheabNumW
namespace Go.Proofs.Ytappekjkcgmheab
open Go.RowKit

theorem Try.infoRU : (Try.prog.info? 49).map (fun i => (i.zero, i.size, i.bytes)) = some (some (.agg #[.int .i64 0, .int .i64 0]), 2, 16) := by kernel_rfl
def pairVals : List (Nat × Nat) → List Value
  | [] => []
  | p :: l => .int .i64 (p.1 : Nat) :: .int .i64 (p.2 : Nat) :: pairVals l
theorem pairVals_append : ∀ l m, pairVals (l ++ m) = pairVals l ++ pairVals m
  | [], _ => rfl
  | p :: l, m => by simp [pairVals, pairVals_append l m]
def pairAt (l : List (Nat × Nat)) (k : Nat) : Int × Int := (((l.getD k (0, 0)).1 : Nat), ((l.getD k (0, 0)).2 : Nat))
theorem pairVals_at : ∀ (l : List (Nat × Nat)) (k : Nat), k < l.length → (pairVals l)[k * 2]? = some (.int .i64 (pairAt l k).1) ∧ (pairVals l)[k * 2 + 1]? = some (.int .i64 (pairAt l k).2)
  | [], k, h => absurd h (Nat.not_lt_zero _)
  | p :: l, 0, _ => ⟨rfl, rfl⟩
  | p :: l, k + 1, h => by
    have ih := pairVals_at l k (by simpa using h)
    have e1 : (k + 1) * 2 = k * 2 + 1 + 1 := by omega
    rw [e1]
    simp only [pairVals, List.getElem?_cons_succ]
    exact ih
/-- A value that is a slice of the rules l. -/
def PSl (w : World) (v : Value) (l : List (Nat × Nat)) : Prop := ∃ a cap, v = .slice a l.length cap ∧ PRow w a l.length (pairAt l)
theorem PSl.below {w w' : World} {v : Value} {l : List (Nat × Nat)} (h : PSl w v l) (hb : Below w.heap.size w w') : PSl w' v l := by
  obtain ⟨a, cap, rfl, hr⟩ := h
  exact ⟨a, cap, rfl, hr.below hb⟩
theorem owns_pairs {w : World} {base : Nat} {v : Value} {l : List (Nat × Nat)} (h : w.ownsRow base 49 2 v l.length (pairVals l)) : PSl w v l := by
  by_cases hn : 0 < l.length
  · obtain ⟨g, cap, rfl⟩ := owns_form h hn
    refine ⟨_, cap, rfl, fun k hk => ⟨g, 0, rfl, ?_, ?_⟩⟩
    · rw [Nat.zero_add, h.cellAt _ (by omega)]; exact (pairVals_at l k hk).1
    · rw [Nat.zero_add, h.cellAt _ (by omega)]; exact (pairVals_at l k hk).2
  · have h0 : l.length = 0 := by omega
    rcases h.2 with ⟨rfl, _⟩ | ⟨g, cap, cur, rfl, _⟩
    · exact ⟨none, 0, by rw [h0], fun k hk => absurd (Nat.lt_of_le_of_lt (Nat.zero_le _) hk) hn⟩
    · exact ⟨_, cap, rfl, fun k hk => absurd (Nat.lt_of_le_of_lt (Nat.zero_le _) hk) hn⟩

theorem pairAt_get {l : List (Nat × Nat)} {j : Nat} (h : j < l.length) : pairAt l j = ((l[j].1 : Int), (l[j].2 : Int)) := by simp [pairAt, h]
theorem pairVals_len : ∀ l : List (Nat × Nat), (pairVals l).length = l.length * 2
  | [] => rfl
  | _ :: l => by simp [pairVals, pairVals_len l]; omega
theorem pairVals_one : ∀ (l : List (Nat × Nat)) (u : Value), u ∈ pairVals l → u.oneCell' = true
  | [], u, h => by simp [pairVals] at h
  | q :: l, u, h => by
    simp [pairVals] at h
    rcases h with rfl | rfl | h
    · rfl
    · rfl
    · exact pairVals_one l u h
theorem add_flat (b off j : Nat) : Addr.add ⟨b, off, none⟩ j = ⟨b, off + j, none⟩ := by
  cases j <;> simp [Addr.add]
theorem prow_cells {w : World} {b off : Nat} {l : List (Nat × Nat)} (h : PRow w (some ⟨b, off, none⟩) l.length (pairAt l)) : ∀ j u, (pairVals l)[j]? = some u → w.cell? (Addr.add ⟨b, off, none⟩ j) = some u := fun j u hj => by
  have hlt : j < l.length * 2 := by
    rw [← pairVals_len]
    exact (List.getElem?_eq_some_iff.1 hj).1
  obtain ⟨q, hq⟩ : ∃ q, j = q * 2 ∨ j = q * 2 + 1 := ⟨j / 2, by omega⟩
  obtain ⟨b', off', e, h1, h2⟩ := h q (by omega)
  simp at e
  obtain ⟨rfl, rfl⟩ := e
  obtain ⟨p1, p2⟩ := pairVals_at l q (by omega)
  rcases hq with rfl | rfl
  · rw [p1] at hj; cases hj; rw [add_flat]; exact h1
  · rw [p2] at hj; cases hj; rw [add_flat, ← Nat.add_assoc]; exact h2
theorem prow_take {w : World} {b off : Nat} {l : List (Nat × Nat)} {k : Nat} (hk : k ≤ l.length) (h : PRow w (some ⟨b, off, none⟩) l.length (pairAt l)) : PRow w (some ⟨b, off, none⟩) (l.take k).length (pairAt (l.take k)) := fun j hj => by
  have hj' : j < k := by simp at hj; omega
  obtain ⟨b', off', e, h1, h2⟩ := h j (by omega)
  refine ⟨b', off', e, ?_, ?_⟩
  · rw [h1]; simp [pairAt, hj']
  · rw [h2]; simp [pairAt, hj']
theorem prow_drop {w : World} {b off : Nat} {l : List (Nat × Nat)} {k : Nat} (h : PRow w (some ⟨b, off, none⟩) l.length (pairAt l)) : PRow w (some ⟨b, off + k * 2, none⟩) (l.drop k).length (pairAt (l.drop k)) := fun j hj => by
  have hj' : k + j < l.length := by simp at hj; omega
  obtain ⟨b', off', e, h1, h2⟩ := h (k + j) hj'
  simp at e
  obtain ⟨rfl, rfl⟩ := e
  refine ⟨b, off + k * 2, rfl, ?_, ?_⟩
  · rw [show off + k * 2 + j * 2 = off + (k + j) * 2 by omega, h1]; simp [pairAt]
  · rw [show off + k * 2 + j * 2 + 1 = off + (k + j) * 2 + 1 by omega, h2]; simp [pairAt]
/-- The pairs l lie in v, above base; or v is empty and has no room. -/
def PApp (w : World) (base : Nat) (v : Value) (l : List (Nat × Nat)) : Prop :=
  (l = [] ∧ ∃ b, v = .slice (some ⟨b, 0, none⟩) 0 0) ∨ w.ownsRow base 49 2 v l.length (pairVals l)
theorem PApp.pairs {w : World} {base : Nat} {v : Value} {l : List (Nat × Nat)} (h : PApp w base v l) : PSl w v l := by
  rcases h with ⟨rfl, b, rfl⟩ | h
  · exact ⟨_, 0, rfl, fun k hk => absurd hk (Nat.not_lt_zero _)⟩
  · exact owns_pairs h
theorem owns_base {w : World} {base base' e size : Nat} {v : Value} {n : Nat} {xs : List Value} (h : w.ownsRow base e size v n xs) (hb : base' ≤ base) : w.ownsRow base' e size v n xs := by
  obtain ⟨h1, h2 | ⟨g, cap, cur, h3, h4, h5⟩⟩ := h
  · exact ⟨h1, .inl h2⟩
  · exact ⟨h1, .inr ⟨g, cap, cur, h3, Nat.le_trans hb h4, h5⟩⟩

theorem wp_app {o : Oper} {a : Act} {K : Act → World → Prop} {Q : Exit → Act → World → Prop} (w W : World) (s x : Operand)
    (ho : o.op = .call { callee := .builtin .append, args := #[s, x], argTypes := #[46, 46] }) (v : Value) (l l2 : List (Nat × Nat)) (hs : a.eval s = v) (hA : PApp w W.heap.size v l) (hB : Below W.heap.size W w)
    (b off m c : Nat) (hx : a.eval x = .slice (some ⟨b, off, none⟩) m c) (hm : m = l2.length) (hp : PRow w (some ⟨b, off, none⟩) l2.length (pairAt l2)) (hlen : l.length + l2.length ≤ 1000)
    (h : ∀ v' w', PApp w' W.heap.size v' (l ++ l2) → Below W.heap.size W w' → K (a.put o.dst v') w') : o.wp Try.prog a w K Q := by
  obtain ⟨i0, hi, hz0, hz1, hz2⟩ := info_parts Try.infoRU
  have hc := prow_cells hp
  have h1 := pairVals_one l2
  have hl := pairVals_len l2
  subst hm
  rcases hA with ⟨rfl, b', rfl⟩ | hown
  · by_cases h0 : l2.length = 0
    · obtain rfl : l2 = [] := List.eq_nil_of_length_eq_zero h0
      have hrun := run_append_room_cells (P := Try.prog) w 46 o.type 49 i0 Try.underlying46 hi b' 0 0 0 ⟨b, off, none⟩ 0 c [] (by simp) (fun j u hj => by simp at hj) (fun u hu => by simp at hu) (by omega) (fun j hj => by simp at hj) (fun j hj => by simp at hj)
      unfold Oper.wp
      simp only [List.length_nil] at hx
      simp [execOp, ho, resolve, invoke, builtin, hs, hx, hrun, Result.andThen]
      exact h _ _ (.inl ⟨rfl, b', rfl⟩) hB
    · obtain ⟨v', w', hrun, r1, r2⟩ := run_append_arg_grows (P := Try.prog) w 46 o.type 49 i0 (.agg #[.int .i64 0, .int .i64 0]) 2 16 Try.underlying46 hi hz0 hz1 hz2 rfl (by decide) ⟨b', 0, none⟩ 0 0 [] rfl (fun j u hj => by simp at hj) ⟨b, off, none⟩ l2.length c (pairVals l2) hl hc (by omega) (by unfold maxLen; omega) (by omega)
      unfold Oper.wp
      simp [execOp, ho, resolve, invoke, builtin, hs, hx, hrun, Result.andThen]
      refine h v' w' (.inr (owns_base ?_ hB.size)) (hB.grown r2 hB.size (by simp))
      simpa using r1
  · refine wp_append_own w s x 46 ho W.heap.size 49 i0 (.agg #[.int .i64 0, .int .i64 0]) 2 16 Try.underlying46 hi hz0 hz1 hz2 rfl (by decide) v l.length (pairVals l) hs hown ⟨b, off, none⟩ l2.length c (pairVals l2) hx hl hc h1 (by unfold maxLen; omega) (by omega) hB.size ?_
    intro v' w' hown' hgrow _
    refine h v' w' (.inr ?_) (hB.grown hgrow hB.size (owns_block hown))
    rw [List.length_append, pairVals_append]
    exact hown'
end Go.Proofs.Ytappekjkcgmheab
