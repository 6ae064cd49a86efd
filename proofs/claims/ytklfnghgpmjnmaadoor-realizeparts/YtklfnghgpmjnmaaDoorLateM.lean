/-
  Regions that draw their order: an operation may be taken first, if the late ones wait for it, be it by way of others. No condition.
-/
import Derived.Test.YtklfnghgpmjnmaaDoorLateT
namespace Go.Proofs.YtklfnghgpmjnmaaDoor
open Go

section
variable {P : Program} {ops : Array Oper} {Q : Exit → Act → World → Prop} {S : World → Prop} {late : Nat → Bool}
/-- Do the late ones, and those of M, wait for i or one of M? -/
def waitsM (ops : Array Oper) (late : Nat → Bool) (i : Nat) (M : List Nat) : Bool :=
  (List.range ops.size).all fun j => !(late j || M.contains j) || (match ops[j]? with
    | some o => o.after.any fun e => Region.binds .any e && (e.on == i || M.contains e.on)
    | none => true)
theorem waitsM_at {i j : Nat} {M : List Nat} {oj : Oper} (h : waitsM ops late i M = true) (hl : late j = true ∨ j ∈ M) (hj : ops[j]? = some oj) : ∃ e, e ∈ oj.after ∧ Region.binds .any e = true ∧ (e.on = i ∨ e.on ∈ M) := by
  have hlt : j < ops.size := by
    rcases Nat.lt_or_ge j ops.size with h | h
    · exact h
    · rw [Array.getElem?_eq_none h] at hj; cases hj
  have h1 := List.all_eq_true.1 h j (List.mem_range.2 hlt)
  have h2 : (late j || M.contains j) = true := by
    rcases hl with hl | hl
    · rw [hl]; rfl
    · rw [List.contains_iff_mem.2 hl, Bool.or_true]
  rw [h2, hj] at h1
  simp only [Bool.not_true, Bool.false_or] at h1
  obtain ⟨k, hk, he⟩ := Array.any_eq_true.1 h1
  rw [Bool.and_eq_true, Bool.or_eq_true, beq_iff_eq] at he
  refine ⟨_, Array.getElem_mem _, he.1, ?_⟩
  rcases he.2 with he | he
  · exact .inl he
  · exact .inr (List.contains_iff_mem.1 he)
theorem Lates.firstM {i : Nat} {M : List Nat} {oi : Oper} {v : Value} (hi : ops[i]? = some oi) (hsel : ∀ (j : Nat) (o : Oper) cs b, ops[j]? = some o → o.op ≠ .select cs b)
    (hQ : ∀ c a w, Q (.panic c) (a.put oi.dst v) w → Q (.panic c) a w) (hw : waitsM ops late i M = true) :
    ∀ (k : Nat) (done : Array Bool) (a : Act) (w : World),
      (∀ j oj, ops[j]? = some oj → j ≠ i → done.getD j true = false → (∀ e ∈ oj.after, Region.binds .any e = true → e.on ≠ i) → oi.apart ops oj = true) →
      i ∈ Region.ready .any ops done → (∀ m, m ∈ M → done.getD m true = false) → YieldsIf P ops S oi v a → S w → Lates P ops Q S late k (done.setIfInBounds i true) (a.put oi.dst v) w → Lates P ops Q S late (k + 1) done a w
  | 0, done, a, w, _, hr, _, hy, hS, H => by
    refine ⟨fun h => ?_, fun j hj => ?_⟩
    · rw [h] at hr; cases hr
    · by_cases e : j = i
      · rw [e]; exact hy.wpOp hi hS ⟨fun _ => hS, H⟩
      · have := ready_mono hj e
        rw [H.1] at this; cases this
  | k + 1, done, a, w, hf, hr, hdm, hy, hS, H => by
    refine ⟨fun h => ?_, fun j hj => ?_⟩
    · rw [h] at hr; cases hr
    by_cases e : j = i
    · rw [e]; exact hy.wpOp hi hS ⟨fun _ => hS, H⟩
    obtain ⟨hj0, oj, hoj, hall⟩ := mem_ready.1 hj
    have hno2 : ∀ n, done.getD n true = false → ∀ e ∈ oj.after, Region.binds .any e = true → e.on ≠ n := by
      intro n h0 e he hb he'
      have h1 := hall e he hb
      rw [he'] at h1
      rcases Nat.lt_or_ge n done.size with h' | h'
      · simp [h'] at h0 h1; rw [h0] at h1; cases h1
      · simp [Array.getElem?_eq_none h'] at h1
    have hno := hno2 i (mem_ready.1 hr).1
    have hnot : ¬ (late j = true ∨ j ∈ M) := fun h => by
      obtain ⟨e, he, hb, he'⟩ := waitsM_at hw h hoj
      rcases he' with he' | he'
      · exact hno e he hb he'
      · exact hno2 _ (hdm _ he') e he hb rfl
    have hjl : late j = false := by
      cases hl : late j
      · rfl
      · exact absurd (.inl hl) hnot
    have h1 := wpOp_putIf hoj (hf j oj hoj e hj0 hno) (fun cs b => hsel i oi cs b hi) (fun cs b => hsel j oj cs b hoj) hQ hy (H.2 j (ready_mono hj e))
    refine wpOp_mono (fun a' w' h3 => ⟨h3.2.1, Lates.firstM hi hsel hQ hw k (done.setIfInBounds j true) a' w' ?_ (ready_mono hr (Ne.symm e)) ?_ h3.1 (h3.2.1 hjl) ?_⟩) h1
    · intro l ol hl hli hun hnl
      refine hf l ol hl hli ?_ hnl
      by_cases q : j = l
      · rw [← q]; exact hj0
      · rw [getD_set_ne true q] at hun; exact hun
    · intro m hm
      rw [getD_set_ne true (fun q => hnot (.inr (by rw [q]; exact hm)))]; exact hdm m hm
    · rw [Array.setIfInBounds_comm _ _ e]; exact h3.2.2
theorem lates_takeM {i : Nat} (M : List Nat) {oi : Oper} {v : Value} {k : Nat} {done : Array Bool} {a : Act} {w : World} (hi : ops[i]? = some oi) (hw : waitsM ops late i M = true) (hdm : (M.all fun m => done.getD m true == false) = true)
    (hs : Region.noSelect ops = true) (hf : Region.free .any ops done i = true) (hr : (Region.ready .any ops done).contains i = true)
    (hQ : ∀ c a w, Q (.panic c) (a.put oi.dst v) w → Q (.panic c) a w) (hy : YieldsIf P ops S oi v a) (hS : S w)
    (h : Lates P ops Q S late k (done.setIfInBounds i true) (a.put oi.dst v) w) : Lates P ops Q S late (k + 1) done a w :=
  Lates.firstM hi (Region.noSelect_spec hs) hQ hw k done a w (Region.free_spec hi hf) (by simpa using hr) (fun m hm => by simpa using List.all_eq_true.1 hdm m hm) hy hS h
end
end Go.Proofs.YtklfnghgpmjnmaaDoor
