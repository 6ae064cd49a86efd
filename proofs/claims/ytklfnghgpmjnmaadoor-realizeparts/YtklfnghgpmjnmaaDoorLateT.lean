/-
  Regions that draw their order and end with stores: an operation for which the late ones wait by way of another one may be taken first. No condition.
-/
import Derived.Test.YtklfnghgpmjnmaaDoorLateF
namespace Go.Proofs.YtklfnghgpmjnmaaDoor
open Go

section
variable {P : Program} {ops : Array Oper} {Q : Exit → Act → World → Prop} {S : World → Prop} {late : Nat → Bool}
theorem Lates.first2 {i m : Nat} {oi om : Oper} {v : Value} (hi : ops[i]? = some oi) (hsel : ∀ (j : Nat) (o : Oper) cs b, ops[j]? = some o → o.op ≠ .select cs b)
    (hQ : ∀ c a w, Q (.panic c) (a.put oi.dst v) w → Q (.panic c) a w) (hm : ops[m]? = some om) (hmi : ∃ e, e ∈ om.after ∧ Region.binds .any e = true ∧ e.on = i) (hw : waits ops late m = true) :
    ∀ (k : Nat) (done : Array Bool) (a : Act) (w : World),
      (∀ j oj, ops[j]? = some oj → j ≠ i → done.getD j true = false → (∀ e ∈ oj.after, Region.binds .any e = true → e.on ≠ i) → oi.apart ops oj = true) →
      i ∈ Region.ready .any ops done → done.getD m true = false → YieldsIf P ops S oi v a → S w → Lates P ops Q S late k (done.setIfInBounds i true) (a.put oi.dst v) w → Lates P ops Q S late (k + 1) done a w
  | 0, done, a, w, _, hr, _, hy, hS, H => by
    refine ⟨fun h => ?_, fun j hj => ?_⟩
    · rw [h] at hr; cases hr
    · by_cases e : j = i
      · rw [e]; exact hy.wpOp hi hS ⟨fun _ => hS, H⟩
      · have := ready_mono hj e
        rw [H.1] at this; cases this
  | k + 1, done, a, w, hf, hr, hdm, hy, hS, H => by
    refine ⟨fun h => ?_, fun j hj => ?_⟩
    · rw [h] at hr; cases hr
    by_cases e : j = i
    · rw [e]; exact hy.wpOp hi hS ⟨fun _ => hS, H⟩
    obtain ⟨hj0, oj, hoj, hall⟩ := mem_ready.1 hj
    have hno2 : ∀ n, done.getD n true = false → ∀ e ∈ oj.after, Region.binds .any e = true → e.on ≠ n := by
      intro n h0 e he hb he'
      have h1 := hall e he hb
      rw [he'] at h1
      rcases Nat.lt_or_ge n done.size with h' | h'
      · simp [h'] at h0 h1; rw [h0] at h1; cases h1
      · simp [Array.getElem?_eq_none h'] at h1
    have hno := hno2 i (mem_ready.1 hr).1
    have hjl : late j = false := by
      cases hl : late j
      · rfl
      · obtain ⟨e, he, hb, he'⟩ := waits_at hw hl hoj
        exact absurd he' (hno2 m hdm e he hb)
    have hjm : j ≠ m := fun q => by
      subst q
      rw [hoj] at hm
      cases hm
      obtain ⟨e, he, hb, he'⟩ := hmi
      exact hno e he hb he'
    have h1 := wpOp_putIf hoj (hf j oj hoj e hj0 hno) (fun cs b => hsel i oi cs b hi) (fun cs b => hsel j oj cs b hoj) hQ hy (H.2 j (ready_mono hj e))
    refine wpOp_mono (fun a' w' h3 => ⟨h3.2.1, Lates.first2 hi hsel hQ hm hmi hw k (done.setIfInBounds j true) a' w' ?_ (ready_mono hr (Ne.symm e)) ?_ h3.1 (h3.2.1 hjl) ?_⟩) h1
    · intro l ol hl hli hun hnl
      refine hf l ol hl hli ?_ hnl
      by_cases q : j = l
      · rw [← q]; exact hj0
      · rw [getD_set_ne true q] at hun; exact hun
    · rw [getD_set_ne true hjm]; exact hdm
    · rw [Array.setIfInBounds_comm _ _ e]; exact h3.2.2
/-- Does one wait for i? -/
def waitsOn (om : Oper) (i : Nat) : Bool := om.after.any fun e => Region.binds .any e && e.on == i
theorem lates_take2 {i m : Nat} {oi om : Oper} {v : Value} {k : Nat} {done : Array Bool} {a : Act} {w : World} (hi : ops[i]? = some oi) (hm : ops[m]? = some om) (hmi : waitsOn om i = true) (hw : waits ops late m = true) (hdm : done.getD m true = false)
    (hs : Region.noSelect ops = true) (hf : Region.free .any ops done i = true) (hr : (Region.ready .any ops done).contains i = true)
    (hQ : ∀ c a w, Q (.panic c) (a.put oi.dst v) w → Q (.panic c) a w) (hy : YieldsIf P ops S oi v a) (hS : S w)
    (h : Lates P ops Q S late k (done.setIfInBounds i true) (a.put oi.dst v) w) : Lates P ops Q S late (k + 1) done a w := by
  refine Lates.first2 hi (Region.noSelect_spec hs) hQ hm ?_ hw k done a w (Region.free_spec hi hf) (by simpa using hr) hdm hy hS h
  obtain ⟨q, hq, he⟩ := Array.any_eq_true.1 hmi
  simp only [Bool.and_eq_true, beq_iff_eq] at he
  exact ⟨_, Array.getElem_mem _, he.1, he.2⟩
end
end Go.Proofs.YtklfnghgpmjnmaaDoor
