/-
  Words, set by set: what the ways are when the first sets were looked at. Plain facts: no Go text here. Conditions: as each theorem says.
  Regions that draw their order and end with stores: a condition S on the world is kept up to the last operations, which wait for all that is taken first. No condition.
-/
import Derived.Test.YtglkjeidkjkdaaaDoorCrn
import Derived.Deep.RegionHeld3
import Derived.Test.YtglkjeidkjkdaaaDoorRows
namespace Go.Proofs.YtglkjeidkjkdaaaDoor
set_option maxRecDepth 100000
open Go.RowKit

theorem nth_append {l : List Nat} {x k : Nat} (h : k < l.length) : nth (l ++ [x]) k = nth l k := by
  unfold nth; rw [List.getD_eq_getElem?_getD, List.getD_eq_getElem?_getD, List.getElem?_append_left h]
theorem nth_last (l : List Nat) (x : Nat) : nth (l ++ [x]) l.length = x := by
  unfold nth; rw [List.getD_eq_getElem?_getD, List.getElem?_append_right (Nat.le_refl _)]; simp
theorem psum {s : Nat} {φ : Nat → Nat} : ∀ K, sumTo (fun t => φ (nth (pts s K) t)) (pts s K).length = sumTo (fun p => if s.testBit p = true then φ p else 0) K
  | 0 => rfl
  | K + 1 => by
    cases h : s.testBit K
    · rw [pts_no h, psum K]
      show _ = _ + _
      simp [h]
    · rw [pts_yes h, List.length_append]
      show sumTo _ ((pts s K).length + 1) = _ + _
      rw [sumTo, nth_last]
      have : sumTo (fun t => φ (nth (pts s K ++ [K]) t)) (pts s K).length = sumTo (fun t => φ (nth (pts s K) t)) (pts s K).length := sumTo_congr _ fun k hk => by rw [nth_append hk]
      rw [this, psum K]; simp [h]
/-- The ways, when the first k sets were looked at. -/
def wv (g : Nat → Nat) (len k j : Nat) : Nat := if j = 0 then 1 else if mem g k j = true then wy (mem g len) j else 0
/-- The sets rise. -/
def RisN (g : Nat → Nat) (len : Nat) : Prop := ∀ i k, i < k → k < len → g i < g k
theorem ris_nat {n len : Nat} {f : Nat → Int} (h1 : FIn n len f) (h2 : FRis len f) : RisN (nat f) len := by
  have step : ∀ k, k + 1 < len → nat f k < nat f (k + 1) := fun k hk => by
    have := h2 (k + 1) hk (by omega)
    rw [Nat.add_sub_cancel] at this
    have := h1 k (by omega)
    have := h1 (k + 1) hk
    unfold nat; omega
  intro i k hik
  induction k with
  | zero => omega
  | succ k ih =>
    intro hk
    by_cases e : i = k
    · subst e; exact step i hk
    · have := ih (by omega) (by omega); have := step k hk; omega
theorem mem_more {g : Nat → Nat} {k m s : Nat} (h : k ≤ m) (hm : mem g k s = true) : mem g m s = true := by
  obtain ⟨j, h1, h2⟩ := mem_iff.1 hm
  exact mem_iff.2 ⟨j, by omega, h2⟩
theorem mem_new {g : Nat → Nat} {len k : Nat} (hR : RisN g len) (hk : k < len) : mem g k (g k) = false := by
  cases e : mem g k (g k)
  · rfl
  · obtain ⟨j, h1, h2⟩ := mem_iff.1 e
    have := hR j k h1 hk
    omega
theorem wv_less {g : Nat → Nat} {len k j : Nat} (hR : RisN g len) (hk : k < len) (hj : j < g k) : wv g len k j = wy (mem g len) j := by
  unfold wv
  by_cases h0 : j = 0
  · rw [if_pos h0, h0, wy_zero]
  · rw [if_neg h0]
    cases hm : mem g len j
    · have : mem g k j = false := by
        cases e : mem g k j
        · rfl
        · rw [mem_more (by omega) e] at hm; cases hm
      rw [this, if_neg (by decide), wy_no h0 hm]
    · obtain ⟨i, hi, e⟩ := mem_iff.1 hm
      have hik : i < k := by
        rcases Nat.lt_trichotomy i k with h | h | h
        · exact h
        · subst h; omega
        · have := hR k i h hi; omega
      rw [mem_iff.2 ⟨i, hik, e⟩, if_pos rfl]
theorem wv_first {g : Nat → Nat} {len k : Nat} (hR : RisN g len) (hk : k < len) : wv g len k (g k) = if g k = 0 then 1 else 0 := by
  unfold wv
  rw [mem_new hR hk]
  by_cases h0 : g k = 0
  · rw [if_pos h0, if_pos h0]
  · rw [if_neg h0, if_neg h0, if_neg (by decide)]
theorem wv_succ (g : Nat → Nat) (len k : Nat) : wv g len (k + 1) = upd (wv g len k) (g k) (wy (mem g len) (g k)) := by
  funext j
  unfold wv
  rw [mem_succ]
  by_cases e : j = g k
  · subst e
    rw [upd_same, updB_same]
    by_cases h0 : g k = 0
    · rw [if_pos h0, h0, wy_zero]
    · rw [if_neg h0, if_pos rfl]
  · rw [upd_other _ _ _ _ e, updB_other _ e]
theorem wv_zero (g : Nat → Nat) (len : Nat) : wv g len 0 = upd (fun _ => 0) 0 1 := by
  funext j
  unfold wv
  by_cases e : j = 0
  · subst e; rw [upd_same, if_pos rfl]
  · rw [upd_other _ _ _ _ e, if_neg e, mem_zero]; simp
theorem wv_end {g : Nat → Nat} {len j : Nat} : wv g len len j = wy (mem g len) j := by
  unfold wv
  by_cases h0 : j = 0
  · rw [if_pos h0, h0, wy_zero]
  · rw [if_neg h0]
    cases hm : mem g len j
    · rw [if_neg (by decide), wy_no h0 hm]
    · rw [if_pos rfl]
/-- The ways of s, when the first i of its points were looked at. -/
def wi (M : Nat → Bool) (s i : Nat) : Nat := (if s = 0 then 1 else 0) + sumTo (fun t => wy M (s - pw (nth (pts s 10) t))) i
theorem wi_zero {g : Nat → Nat} {len k : Nat} (hR : RisN g len) (hk : k < len) : wv g len k (g k) = wi (mem g len) (g k) 0 := by
  rw [wv_first hR hk]; rfl
theorem wi_succ (M : Nat → Bool) (s i : Nat) : wi M s (i + 1) = wi M s i + wy M (s - pw (nth (pts s 10) i)) := by
  unfold wi; rw [sumTo, Nat.add_assoc]
theorem wi_end {g : Nat → Nat} {len k : Nat} (hk : k < len) (hs : g k < 1024) : wi (mem g len) (g k) (pts (g k) 10).length = wy (mem g len) (g k) := by
  unfold wi
  by_cases h0 : g k = 0
  · rw [if_pos h0, h0, wy_zero, pts_zero]; rfl
  · rw [if_neg h0, Nat.zero_add, wy_yes hs h0 (mem_at hk)]
    exact psum (φ := fun p => wy (mem g len) (g k - pw p)) 10
theorem wi_small {M : Nat → Bool} {s i : Nat} (hs : s < 1024) (hi : i ≤ 10) : wi M s i ≤ 100000000001 := by
  have h := sumTo_le (φ := fun t => wy M (s - pw (nth (pts s 10) t))) (B := 10000000000) i (fun j _ => wy_small (by omega))
  unfold wi
  have : (if s = 0 then 1 else 0) ≤ 1 := by split <;> omega
  omega
end Go.Proofs.YtglkjeidkjkdaaaDoor
namespace Go.Proofs.YtglkjeidkjkdaaaDoor
open Go

section
variable {P : Program} {ops : Array Oper} {Q : Exit → Act → World → Prop} {S : World → Prop} {late : Nat → Bool}

/-- In whatever order the rest comes: behind each operation that is not one of the late ones S holds. -/
def Lates (P : Program) (ops : Array Oper) (Q : Exit → Act → World → Prop) (S : World → Prop) (late : Nat → Bool) : Nat → Array Bool → Act → World → Prop
  | 0, done, a, w => Region.ready .any ops done = [] ∧ Q .normal a w
  | k + 1, done, a, w => (Region.ready .any ops done = [] → Q .normal a w) ∧
      ∀ i, i ∈ Region.ready .any ops done → wpOp P ops Q i (fun a' w' => (late i = false → S w') ∧ Lates P ops Q S late k (done.setIfInBounds i true) a' w') a w
theorem Lates.any : ∀ (k : Nat) (done : Array Bool) (a : Act) (w : World), Lates P ops Q S late k done a w → wpAny P .any ops Q k done a w
  | 0, _, _, _, h => h
  | k + 1, _, _, _, h => ⟨h.1, fun i hi => wpOp_mono (fun a' w' h' => Lates.any k _ a' w' h'.2) (h.2 i hi)⟩
/-- Do the late ones wait for i? -/
def waits (ops : Array Oper) (late : Nat → Bool) (i : Nat) : Bool :=
  (List.range ops.size).all fun j => !(late j) || (match ops[j]? with
    | some o => o.after.any fun e => Region.binds .any e && e.on == i
    | none => true)
theorem waits_at {i j : Nat} {oj : Oper} (h : waits ops late i = true) (hl : late j = true) (hj : ops[j]? = some oj) : ∃ e, e ∈ oj.after ∧ Region.binds .any e = true ∧ e.on = i := by
  have hlt : j < ops.size := by
    rcases Nat.lt_or_ge j ops.size with h | h
    · exact h
    · rw [Array.getElem?_eq_none h] at hj; cases hj
  have := List.all_eq_true.1 h j (List.mem_range.2 hlt)
  rw [hl, hj] at this
  simp only [Bool.not_true, Bool.false_or] at this
  obtain ⟨k, hk, he⟩ := Array.any_eq_true.1 this
  simp only [Bool.and_eq_true, beq_iff_eq] at he
  exact ⟨_, Array.getElem_mem _, he.1, he.2⟩
/-- Number i may be taken first, if the late ones wait for it. -/
theorem Lates.first {i : Nat} {oi : Oper} {v : Value} (hi : ops[i]? = some oi) (hsel : ∀ (j : Nat) (o : Oper) cs b, ops[j]? = some o → o.op ≠ .select cs b)
    (hQ : ∀ c a w, Q (.panic c) (a.put oi.dst v) w → Q (.panic c) a w) (hlate : late i = false) (hw : waits ops late i = true) :
    ∀ (k : Nat) (done : Array Bool) (a : Act) (w : World),
      (∀ j oj, ops[j]? = some oj → j ≠ i → done.getD j true = false → (∀ e ∈ oj.after, Region.binds .any e = true → e.on ≠ i) → oi.apart ops oj = true) →
      i ∈ Region.ready .any ops done → YieldsIf P ops S oi v a → S w → Lates P ops Q S late k (done.setIfInBounds i true) (a.put oi.dst v) w → Lates P ops Q S late (k + 1) done a w
  | 0, done, a, w, _, hr, hy, hS, H => by
    refine ⟨fun h => ?_, fun j hj => ?_⟩
    · rw [h] at hr; cases hr
    · by_cases e : j = i
      · rw [e]; exact hy.wpOp hi hS ⟨fun _ => hS, H⟩
      · have := ready_mono hj e
        rw [H.1] at this; cases this
  | k + 1, done, a, w, hf, hr, hy, hS, H => by
    refine ⟨fun h => ?_, fun j hj => ?_⟩
    · rw [h] at hr; cases hr
    by_cases e : j = i
    · rw [e]; exact hy.wpOp hi hS ⟨fun _ => hS, H⟩
    obtain ⟨hj0, oj, hoj, hall⟩ := mem_ready.1 hj
    have hno : ∀ e ∈ oj.after, Region.binds .any e = true → e.on ≠ i := by
      intro e he hb he'
      have h1 := hall e he hb
      have h0 := (mem_ready.1 hr).1
      rw [he'] at h1
      rcases Nat.lt_or_ge i done.size with h' | h'
      · simp [h'] at h0 h1; rw [h0] at h1; cases h1
      · simp [Array.getElem?_eq_none h'] at h1
    have hjl : late j = false := by
      cases hl : late j
      · rfl
      · obtain ⟨e, he, hb, he'⟩ := waits_at hw hl hoj
        exact absurd he' (hno e he hb)
    have h1 := wpOp_putIf hoj (hf j oj hoj e hj0 hno) (fun cs b => hsel i oi cs b hi) (fun cs b => hsel j oj cs b hoj) hQ hy (H.2 j (ready_mono hj e))
    refine wpOp_mono (fun a' w' h3 => ⟨h3.2.1, Lates.first hi hsel hQ hlate hw k (done.setIfInBounds j true) a' w' ?_ (ready_mono hr (Ne.symm e)) h3.1 (h3.2.1 hjl) ?_⟩) h1
    · intro l ol hl hli hun hnl
      refine hf l ol hl hli ?_ hnl
      by_cases q : j = l
      · rw [← q]; exact hj0
      · rw [getD_set_ne true q] at hun; exact hun
    · rw [Array.setIfInBounds_comm _ _ e]; exact h3.2.2
theorem lates_take {i : Nat} {oi : Oper} {v : Value} {k : Nat} {done : Array Bool} {a : Act} {w : World} (hi : ops[i]? = some oi)
    (hs : Region.noSelect ops = true) (hf : Region.free .any ops done i = true) (hr : (Region.ready .any ops done).contains i = true) (hl : (late i = false) ∧ waits ops late i = true)
    (hQ : ∀ c a w, Q (.panic c) (a.put oi.dst v) w → Q (.panic c) a w) (hy : YieldsIf P ops S oi v a) (hS : S w)
    (h : Lates P ops Q S late k (done.setIfInBounds i true) (a.put oi.dst v) w) : Lates P ops Q S late (k + 1) done a w :=
  Lates.first hi (Region.noSelect_spec hs) hQ hl.1 hl.2 k done a w (Region.free_spec hi hf) (by simpa using hr) hy hS h
/-- Each of some comes next. -/
def AllLate (P : Program) (ops : Array Oper) (Q : Exit → Act → World → Prop) (S : World → Prop) (late : Nat → Bool) (k : Nat) (done : Array Bool) (a : Act) (w : World) (rs : List Nat) : Prop :=
  ∀ i ∈ rs, wpOp P ops Q i (fun a' w' => (late i = false → S w') ∧ Lates P ops Q S late k (done.setIfInBounds i true) a' w') a w
theorem AllLate.nil {k : Nat} {done : Array Bool} {a : Act} {w : World} : AllLate P ops Q S late k done a w [] := fun _ h => by cases h
theorem AllLate.cons {k : Nat} {done : Array Bool} {a : Act} {w : World} {i : Nat} {o : Oper} {rs : List Nat} (ho : ops[i]? = some o)
    (h : ∀ K' : Act → World → Prop, Shut (∀ a w, (late i = false → S w) → Lates P ops Q S late k (done.setIfInBounds i true) a w → K' a w) → if Region.wanted o (yielded ops a.tmps) = true then Oper.wp P o a w K' Q else K' (a.put o.dst undef) w)
    (hs : AllLate P ops Q S late k done a w rs) : AllLate P ops Q S late k done a w (i :: rs) := fun j hj => by
  rcases List.mem_cons.1 hj with rfl | hj
  · exact wpOp_step ho (fun K' hK => h K' (fun a w hS hW => hK a w ⟨hS, hW⟩))
  · exact hs j hj
theorem lates_ready {rs : List Nat} {k : Nat} {done : Array Bool} {a : Act} {w : World} (hr : Region.ready .any ops done = rs) (hne : rs ≠ [])
    (h : AllLate P ops Q S late k done a w rs) : Lates P ops Q S late (k + 1) done a w := ⟨fun h0 => absurd (hr ▸ h0) hne, hr ▸ h⟩
theorem lates_done {done : Array Bool} {a : Act} {w : World} (hr : Region.ready .any ops done = []) (h : Q .normal a w) : ∀ k, Lates P ops Q S late k done a w
  | 0 => ⟨hr, h⟩
  | _ + 1 => ⟨fun _ => h, by rw [hr]; simp⟩
theorem wp_lates {id : Nat} {a : Act} {w : World} (hm : P.follows .mixedOrders = true) (h : Lates P ops Q S late ops.size (Array.replicate ops.size false) a w.drew) : (Code.region id ops true).wp P Q a w :=
  wp_region_any hm (Lates.any _ _ _ _ h)
end
end Go.Proofs.YtglkjeidkjkdaaaDoor
