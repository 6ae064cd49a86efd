/-
  Regions that draw their order and end with stores: an operation for which the late ones wait by way of another one may be taken first. No condition.
  Regions that draw their order: an operation may be taken first, if the late ones wait for it, be it by way of others. No condition.
  Plain facts on rows that have each point once: each once, or each at all, of as many places as points. No condition.
-/
import Derived.Test.YtinblbkglkhjmaaDoorLateF
import Derived.Test.YtinblbkglkhjmaaDoorBuild
namespace Go.Proofs.YtinblbkglkhjmaaDoor
open Go

section
variable {P : Program} {ops : Array Oper} {Q : Exit → Act → World → Prop} {S : World → Prop} {late : Nat → Bool}
theorem Lates.first2 {i m : Nat} {oi om : Oper} {v : Value} (hi : ops[i]? = some oi) (hsel : ∀ (j : Nat) (o : Oper) cs b, ops[j]? = some o → o.op ≠ .select cs b)
    (hQ : ∀ c a w, Q (.panic c) (a.put oi.dst v) w → Q (.panic c) a w) (hm : ops[m]? = some om) (hmi : ∃ e, e ∈ om.after ∧ Region.binds .any e = true ∧ e.on = i) (hw : waits ops late m = true) :
    ∀ (k : Nat) (done : Array Bool) (a : Act) (w : World),
      (∀ j oj, ops[j]? = some oj → j ≠ i → done.getD j true = false → (∀ e ∈ oj.after, Region.binds .any e = true → e.on ≠ i) → oi.apart ops oj = true) →
      i ∈ Region.ready .any ops done → done.getD m true = false → YieldsIf P ops S oi v a → S w → Lates P ops Q S late k (done.setIfInBounds i true) (a.put oi.dst v) w → Lates P ops Q S late (k + 1) done a w
  | 0, done, a, w, _, hr, _, hy, hS, H => by
    refine ⟨fun h => ?_, fun j hj => ?_⟩
    · rw [h] at hr; cases hr
    · by_cases e : j = i
      · rw [e]; exact hy.wpOp hi hS ⟨fun _ => hS, H⟩
      · have := ready_mono hj e
        rw [H.1] at this; cases this
  | k + 1, done, a, w, hf, hr, hdm, hy, hS, H => by
    refine ⟨fun h => ?_, fun j hj => ?_⟩
    · rw [h] at hr; cases hr
    by_cases e : j = i
    · rw [e]; exact hy.wpOp hi hS ⟨fun _ => hS, H⟩
    obtain ⟨hj0, oj, hoj, hall⟩ := mem_ready.1 hj
    have hno2 : ∀ n, done.getD n true = false → ∀ e ∈ oj.after, Region.binds .any e = true → e.on ≠ n := by
      intro n h0 e he hb he'
      have h1 := hall e he hb
      rw [he'] at h1
      rcases Nat.lt_or_ge n done.size with h' | h'
      · simp [h'] at h0 h1; rw [h0] at h1; cases h1
      · simp [Array.getElem?_eq_none h'] at h1
    have hno := hno2 i (mem_ready.1 hr).1
    have hjl : late j = false := by
      cases hl : late j
      · rfl
      · obtain ⟨e, he, hb, he'⟩ := waits_at hw hl hoj
        exact absurd he' (hno2 m hdm e he hb)
    have hjm : j ≠ m := fun q => by
      subst q
      rw [hoj] at hm
      cases hm
      obtain ⟨e, he, hb, he'⟩ := hmi
      exact hno e he hb he'
    have h1 := wpOp_putIf hoj (hf j oj hoj e hj0 hno) (fun cs b => hsel i oi cs b hi) (fun cs b => hsel j oj cs b hoj) hQ hy (H.2 j (ready_mono hj e))
    refine wpOp_mono (fun a' w' h3 => ⟨h3.2.1, Lates.first2 hi hsel hQ hm hmi hw k (done.setIfInBounds j true) a' w' ?_ (ready_mono hr (Ne.symm e)) ?_ h3.1 (h3.2.1 hjl) ?_⟩) h1
    · intro l ol hl hli hun hnl
      refine hf l ol hl hli ?_ hnl
      by_cases q : j = l
      · rw [← q]; exact hj0
      · rw [getD_set_ne true q] at hun; exact hun
    · rw [getD_set_ne true hjm]; exact hdm
    · rw [Array.setIfInBounds_comm _ _ e]; exact h3.2.2
/-- Does one wait for i? -/
def waitsOn (om : Oper) (i : Nat) : Bool := om.after.any fun e => Region.binds .any e && e.on == i
theorem lates_take2 {i m : Nat} {oi om : Oper} {v : Value} {k : Nat} {done : Array Bool} {a : Act} {w : World} (hi : ops[i]? = some oi) (hm : ops[m]? = some om) (hmi : waitsOn om i = true) (hw : waits ops late m = true) (hdm : done.getD m true = false)
    (hs : Region.noSelect ops = true) (hf : Region.free .any ops done i = true) (hr : (Region.ready .any ops done).contains i = true)
    (hQ : ∀ c a w, Q (.panic c) (a.put oi.dst v) w → Q (.panic c) a w) (hy : YieldsIf P ops S oi v a) (hS : S w)
    (h : Lates P ops Q S late k (done.setIfInBounds i true) (a.put oi.dst v) w) : Lates P ops Q S late (k + 1) done a w := by
  refine Lates.first2 hi (Region.noSelect_spec hs) hQ hm ?_ hw k done a w (Region.free_spec hi hf) (by simpa using hr) hdm hy hS h
  obtain ⟨q, hq, he⟩ := Array.any_eq_true.1 hmi
  simp only [Bool.and_eq_true, beq_iff_eq] at he
  exact ⟨_, Array.getElem_mem _, he.1, he.2⟩
end
end Go.Proofs.YtinblbkglkhjmaaDoor
namespace Go.Proofs.YtinblbkglkhjmaaDoor
open Go

section
variable {P : Program} {ops : Array Oper} {Q : Exit → Act → World → Prop} {S : World → Prop} {late : Nat → Bool}
/-- Do the late ones, and those of M, wait for i or one of M? -/
def waitsM (ops : Array Oper) (late : Nat → Bool) (i : Nat) (M : List Nat) : Bool :=
  (List.range ops.size).all fun j => !(late j || M.contains j) || (match ops[j]? with
    | some o => o.after.any fun e => Region.binds .any e && (e.on == i || M.contains e.on)
    | none => true)
theorem waitsM_at {i j : Nat} {M : List Nat} {oj : Oper} (h : waitsM ops late i M = true) (hl : late j = true ∨ j ∈ M) (hj : ops[j]? = some oj) : ∃ e, e ∈ oj.after ∧ Region.binds .any e = true ∧ (e.on = i ∨ e.on ∈ M) := by
  have hlt : j < ops.size := by
    rcases Nat.lt_or_ge j ops.size with h | h
    · exact h
    · rw [Array.getElem?_eq_none h] at hj; cases hj
  have h1 := List.all_eq_true.1 h j (List.mem_range.2 hlt)
  have h2 : (late j || M.contains j) = true := by
    rcases hl with hl | hl
    · rw [hl]; rfl
    · rw [List.contains_iff_mem.2 hl, Bool.or_true]
  rw [h2, hj] at h1
  simp only [Bool.not_true, Bool.false_or] at h1
  obtain ⟨k, hk, he⟩ := Array.any_eq_true.1 h1
  rw [Bool.and_eq_true, Bool.or_eq_true, beq_iff_eq] at he
  refine ⟨_, Array.getElem_mem _, he.1, ?_⟩
  rcases he.2 with he | he
  · exact .inl he
  · exact .inr (List.contains_iff_mem.1 he)
theorem Lates.firstM {i : Nat} {M : List Nat} {oi : Oper} {v : Value} (hi : ops[i]? = some oi) (hsel : ∀ (j : Nat) (o : Oper) cs b, ops[j]? = some o → o.op ≠ .select cs b)
    (hQ : ∀ c a w, Q (.panic c) (a.put oi.dst v) w → Q (.panic c) a w) (hw : waitsM ops late i M = true) :
    ∀ (k : Nat) (done : Array Bool) (a : Act) (w : World),
      (∀ j oj, ops[j]? = some oj → j ≠ i → done.getD j true = false → (∀ e ∈ oj.after, Region.binds .any e = true → e.on ≠ i) → oi.apart ops oj = true) →
      i ∈ Region.ready .any ops done → (∀ m, m ∈ M → done.getD m true = false) → YieldsIf P ops S oi v a → S w → Lates P ops Q S late k (done.setIfInBounds i true) (a.put oi.dst v) w → Lates P ops Q S late (k + 1) done a w
  | 0, done, a, w, _, hr, _, hy, hS, H => by
    refine ⟨fun h => ?_, fun j hj => ?_⟩
    · rw [h] at hr; cases hr
    · by_cases e : j = i
      · rw [e]; exact hy.wpOp hi hS ⟨fun _ => hS, H⟩
      · have := ready_mono hj e
        rw [H.1] at this; cases this
  | k + 1, done, a, w, hf, hr, hdm, hy, hS, H => by
    refine ⟨fun h => ?_, fun j hj => ?_⟩
    · rw [h] at hr; cases hr
    by_cases e : j = i
    · rw [e]; exact hy.wpOp hi hS ⟨fun _ => hS, H⟩
    obtain ⟨hj0, oj, hoj, hall⟩ := mem_ready.1 hj
    have hno2 : ∀ n, done.getD n true = false → ∀ e ∈ oj.after, Region.binds .any e = true → e.on ≠ n := by
      intro n h0 e he hb he'
      have h1 := hall e he hb
      rw [he'] at h1
      rcases Nat.lt_or_ge n done.size with h' | h'
      · simp [h'] at h0 h1; rw [h0] at h1; cases h1
      · simp [Array.getElem?_eq_none h'] at h1
    have hno := hno2 i (mem_ready.1 hr).1
    have hnot : ¬ (late j = true ∨ j ∈ M) := fun h => by
      obtain ⟨e, he, hb, he'⟩ := waitsM_at hw h hoj
      rcases he' with he' | he'
      · exact hno e he hb he'
      · exact hno2 _ (hdm _ he') e he hb rfl
    have hjl : late j = false := by
      cases hl : late j
      · rfl
      · exact absurd (.inl hl) hnot
    have h1 := wpOp_putIf hoj (hf j oj hoj e hj0 hno) (fun cs b => hsel i oi cs b hi) (fun cs b => hsel j oj cs b hoj) hQ hy (H.2 j (ready_mono hj e))
    refine wpOp_mono (fun a' w' h3 => ⟨h3.2.1, Lates.firstM hi hsel hQ hw k (done.setIfInBounds j true) a' w' ?_ (ready_mono hr (Ne.symm e)) ?_ h3.1 (h3.2.1 hjl) ?_⟩) h1
    · intro l ol hl hli hun hnl
      refine hf l ol hl hli ?_ hnl
      by_cases q : j = l
      · rw [← q]; exact hj0
      · rw [getD_set_ne true q] at hun; exact hun
    · intro m hm
      rw [getD_set_ne true (fun q => hnot (.inr (by rw [q]; exact hm)))]; exact hdm m hm
    · rw [Array.setIfInBounds_comm _ _ e]; exact h3.2.2
theorem lates_takeM {i : Nat} (M : List Nat) {oi : Oper} {v : Value} {k : Nat} {done : Array Bool} {a : Act} {w : World} (hi : ops[i]? = some oi) (hw : waitsM ops late i M = true) (hdm : (M.all fun m => done.getD m true == false) = true)
    (hs : Region.noSelect ops = true) (hf : Region.free .any ops done i = true) (hr : (Region.ready .any ops done).contains i = true)
    (hQ : ∀ c a w, Q (.panic c) (a.put oi.dst v) w → Q (.panic c) a w) (hy : YieldsIf P ops S oi v a) (hS : S w)
    (h : Lates P ops Q S late k (done.setIfInBounds i true) (a.put oi.dst v) w) : Lates P ops Q S late (k + 1) done a w :=
  Lates.firstM hi (Region.noSelect_spec hs) hQ hw k done a w (Region.free_spec hi hf) (by simpa using hr) (fun m hm => by simpa using List.all_eq_true.1 hdm m hm) hy hS h
end
end Go.Proofs.YtinblbkglkhjmaaDoor
namespace Go.Proofs.YtinblbkglkhjmaaDoor
open Go.RowKit

/-- Of how many of the first numbers something is so. -/
def cn (P : Nat → Bool) : Nat → Nat
  | 0 => 0
  | k + 1 => cn P k + (if P k = true then 1 else 0)
theorem cn_le (P : Nat → Bool) : ∀ k, cn P k ≤ k
  | 0 => Nat.le_refl _
  | k + 1 => by have := cn_le P k; unfold cn; split <;> omega
theorem cn_yes {P : Nat → Bool} {k : Nat} (h : P k = true) : cn P (k + 1) = cn P k + 1 := by simp [cn, h]
theorem cn_no {P : Nat → Bool} {k : Nat} (h : P k = false) : cn P (k + 1) = cn P k := by simp [cn, h]
theorem cn_congr {P Q : Nat → Bool} : ∀ k, (∀ j, j < k → P j = Q j) → cn P k = cn Q k
  | 0, _ => rfl
  | k + 1, h => by simp only [cn]; rw [cn_congr k (fun j hj => h j (by omega)), h k (by omega)]
theorem cn_all {P : Nat → Bool} : ∀ k, cn P k = k → ∀ j, j < k → P j = true
  | k + 1, h, j, hj => by
    have h1 := cn_le P k
    rcases Bool.eq_false_or_eq_true (P k) with e | e
    · rw [cn_yes e] at h
      by_cases q : j = k
      · subst q; exact e
      · exact cn_all k (by omega) j (by omega)
    · rw [cn_no e] at h; omega
theorem cn_full {P : Nat → Bool} : ∀ k, (∀ j, j < k → P j = true) → cn P k = k
  | 0, _ => rfl
  | k + 1, h => by rw [cn_yes (h k (by omega)), cn_full k (fun j hj => h j (by omega))]
/-- One more is so at most. -/
theorem cn_one_more {P Q : Nat → Bool} (c : Nat) (h : ∀ j, j ≠ c → P j = Q j) (hp : P c = false) (hq : Q c = true) : ∀ k, cn Q k = cn P k + (if c < k then 1 else 0)
  | 0 => by simp [cn]
  | k + 1 => by
    have ih := cn_one_more c h hp hq k
    by_cases e : k = c
    · subst e
      rw [cn_yes hq, cn_no hp, ih, if_neg (Nat.lt_irrefl _), if_pos (Nat.lt_succ_self _)]
    · rcases Bool.eq_false_or_eq_true (P k) with q | q
      · rw [cn_yes q, cn_yes (by rw [← h k e]; exact q), ih]
        by_cases l : c < k
        · rw [if_pos l, if_pos (by omega)]
        · rw [if_neg l, if_neg (by omega)]
      · rw [cn_no q, cn_no (by rw [← h k e]; exact q), ih]
        by_cases l : c < k
        · rw [if_pos l, if_pos (by omega)]
        · rw [if_neg l, if_neg (by omega)]
/-- Was i met among the first k? -/
def sn (f : Nat → Int) (i : Nat) : Nat → Bool
  | 0 => false
  | k + 1 => sn f i k || decide (f k = i)
theorem sn_iff {f : Nat → Int} {i : Nat} : ∀ k, sn f i k = true ↔ ∃ j, j < k ∧ f j = i
  | 0 => by simp [sn]
  | k + 1 => by
    rw [sn, Bool.or_eq_true, sn_iff k, decide_eq_true_eq]
    constructor
    · rintro (⟨j, hj, h⟩ | h)
      · exact ⟨j, by omega, h⟩
      · exact ⟨k, by omega, h⟩
    · rintro ⟨j, hj, h⟩
      by_cases e : j = k
      · subst e; exact .inr h
      · exact .inl ⟨j, by omega, h⟩
/-- Each once. -/
def Once (f : Nat → Int) (n k : Nat) : Prop := ∀ j, j < k → (0 ≤ f j ∧ f j < n) ∧ ∀ i, i < j → f i ≠ f j
def ct (f : Nat → Int) (n k : Nat) : Nat := cn (fun i => sn f i k) n
theorem ct_zero (f : Nat → Int) (n : Nat) : ct f n 0 = 0 := by
  unfold ct
  have : ∀ m, cn (fun i => sn f i 0) m = 0 := fun m => by
    induction m with
    | zero => rfl
    | succ m ih => rw [cn_no rfl]; exact ih
  exact this n
theorem ct_new {f : Nat → Int} {n k : Nat} (h : 0 ≤ f k ∧ f k < n) (hn : ∀ i, i < k → f i ≠ f k) : ct f n (k + 1) = ct f n k + 1 := by
  obtain ⟨c, hc⟩ := Int.eq_ofNat_of_zero_le h.1
  have h1 : sn f c k = false := by
    rcases Bool.eq_false_or_eq_true (sn f c k) with e | e
    · obtain ⟨j, hj, q⟩ := (sn_iff k).1 e
      exact absurd (by rw [q, hc]) (hn j hj)
    · exact e
  have := cn_one_more (P := fun i => sn f i k) (Q := fun i => sn f i (k + 1)) c (fun j hj => by
    show sn f j k = (sn f j k || decide (f k = j))
    rw [decide_eq_false (by rw [hc]; omega), Bool.or_false]) h1 (by show (sn f c k || decide (f k = c)) = true; rw [decide_eq_true hc, Bool.or_true]) n
  unfold ct
  rw [this, if_pos (by omega)]
theorem ct_old {f : Nat → Int} {n k : Nat} (h : ¬ (0 ≤ f k ∧ f k < n) ∨ ∃ i, i < k ∧ f i = f k) : ct f n (k + 1) = ct f n k := by
  unfold ct
  refine cn_congr n (fun i hi => ?_)
  show (sn f i k || decide (f k = i)) = sn f i k
  by_cases e : f k = i
  · rcases h with h | ⟨j, hj, q⟩
    · exact absurd ⟨by omega, by omega⟩ h
    · rw [(sn_iff k).2 ⟨j, hj, by rw [q, e]⟩]; rfl
  · rw [decide_eq_false e, Bool.or_false]
theorem ct_le (f : Nat → Int) (n : Nat) : ∀ k, ct f n k ≤ k
  | 0 => by rw [ct_zero]; exact Nat.le_refl _
  | k + 1 => by
    have ih := ct_le f n k
    by_cases h : (0 ≤ f k ∧ f k < n) ∧ ∀ i, i < k → f i ≠ f k
    · rw [ct_new h.1 h.2]; omega
    · rw [ct_old (by
        by_cases q : 0 ≤ f k ∧ f k < n
        · refine .inr (Classical.byContradiction (fun hc => h ⟨q, fun i hi e => hc ⟨i, hi, e⟩⟩))
        · exact .inl q)]; omega
theorem once_ct {f : Nat → Int} {n : Nat} : ∀ k, Once f n k ↔ ct f n k = k
  | 0 => ⟨fun _ => ct_zero f n, fun _ j hj => absurd hj (Nat.not_lt_zero _)⟩
  | k + 1 => by
    have hle := ct_le f n k
    by_cases h : (0 ≤ f k ∧ f k < n) ∧ ∀ i, i < k → f i ≠ f k
    · rw [ct_new h.1 h.2]
      constructor
      · intro q
        have := (once_ct k).1 (fun j hj => q j (by omega)); omega
      · intro q j hj
        by_cases e : j = k
        · subst e; exact h
        · exact (once_ct k).2 (by omega) j (by omega)
    · have e := ct_old (f := f) (n := n) (k := k) (by
        by_cases q : 0 ≤ f k ∧ f k < n
        · refine .inr (Classical.byContradiction (fun hc => h ⟨q, fun i hi e => hc ⟨i, hi, e⟩⟩))
        · exact .inl q)
      rw [e]
      constructor
      · intro q; exact absurd (q k (by omega)) h
      · intro q; omega
/-- Of as many places as points: each once just if each is there. -/
theorem once_all {f : Nat → Int} {n : Nat} : Once f n n ↔ ∀ i, i < n → sn f i n = true := by
  rw [once_ct]
  exact ⟨fun h i hi => cn_all n h i hi, fun h => cn_full n h⟩
/-- Who stands in the first k places. -/
def pl (f : Nat → Int) (n k : Nat) : Nat := setBy (fun i => sn f i k) n
theorem pl_lt (f : Nat → Int) (n k : Nat) : pl f n k < pw n := setBy_lt _ n
theorem pl_bit {f : Nat → Int} {n k i : Nat} (hi : i < n) : (pl f n k).testBit i = sn f i k := by
  unfold pl; rw [setBy_bit, decide_eq_true hi, Bool.true_and]
theorem pl_zero (f : Nat → Int) (n : Nat) : pl f n 0 = 0 :=
  eq_of_bits (n := n) (pl_lt f n 0) (pw_pos n) (fun i hi => by rw [pl_bit hi, Nat.zero_testBit]; rfl)
theorem pl_next {f : Nat → Int} {n k x : Nat} (hx : x < n) (h : f k = (x : Nat)) : pl f n (k + 1) = pl f n k ||| pw x :=
  eq_of_bits (n := n) (pl_lt f n _) (Nat.or_lt_two_pow (pl_lt f n k) (Nat.pow_lt_pow_right (by decide) hx)) (fun i hi => by
    rw [pl_bit hi, Nat.testBit_or, pl_bit hi, pw_bit, sn]
    congr 1
    rw [h, Bool.eq_iff_iff]
    simp only [decide_eq_true_eq]
    omega)
/-- Of each point who stands ahead of it, as far as the first k places go. -/
def bf (f : Nat → Int) (n : Nat) : Nat → Nat → Nat
  | 0 => fun _ => 0
  | k + 1 => upd (bf f n k) (f k).toNat (pl f n k)
theorem bf_at {f : Nat → Int} {n j : Nat} : ∀ k, Once f n k → j < k → bf f n k (f j).toNat = pl f n j
  | k + 1, ho, hj => by
    have hok : Once f n k := fun i hi => ho i (by omega)
    by_cases e : j = k
    · subst e; rw [bf, upd_same]
    · have h1 := (ho k (by omega)).2 j (by omega)
      have h2 := (ho k (by omega)).1
      have h3 := (ho j (by omega)).1
      rw [bf, upd_other _ _ _ _ (fun q => h1 (by omega))]
      exact bf_at k hok (by omega)
theorem bf_lt {f : Nat → Int} {n : Nat} : ∀ k y, bf f n k y < pw n
  | 0, _ => pw_pos n
  | k + 1, y => by
    rw [bf]
    unfold upd
    split
    · exact pl_lt f n k
    · exact bf_lt k y
end Go.Proofs.YtinblbkglkhjmaaDoor
