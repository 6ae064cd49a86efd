/-
  The closure of the covers is the order, and without one of them it is not. Plain facts: no Go text here. Conditions: as each theorem says.
-/
import Derived.Test.YtipgojoiakbaiaaClosure
import Derived.Test.YtipgojoiakbaiaaCoversP
namespace Go.Proofs.Ytipgojoiakbaiaa
open Go.RowKit

theorem sm_big {n : Nat} {g : Nat → Nat} (hn : n ≤ 10) (hg : Sm n n g) {k : Nat} (hk : k < n) : g k < 18446744073709551616 := by
  have := hg k hk
  have := pw_le n hn
  omega
theorem ord_tr {n : Nat} {g : Nat → Nat} (hn : n ≤ 10) (hg : Sm n n g) (h : Ord n g) {a b c : Nat} (hb : b < n) (hc : c < n) (h1 : (g b).testBit a = true) (h2 : (g c).testBit b = true) : (g c).testBit a = true :=
  (lack_zero _ _ (sm_big hn hg hb) (sm_big hn hg hc)).1 ((h c hc).2 b hb h2) a h1
theorem num_lt {n : Nat} {g : Nat → Nat} (hn : n ≤ 10) (hg : Sm n n g) (h : Ord n g) {a b : Nat} (ha : a < n) (hb : b < n) (h1 : (g b).testBit a = true) : g a < g b := by
  have hsub : g a &&& g b = g a := Nat.eq_of_testBit_eq fun i => by
    rw [Nat.testBit_and]
    cases e : (g a).testBit i
    · simp
    · rw [ord_tr hn hg h ha hb e h1]; rfl
  have hle : g a ≤ g b := by
    have := @Nat.and_le_right (g a) (g b)
    rw [hsub] at this; exact this
  have hne : g a ≠ g b := fun e => by
    have h2 := (h a ha).1
    rw [e, h1] at h2; cases h2
  omega
theorem way_of {n : Nat} {g : Nat → Nat} (hn : n ≤ 10) (hg : Sm n n g) (h : Ord n g) {R : Nat → Nat → Prop} (hR : ∀ a b, a < n → b < n → Cov g n a b → R a b) :
    ∀ m a b, a < n → b < n → (g b).testBit a = true → g b - g a ≤ m → Way R n a b
  | 0, a, b, ha, hb, h1, hm => by have := num_lt hn hg h ha hb h1; omega
  | m + 1, a, b, ha, hb, h1, hm => by
    by_cases hc : Cov g n a b
    · exact Way.lift (hR a b ha hb hc) n
    · have : ∃ k, k < n ∧ (g k).testBit a = true ∧ (g b).testBit k = true := by
        refine Classical.byContradiction fun hx => hc ⟨h1, fun k hk hh => hx ⟨k, hk, hh.1, hh.2⟩⟩
      obtain ⟨k, hk, k1, k2⟩ := this
      have l1 := num_lt hn hg h ha hk k1
      have l2 := num_lt hn hg h hk hb k2
      exact Way.trans n a k b hk (way_of hn hg h hR m a k ha hk k1 (by omega)) (way_of hn hg h hR m k b hk hb k2 (by omega))

theorem mem_row {C : Nat → Nat → Bool} {x : Nat} {q : Nat × Nat} : ∀ k, q ∈ rowPairs C x k ↔ ∃ y, y < k ∧ C x y = true ∧ q = (x, y)
  | 0 => by simp [rowPairs]
  | k + 1 => by
    have ih := mem_row (C := C) (x := x) (q := q) k
    cases h : C x k
    · rw [rowPairs_no h, ih]
      constructor
      · rintro ⟨y, hy, h1, h2⟩; exact ⟨y, by omega, h1, h2⟩
      · rintro ⟨y, hy, h1, h2⟩
        by_cases e : y = k
        · subst e; rw [h] at h1; cases h1
        · exact ⟨y, by omega, h1, h2⟩
    · rw [rowPairs_yes h, List.mem_append, ih]
      constructor
      · rintro (⟨y, hy, h1, h2⟩ | h1)
        · exact ⟨y, by omega, h1, h2⟩
        · exact ⟨k, by omega, h, by simpa using h1⟩
      · rintro ⟨y, hy, h1, h2⟩
        by_cases e : y = k
        · subst e; exact .inr (by simp [h2])
        · exact .inl ⟨y, by omega, h1, h2⟩
theorem all_succ (C : Nat → Nat → Bool) (n x : Nat) : allPairs C n (x + 1) = allPairs C n x ++ rowPairs C x n := rfl
theorem mem_all {C : Nat → Nat → Bool} {n : Nat} {q : Nat × Nat} : ∀ m, q ∈ allPairs C n m ↔ ∃ x y, x < m ∧ y < n ∧ C x y = true ∧ q = (x, y)
  | 0 => by simp [allPairs]
  | m + 1 => by
    rw [all_succ, List.mem_append, mem_all m, mem_row]
    constructor
    · rintro (⟨x, y, h1, h2, h3, h4⟩ | ⟨y, h2, h3, h4⟩)
      · exact ⟨x, y, by omega, h2, h3, h4⟩
      · exact ⟨m, y, by omega, h2, h3, h4⟩
    · rintro ⟨x, y, h1, h2, h3, h4⟩
      by_cases e : x = m
      · subst e; exact .inr ⟨y, h2, h3, h4⟩
      · exact .inl ⟨x, y, by omega, h2, h3, h4⟩
theorem row_nodup (C : Nat → Nat → Bool) (x : Nat) : ∀ k, (rowPairs C x k).Nodup
  | 0 => by simp [rowPairs]
  | k + 1 => by
    have ih := row_nodup C x k
    cases h : C x k
    · rw [rowPairs_no h]; exact ih
    · rw [rowPairs_yes h, List.nodup_append]
      refine ⟨ih, by simp, fun q hq r hr => ?_⟩
      obtain ⟨y, hy, _, rfl⟩ := (mem_row k).1 hq
      simp at hr
      subst hr
      intro e
      simp at e
      omega
theorem all_nodup (C : Nat → Nat → Bool) (n : Nat) : ∀ m, (allPairs C n m).Nodup
  | 0 => by simp [allPairs]
  | m + 1 => by
    rw [all_succ, List.nodup_append]
    refine ⟨all_nodup C n m, row_nodup C m n, fun q hq r hr => ?_⟩
    obtain ⟨x, y, hx, _, _, rfl⟩ := (mem_all m).1 hq
    obtain ⟨z, _, _, rfl⟩ := (mem_row n).1 hr
    intro e
    simp at e
    omega
theorem mem_covs {g : Nat → Nat} {n : Nat} {q : Nat × Nat} : q ∈ covs g n ↔ q.1 < n ∧ q.2 < n ∧ Cov g n q.1 q.2 := by
  unfold covs
  rw [mem_all]
  constructor
  · rintro ⟨x, y, h1, h2, h3, rfl⟩; exact ⟨h1, h2, (covB_iff g n x y).1 h3⟩
  · rintro ⟨h1, h2, h3⟩; exact ⟨q.1, q.2, h1, h2, (covB_iff g n _ _).2 h3, rfl⟩

theorem pairAt_get {l : List (Nat × Nat)} {j : Nat} (h : j < l.length) : pairAt l j = ((l[j].1 : Int), (l[j].2 : Int)) := by simp [pairAt, h]
theorem pin_of {n : Nat} {l : List (Nat × Nat)} (h : ∀ q ∈ l, q.1 < n ∧ q.2 < n) : ∀ j, j < l.length → PIn (n : Int) (pairAt l) j := fun j hj => by
  have := h _ (List.getElem_mem hj)
  unfold PIn
  rw [pairAt_get hj]
  simp only
  omega
theorem mk_mem {n : Nat} {l : List (Nat × Nat)} (h : ∀ q ∈ l, q.1 < n ∧ q.2 < n) (a b : Nat) : (mk (pairAt l) l.length b).testBit a = true ↔ (a, b) ∈ l := by
  rw [mk_bit (n := n) l.length (pin_of h) a b]
  constructor
  · rintro ⟨j, hj, h1, h2⟩
    rw [pairAt_get hj] at h1 h2
    have : l[j] = (a, b) := by ext <;> simp only at h1 h2 ⊢ <;> omega
    rw [← this]; exact List.getElem_mem hj
  · intro hm
    obtain ⟨j, hj, e⟩ := List.getElem_of_mem hm
    exact ⟨j, hj, by rw [pairAt_get hj, e], by rw [pairAt_get hj, e]⟩

theorem sub_in {n : Nat} {g : Nat → Nat} {l : List (Nat × Nat)} (hl : ∀ q ∈ l, q ∈ covs g n) : ∀ q ∈ l, q.1 < n ∧ q.2 < n := fun q hq => ⟨(mem_covs.1 (hl q hq)).1, (mem_covs.1 (hl q hq)).2.1⟩
theorem sub_way {n : Nat} {g : Nat → Nat} {l : List (Nat × Nat)} (hn : n ≤ 10) (hg : Sm n n g) (ho : Ord n g) (hl : ∀ q ∈ l, q ∈ covs g n) {a b : Nat} (h : Way (fun a b => (mk (pairAt l) l.length b).testBit a = true) n a b) : b < n ∧ (g b).testBit a = true := by
  refine Way.least (S := fun a b => b < n ∧ (g b).testBit a = true) (n := n) (fun a b h => ?_) (fun a b c hb h1 h2 => ⟨h2.1, ord_tr hn hg ho hb h2.1 h1.2 h2.2⟩) n (Nat.le_refl _) a b h
  have := mem_covs.1 (hl _ ((mk_mem (sub_in hl) a b).1 h))
  exact ⟨this.2.1, this.2.2.1⟩
theorem sub_ord {n : Nat} {g : Nat → Nat} {l : List (Nat × Nat)} (hn : n ≤ 10) (hg : Sm n n g) (ho : Ord n g) (hl : ∀ q ∈ l, q ∈ covs g n) : Ord n (reachOut (mk (pairAt l) l.length) n n) :=
  (reach_ord hn (mk_sm l.length (pin_of (sub_in hl)))).2 fun u hu hw => by
    have := (sub_way hn hg ho hl hw).2
    rw [(ho u hu).1] at this; cases this
theorem sub_mk {n : Nat} {g : Nat → Nat} {l : List (Nat × Nat)} (hn : n ≤ 10) (hg : Sm n n g) (ho : Ord n g) (hl : ∀ q ∈ l, q ∈ covs g n) {c : Int} (h : Mk (n : Int) l.length (pairAt l) c) : c = 0 := by
  rcases h with ⟨_, h⟩ | ⟨m, hm, h10, h⟩
  · exact absurd ⟨by omega, by omega⟩ h
  · obtain rfl : m = n := by omega
    rcases h with ⟨_, h⟩ | ⟨_, ⟨_, h⟩ | ⟨h, _⟩⟩
    · exact absurd (pin_of (sub_in hl)) h
    · exact absurd (sub_ord hn hg ho hl) h
    · exact h
/-- Without the cover (x, y) the closure doesn't come from x to y. -/
theorem sub_not {n : Nat} {g : Nat → Nat} {l : List (Nat × Nat)} (hn : n ≤ 10) (hg : Sm n n g) (ho : Ord n g) (hl : ∀ q ∈ l, q ∈ covs g n) {x y : Nat} (hc : (x, y) ∈ covs g n) (hx : (x, y) ∉ l) : reachOut (mk (pairAt l) l.length) n n y ≠ g y := by
  obtain ⟨h1, h2, h3⟩ := mem_covs.1 hc
  simp only at h1 h2 h3
  intro e
  have hbit : (reachOut (mk (pairAt l) l.length) n n y).testBit x = true := by rw [e]; exact h3.1
  have hw := (reach_way _ n n (Nat.le_refl _) x y h2).1 hbit
  have := Way.least (S := fun a b => (b < n ∧ (g b).testBit a = true) ∧ ¬ (a = x ∧ b = y)) (n := n) (fun a b h => ?_) (fun a b c hb k1 k2 => ⟨⟨k2.1.1, ord_tr hn hg ho hb k2.1.1 k1.1.2 k2.1.2⟩, ?_⟩) n (Nat.le_refl _) x y hw
  · exact this.2 ⟨rfl, rfl⟩
  · have hm := (mk_mem (sub_in hl) a b).1 h
    have hq := mem_covs.1 (hl _ hm)
    exact ⟨⟨hq.2.1, hq.2.2.1⟩, fun hh => by obtain ⟨rfl, rfl⟩ := hh; exact hx hm⟩
  · rintro ⟨rfl, rfl⟩
    exact h3.2 b hb ⟨k1.1.2, k2.1.2⟩
/-- The closure of all covers is the order. -/
theorem all_same {n : Nat} {g : Nat → Nat} (hn : n ≤ 10) (hg : Sm n n g) (ho : Ord n g) {b : Nat} (hb : b < n) : reachOut (mk (pairAt (covs g n)) (covs g n).length) n n b = g b := by
  have hl : ∀ q ∈ covs g n, q ∈ covs g n := fun _ h => h
  refine eq_of_bits (reachOut_sm (mk_sm _ (pin_of (sub_in hl))) n (Nat.le_refl _) b hb) (hg b hb) fun a ha => ?_
  rw [Bool.eq_iff_iff, reach_way _ n n (Nat.le_refl _) a b hb]
  exact ⟨fun h => (sub_way hn hg ho hl h).2, fun h => way_of hn hg ho (fun a b h1 h2 h3 => (mk_mem (sub_in hl) a b).2 (mem_covs.2 ⟨h1, h2, h3⟩)) _ a b ha hb h (Nat.le_refl _)⟩
/-- A list without its k-th. -/
def out (l : List (Nat × Nat)) (k : Nat) : List (Nat × Nat) := l.take k ++ l.drop (k + 1)
theorem out_len {l : List (Nat × Nat)} {k : Nat} (h : k < l.length) : (out l k).length = k + (l.length - (k + 1)) := by simp [out]; omega
theorem out_sub {l : List (Nat × Nat)} {k : Nat} : ∀ q ∈ out l k, q ∈ l := fun q hq => by
  rcases List.mem_append.1 hq with h | h
  · exact List.mem_of_mem_take h
  · exact List.mem_of_mem_drop h
theorem out_not {l : List (Nat × Nat)} (hd : l.Nodup) {k : Nat} (h : k < l.length) : l[k] ∉ out l k := by
  have e : l = l.take k ++ (l[k] :: l.drop (k + 1)) := by rw [← List.drop_eq_getElem_cons h, List.take_append_drop]
  have hd2 := hd
  rw [e, List.nodup_append] at hd2
  obtain ⟨_, h2, h3⟩ := hd2
  intro hq
  rcases List.mem_append.1 hq with h4 | h4
  · exact h3 _ h4 _ List.mem_cons_self rfl
  · exact (List.nodup_cons.1 h2).1 h4

theorem pairVals_len : ∀ l : List (Nat × Nat), (pairVals l).length = l.length * 2
  | [] => rfl
  | _ :: l => by simp [pairVals, pairVals_len l]; omega
theorem pairVals_one : ∀ (l : List (Nat × Nat)) (u : Value), u ∈ pairVals l → u.oneCell' = true
  | [], u, h => by simp [pairVals] at h
  | q :: l, u, h => by
    simp [pairVals] at h
    rcases h with rfl | rfl | h
    · rfl
    · rfl
    · exact pairVals_one l u h
theorem add_flat (b off j : Nat) : Addr.add ⟨b, off, none⟩ j = ⟨b, off + j, none⟩ := by
  cases j <;> simp [Addr.add]
theorem prow_cells {w : World} {b off : Nat} {l : List (Nat × Nat)} (h : PRow w (some ⟨b, off, none⟩) l.length (pairAt l)) : ∀ j u, (pairVals l)[j]? = some u → w.cell? (Addr.add ⟨b, off, none⟩ j) = some u := fun j u hj => by
  have hlt : j < l.length * 2 := by
    rw [← pairVals_len]
    exact (List.getElem?_eq_some_iff.1 hj).1
  obtain ⟨q, hq⟩ : ∃ q, j = q * 2 ∨ j = q * 2 + 1 := ⟨j / 2, by omega⟩
  obtain ⟨b', off', e, h1, h2⟩ := h q (by omega)
  simp at e
  obtain ⟨rfl, rfl⟩ := e
  obtain ⟨p1, p2⟩ := pairVals_at l q (by omega)
  rcases hq with rfl | rfl
  · rw [p1] at hj; cases hj; rw [add_flat]; exact h1
  · rw [p2] at hj; cases hj; rw [add_flat, ← Nat.add_assoc]; exact h2
theorem prow_take {w : World} {b off : Nat} {l : List (Nat × Nat)} {k : Nat} (hk : k ≤ l.length) (h : PRow w (some ⟨b, off, none⟩) l.length (pairAt l)) : PRow w (some ⟨b, off, none⟩) (l.take k).length (pairAt (l.take k)) := fun j hj => by
  have hj' : j < k := by simp at hj; omega
  obtain ⟨b', off', e, h1, h2⟩ := h j (by omega)
  refine ⟨b', off', e, ?_, ?_⟩
  · rw [h1]; simp [pairAt, hj']
  · rw [h2]; simp [pairAt, hj']
theorem prow_drop {w : World} {b off : Nat} {l : List (Nat × Nat)} {k : Nat} (h : PRow w (some ⟨b, off, none⟩) l.length (pairAt l)) : PRow w (some ⟨b, off + k * 2, none⟩) (l.drop k).length (pairAt (l.drop k)) := fun j hj => by
  have hj' : k + j < l.length := by simp at hj; omega
  obtain ⟨b', off', e, h1, h2⟩ := h (k + j) hj'
  simp at e
  obtain ⟨rfl, rfl⟩ := e
  refine ⟨b, off + k * 2, rfl, ?_, ?_⟩
  · rw [show off + k * 2 + j * 2 = off + (k + j) * 2 by omega, h1]; simp [pairAt]
  · rw [show off + k * 2 + j * 2 + 1 = off + (k + j) * 2 + 1 by omega, h2]; simp [pairAt]
end Go.Proofs.Ytipgojoiakbaiaa
