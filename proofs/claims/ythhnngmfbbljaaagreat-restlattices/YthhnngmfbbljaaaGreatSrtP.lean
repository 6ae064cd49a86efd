/-
  What slices.SortFunc does to lists of one length, by slices.Compare. Conditions: at least one list, at most forty; of at most forty numbers each.
-/
import Derived.Test.YthhnngmfbbljaaaGreatSrtL
import Derived.Shelf.SlSortCmp.Whole1
namespace Go.Proofs.YthhnngmfbbljaaaGreat
open Go.RowKit
set_option maxRecDepth 100000

theorem cmpF_lt {f g : Nat → Nat} : ∀ n k, cmpF f g n k < 0 ↔ ∃ t, k ≤ t ∧ t < k + n ∧ f t < g t ∧ ∀ s, k ≤ s → s < t → f s = g s
  | 0, k => by
    simp only [cmpF]
    constructor
    · intro h; omega
    · rintro ⟨t, h1, h2, _⟩; omega
  | n + 1, k => by
    simp only [cmpF]
    by_cases e : f k = g k
    · rw [if_pos e, cmpF_lt n (k + 1)]
      constructor
      · rintro ⟨t, h1, h2, h3, h4⟩
        refine ⟨t, by omega, by omega, h3, fun s hs hst => ?_⟩
        by_cases hk : s = k
        · rw [hk]; exact e
        · exact h4 s (by omega) hst
      · rintro ⟨t, h1, h2, h3, h4⟩
        have : t ≠ k := fun h => by rw [h] at h3; omega
        exact ⟨t, by omega, by omega, h3, fun s hs hst => h4 s (by omega) hst⟩
    · rw [if_neg e]
      constructor
      · intro h
        refine ⟨k, Nat.le_refl _, by omega, ?_, fun s hs hst => by omega⟩
        unfold cmpI at h
        rcases Nat.lt_or_ge (f k) (g k) with h1 | h1
        · exact h1
        · rw [if_neg (by omega)] at h
          split at h <;> omega
      · rintro ⟨t, h1, h2, h3, h4⟩
        have : t = k := by
          rcases Nat.lt_or_ge k t with h5 | h5
          · exact absurd (h4 k (Nat.le_refl _) h5) e
          · omega
        subst this
        simp [cmpI, h3]
theorem cmp_tri (f g : Nat → Nat) (q : Nat) : cmpF f g q 0 < 0 ∨ cmpF g f q 0 < 0 ∨ ∀ i, i < q → f i = g i := by
  have key : ∀ n, n ≤ q → (∃ t, t < n ∧ f t ≠ g t ∧ ∀ s, s < t → f s = g s) ∨ ∀ i, i < n → f i = g i := fun n => by
    induction n with
    | zero => exact fun _ => .inr (fun i hi => absurd hi (Nat.not_lt_zero _))
    | succ n ih =>
      intro hn
      rcases ih (by omega) with ⟨t, h1, h2, h3⟩ | h
      · exact .inl ⟨t, by omega, h2, h3⟩
      · by_cases e : f n = g n
        · exact .inr (fun i hi => by
            by_cases hh : i = n
            · rw [hh]; exact e
            · exact h i (by omega))
        · exact .inl ⟨n, by omega, e, h⟩
  rcases key q (Nat.le_refl _) with ⟨t, h1, h2, h3⟩ | h
  · rcases Nat.lt_or_ge (f t) (g t) with h4 | h4
    · exact .inl ((cmpF_lt q 0).2 ⟨t, Nat.zero_le _, by omega, h4, fun s _ hs => h3 s hs⟩)
    · exact .inr (.inl ((cmpF_lt q 0).2 ⟨t, Nat.zero_le _, by omega, by omega, fun s _ hs => (h3 s hs).symm⟩))
  · exact .inr (.inr h)
theorem cmp_trans {f g h : Nat → Nat} {q : Nat} (h1 : cmpF f g q 0 < 0) (h2 : cmpF g h q 0 < 0) : cmpF f h q 0 < 0 := by
  obtain ⟨t, _, a2, a3, a4⟩ := (cmpF_lt q 0).1 h1
  obtain ⟨u, _, b2, b3, b4⟩ := (cmpF_lt q 0).1 h2
  refine (cmpF_lt q 0).2 ?_
  rcases Nat.lt_trichotomy t u with hh | rfl | hh
  · exact ⟨t, Nat.zero_le _, a2, by rw [← b4 t (Nat.zero_le _) hh]; exact a3, fun s hs hst => (a4 s hs hst).trans (b4 s hs (by omega))⟩
  · exact ⟨t, Nat.zero_le _, a2, Nat.lt_trans a3 b3, fun s hs hst => (a4 s hs hst).trans (b4 s hs hst)⟩
  · exact ⟨u, Nat.zero_le _, b2, by rw [a4 u (Nat.zero_le _) hh]; exact b3, fun s hs hst => (a4 s hs (by omega)).trans (b4 s hs hst)⟩
theorem cmp_irr (f : Nat → Nat) (q : Nat) : ¬ cmpF f f q 0 < 0 := fun h => by
  obtain ⟨t, _, _, h3, _⟩ := (cmpF_lt q 0).1 h
  exact Nat.lt_irrefl _ h3
theorem cmp_congr {f g f' g' : Nat → Nat} {q : Nat} (e1 : ∀ i, i < q → f i = f' i) (e2 : ∀ i, i < q → g i = g' i) (h : cmpF f g q 0 < 0) : cmpF f' g' q 0 < 0 := by
  obtain ⟨t, a1, a2, a3, a4⟩ := (cmpF_lt q 0).1 h
  exact (cmpF_lt q 0).2 ⟨t, a1, a2, by rw [← e1 t (by omega), ← e2 t (by omega)]; exact a3, fun s hs hst => by rw [← e1 s (by omega), ← e2 s (by omega)]; exact a4 s hs hst⟩
/-- The place of a list, or the first place. -/
def cl (n j : Nat) : Nat := if j < n then j else 0
theorem cl_lt {n j : Nat} (h : 0 < n) : cl n j < n := by unfold cl; split <;> omega
theorem cl_in {n j : Nat} (h : j < n) : cl n j = j := if_pos h
def cfG (G : Nat → Nat → Nat) (n q : Nat) (x y : Nat) : Int := cmpF (G (cl n x)) (G (cl n y)) q 0
theorem swoG (G : Nat → Nat → Nat) (n q : Nat) : Go.Sort.SWO (ltOf (cfG G n q)) where
  irrefl x := by simp only [ltOf, cfG]; exact decide_eq_false (cmp_irr _ _)
  trans x y z h1 h2 := by
    simp only [ltOf, cfG] at *
    exact decide_eq_true (cmp_trans (of_decide_eq_true h1) (of_decide_eq_true h2))
  ntrans x y z h1 h2 := by
    simp only [ltOf, cfG] at *
    have n1 := of_decide_eq_false h1
    have n2 := of_decide_eq_false h2
    refine decide_eq_false fun h => ?_
    rcases cmp_tri (G (cl n x)) (G (cl n y)) q with a | a | a
    · exact n1 a
    · rcases cmp_tri (G (cl n y)) (G (cl n z)) q with b | b | b
      · exact n2 b
      · exact cmp_irr _ _ (cmp_trans (cmp_trans b a) h)
      · exact n2 (cmp_trans a h)
    · exact n2 (cmp_congr a (fun _ _ => rfl) h)
def encR (r : Nat → Nat) (n q : Nat) (x : Nat) : Value := .slice (some ⟨r (cl n x), 0, none⟩) q q
theorem sw_grown (enc : Nat → Value) (w : World) (blk off m : Nat) (dk : Array Nat) (os : Array Obj) : w.grownBy (sortWorld enc w blk off m dk os) (some blk) := by
  refine ⟨rfl, rfl, rfl, ?_, fun k hk hne => ?_⟩
  · simp [sortWorld, Go.Sort.grow, Go.Sort.putRow, Go.Sort.mapBlock, Go.Sort.ahead]
  · have hkb : ¬ blk = k := fun e => hne (by rw [e])
    simp [sortWorld, Go.Sort.grow, Go.Sort.putRow, Go.Sort.mapBlock, Go.Sort.ahead, Array.getElem?_append, hk, Array.getElem_modify, hkb]
theorem sw_block (enc : Nat → Value) (w : World) (blk off m : Nat) (dk : Array Nat) (os : Array Obj) {cur : Array Value} {t : TypeId} {fr : Nat × Nat} (h : w.heap[blk]? = some (.cells cur t fr)) : (sortWorld enc w blk off m dk os).heap[blk]? = some (.cells (Go.Sort.putCells enc off dk cur) t fr) := by
  have hb : blk < w.heap.size := (Array.getElem?_eq_some_iff.1 h).1
  have h' := (Array.getElem?_eq_some_iff.1 h).2
  simp [sortWorld, Go.Sort.grow, Go.Sort.putRow, Go.Sort.mapBlock, Go.Sort.ahead, Array.getElem?_append, hb, Array.getElem_modify, h', Go.Sort.onCells]
/-- The places, sorted. -/
structure Prm (n : Nat) (p : Nat → Nat) : Prop where
  lt : ∀ j, j < n → p j < n
  all : ∀ a, a < n → ∃ j, j < n ∧ p j = a
  ne : ∀ j k, j < k → k < n → p j ≠ p k
theorem prm_of {n : Nat} {d' : Array Nat} (h : Go.Sort.PermIn 0 n (List.range n).toArray d') : d'.size = n ∧ Prm n (fun j => d'[j]!) := by
  obtain ⟨h1, _, h3⟩ := h
  have hs : d'.size = n := by simpa using h1
  have e1 : (d'.extract 0 n).toList = d'.toList := by rw [← hs]; simp
  have e2 : ((List.range n).toArray.extract 0 n).toList = List.range n := by simp
  rw [e1, e2] at h3
  have at' : ∀ j, (hj : j < n) → d'[j]! = d'.toList[j]'(by simpa [hs] using hj) := fun j hj => by
    rw [getElem!_pos d' j (by omega)]; simp
  refine ⟨hs, fun j hj => ?_, fun a ha => ?_, fun j k hjk hk => ?_⟩
  · show d'[j]! < n
    rw [at' j hj]
    exact List.mem_range.1 (h3.mem_iff.1 (List.getElem_mem _))
  · obtain ⟨j, hj, e⟩ := List.getElem_of_mem (h3.mem_iff.2 (List.mem_range.2 ha))
    have hj' : j < n := by simpa [hs] using hj
    exact ⟨j, hj', by show d'[j]! = a; rw [at' j hj']; exact e⟩
  · show d'[j]! ≠ d'[k]!
    rw [at' j (by omega), at' k hk]
    have hnd : d'.toList.Nodup := h3.nodup_iff.2 List.nodup_range
    intro e
    have := (List.getElem_inj hnd).1 e
    omega
theorem sort_any {base q n gv cv : Nat} {r : Nat → Nat} {G : Nat → Nat → Nat} (w : World) (h40 : q ≤ 40) (h0 : 0 < n) (hn : n ≤ 40) (h : CR w base (.slice (some ⟨gv, 0, none⟩) n cv) r n q G) :
    Calls Tryz.prog 63 #[.slice (some ⟨gv, 0, none⟩) n cv, .func (.func 64) #[] #[]] w fun e w' => e = .returned (.tuple #[]) ∧ ∃ p, Prm n p ∧ CR w' base (.slice (some ⟨gv, 0, none⟩) n cv) (fun j => r (p j)) n q (fun j => G (p j)) ∧ (∀ j k, j < k → k < n → ¬ cmpF (G (p k)) (G (p j)) q 0 < 0) ∧ w.grownBy w' (some gv) := by
  have hg : ∀ j, j < n → r j ≠ gv := fun j hj e => (h.lt j hj).2.2 (by rw [e]; rfl)
  have eg : ∀ args w, (callFunc 64 args).run Tryz.prog w = .ok (.enter 64 args) w := enters_of Tryz.func64 (by kernel_rfl) rfl
  have hcmp : CmpReads Tryz.prog 64 #[] (encR r n q) (cfG G n q) gv 0 ((List.range n).toArray).size w := fun m os dk _ x y => by
    have hgr := sw_grown (encR r n q) w gv 0 m dk os
    have hx := cl_lt (j := x) h0
    have hy := cl_lt (j := y) h0
    refine (compare_any q _ _ q q (G (cl n x)) (G (cl n y)) _ h40 ((h.rows _ hx).far hgr (fun e => hg _ hx (Option.some.inj e))).row ((h.rows _ hy).far hgr (fun e => hg _ hy (Option.some.inj e))).row).mono ?_
    rintro e w' ⟨rfl, rfl⟩
    exact ⟨rfl, 0, rfl⟩
  obtain ⟨hlen, hcase⟩ := h.own
  have hform : ∃ cur, w.heap[gv]? = some (.cells cur 22 (0, 0)) ∧ base ≤ gv ∧ n ≤ cv ∧ cv ≤ maxLen ∧ cur.size = cv * 1 ∧ cur.toList.take (n * 1) = slv r q n := by
    rcases hcase with ⟨e, _⟩ | ⟨g, cap, cur, e, a1, a2, a3, a4, a5, a6⟩
    · cases e
    · simp only [Value.slice.injEq, Option.some.injEq, Addr.mk.injEq] at e
      obtain ⟨⟨rfl, _, _⟩, _, rfl⟩ := e
      exact ⟨cur, a2, a1, a3, a4, a5, a6⟩
  obtain ⟨cur, b1, b2, b3, b4, b5, b6⟩ := hform
  have hH : Go.Sort.Holds (encR r n q) w gv 0 (List.range n).toArray := fun j hj => by
    have hj' : j < n := by simpa using hj
    have ha := h.own.cellAt j (by omega)
    refine ⟨?_, ?_⟩
    · rw [Nat.zero_add, ha]
      simp [slv, encR, hj', cl_in hj']
    · simp [World.frozen?, b1]
  have hcon := Any.slices_SortFunc Tryz.sortL (encR r n q) (fun _ => rfl) (cfG G n q) (swoG G n q) 64 #[] gv 0 cv (List.range n).toArray w eg hcmp.lays hH ((Array.getElem?_eq_some_iff.1 b1).1) (by simp; omega)
  change Calls Tryz.prog 63 _ _ _ at hcon
  rw [show ((List.range n).toArray).size = n by simp] at hcon
  refine hcon.mono ?_
  rintro e w' ⟨rfl, d', m, os, hp, hs, rfl⟩
  obtain ⟨hsz, hprm⟩ := prm_of hp
  have hgr := sw_grown (encR r n q) w gv 0 m d' os
  refine ⟨rfl, fun j => d'[j]!, hprm, ⟨⟨by simp [slv], .inr ⟨gv, cv, _, rfl, b2, sw_block (encR r n q) w gv 0 m d' os b1, b3, b4, ?_, ?_⟩⟩, fun j hj => (h.rows _ (hprm.lt j hj)).far hgr (fun e => hg _ (hprm.lt j hj) (Option.some.inj e)), fun j hj => ?_⟩, fun j k hjk hk => ?_, hgr⟩
  · simp [Go.Sort.putCells, b5]
  · apply List.ext_getElem?
    intro j
    by_cases hj : j < n
    · have hjc : j < cur.size := by omega
      have hl := hprm.lt j hj
      have hl' : d'[j]'(by omega) < n := by have h2 : d'[j]! < n := hl; rwa [getElem!_pos d' j (by omega)] at h2
      simp [Go.Sort.putCells, slv, hj, hjc, hsz, encR, cl_in hl']
    · simp [slv, hj]; omega
  · have := h.lt _ (hprm.lt j hj)
    exact ⟨this.1, Nat.lt_of_lt_of_le this.2.1 hgr.size, this.2.2⟩
  · have := hs j k (Nat.zero_le _) hjk hk
    have h2 := of_decide_eq_false this
    simp only [cfG] at h2
    rw [cl_in (hprm.lt k hk), cl_in (hprm.lt j (by omega))] at h2
    exact h2
end Go.Proofs.YthhnngmfbbljaaaGreat
