/-
  Right terms: how many points, which, and that nothing is wrong with one. Plain facts: no Go text here. Conditions: as each theorem says.
-/
import Derived.Test.YtjhpegjcknaioaaDoorTmF
import Derived.Test.YtjhpegjcknaioaaDoorSplC
namespace Go.Proofs.YtjhpegjcknaioaaDoor

theorem pcn_or {a b : Nat} (h : ∀ x, a.testBit x = true → b.testBit x = true → False) : ∀ k, pcn (a ||| b) k = pcn a k + pcn b k
  | 0 => rfl
  | k + 1 => by
    have ih := pcn_or h k
    have e : ∀ s : Nat, pcn s (k + 1) = if s.testBit k = true then pcn s k + 1 else pcn s k := fun _ => rfl
    rw [e, e, e, Nat.testBit_or]
    cases h1 : a.testBit k <;> cases h2 : b.testBit k
    · simpa using ih
    · simp; omega
    · simp; omega
    · exact (h k h1 h2).elim
theorem pc_or {a b : Nat} (h : ∀ x, a.testBit x = true → b.testBit x = true → False) : pc (a ||| b) = pc a + pc b := pcn_or h 10
theorem pc_pw : ∀ x : Nat, x < 10 → pc (pw x) = 1 := by decide +kernel
theorem pc_full : ∀ n : Nat, n < 11 → pc (pw n - 1) = n := by decide +kernel
theorem Ok.apart {L : Nat → Nat → Bool} {k x : Int} {n : Nat} {kid : Nat → TT} (h : Ok L (.mk k x n kid)) (hk : k ≠ 1) {i j a : Nat} (hij : i ≠ j) (hi : i < n) (hj : j < n) (h1 : (st (kid i)).testBit a = true) (h2 : (st (kid j)).testBit a = true) : False := by
  rcases h with ⟨e, _⟩ | ⟨_, _, _, _, h5⟩
  · exact hk e
  · rcases Nat.lt_or_ge i j with q | q
    · exact (h5 i j q hj a a h1 h2).1 rfl
    · exact (h5 j i (by omega) hi a a h2 h1).1 rfl
theorem Ok.kids {L : Nat → Nat → Bool} {k x : Int} {n : Nat} {kid : Nat → TT} (h : Ok L (.mk k x n kid)) (hk : k ≠ 1) : (k = 2 ∨ k = 3) ∧ 2 ≤ n ∧ x = 0 ∧ ∀ i, i < n → Ok L (kid i) := by
  rcases h with ⟨e, _⟩ | ⟨h1, h2, h3, h4, _⟩
  · exact absurd e hk
  · exact ⟨h1, h2, h3, h4⟩
theorem Ok.cnt {L : Nat → Nat → Bool} : ∀ {T : TT}, Ok L T → np T = pc (st T) := by
  intro T
  induction T using TT.ind with
  | leaf => exact fun h => h.elim
  | mk k x n kid IHK =>
    intro h
    rw [np_eq, st_eq]
    by_cases hk : k = 1
    · subst hk
      rcases h with ⟨_, h2, h3, h4⟩ | ⟨h1, _⟩
      · subst h2; rw [if_pos rfl, pc_pw _ (by omega)]; rfl
      · omega
    · obtain ⟨_, _, _, h4⟩ := h.kids hk
      rw [if_neg hk]
      have hK : ∀ i, i ≤ n → npK k kid i = pc (stK kid i) := fun i => by
        induction i with
        | zero => intro _; show (if k = 1 then 1 else 0) = pc 0; rw [if_neg hk]; decide
        | succ i ih =>
          intro hi
          rw [npK_succ, stK_succ, pc_or, ih (by omega), (IHK _ (h4 i (by omega)))]
          intro a h1 h2
          obtain ⟨j, hj, hb⟩ := (stK_bit kid a i).1 h1
          exact h.apart hk (by omega) (by omega) (by omega) hb h2
      exact hK n (Nat.le_refl _)
theorem Ok.mem {L : Nat → Nat → Bool} : ∀ {T : TT}, Ok L T → ∀ v : Int, v ∈ pl T ↔ 0 ≤ v ∧ (st T).testBit v.toNat = true := by
  intro T
  induction T using TT.ind with
  | leaf => exact fun h => h.elim
  | mk k x n kid IHK =>
    intro h
    intro v
    rw [pl_eq, st_eq]
    by_cases hk : k = 1
    · subst hk
      rcases h with ⟨_, h2, h3, h4⟩ | ⟨h1, _⟩
      · rw [if_pos rfl, if_pos rfl, pw_bit]
        simp only [List.mem_singleton, decide_eq_true_eq]
        constructor
        · rintro rfl; exact ⟨h3, rfl⟩
        · rintro ⟨h5, h6⟩; omega
      · omega
    · obtain ⟨_, _, _, h4⟩ := h.kids hk
      rw [if_neg hk, if_neg hk]
      have hK : ∀ i, i ≤ n → (v ∈ plK kid i ↔ 0 ≤ v ∧ (stK kid i).testBit v.toNat = true) := fun i => by
        induction i with
        | zero =>
          intro _
          have e1 : plK kid 0 = [] := rfl
          have e2 : stK kid 0 = 0 := rfl
          rw [e1, e2]; simp
        | succ i ih =>
          intro hi
          rw [plK_succ, stK_succ, List.mem_append, ih (by omega), (IHK _ (h4 i (by omega))) v, Nat.testBit_or, Bool.or_eq_true]
          constructor
          · rintro (⟨a, b⟩ | ⟨a, b⟩)
            · exact ⟨a, .inl b⟩
            · exact ⟨a, .inr b⟩
          · rintro ⟨a, b | b⟩
            · exact .inl ⟨a, b⟩
            · exact .inr ⟨a, b⟩
      exact hK n (Nat.le_refl _)
theorem Ok.nodup {L : Nat → Nat → Bool} : ∀ {T : TT}, Ok L T → (pl T).Nodup := by
  intro T
  induction T using TT.ind with
  | leaf => exact fun h => h.elim
  | mk k x n kid IHK =>
    intro h
    rw [pl_eq]
    by_cases hk : k = 1
    · rw [if_pos hk]; simp
    · obtain ⟨_, _, _, h4⟩ := h.kids hk
      rw [if_neg hk]
      have hM : ∀ i, i ≤ n → ∀ v, v ∈ plK kid i → ∃ j, j < i ∧ v ∈ pl (kid j) := fun i => by
        induction i with
        | zero => intro _ v hv; exact absurd hv (List.not_mem_nil)
        | succ i ih =>
          intro hi v hv
          rw [plK_succ, List.mem_append] at hv
          rcases hv with hv | hv
          · obtain ⟨j, hj, e⟩ := ih (by omega) v hv
            exact ⟨j, by omega, e⟩
          · exact ⟨i, by omega, hv⟩
      have hK : ∀ i, i ≤ n → (plK kid i).Nodup := fun i => by
        induction i with
        | zero => intro _; exact List.nodup_nil
        | succ i ih =>
          intro hi
          rw [plK_succ, List.nodup_append]
          refine ⟨ih (by omega), (IHK _ (h4 i (by omega))), fun a ha b hb e => ?_⟩
          subst e
          obtain ⟨j, hj, hb'⟩ := hM i (by omega) a ha
          exact h.apart hk (i := j) (j := i) (by omega) (by omega) (by omega) (((h4 j (by omega)).mem a).1 hb').2 (((h4 i (by omega)).mem a).1 hb).2
      exact hK n (Nat.le_refl _)
theorem Gd.size : ∀ {T : TT}, Gd T → sz T + 1 ≤ 2 * np T := by
  intro T
  induction T using TT.ind with
  | leaf => exact fun h => h.elim
  | mk k x n kid IHK =>
    intro h
    rw [sz_eq, np_eq]
    rcases h with ⟨h, h2⟩ | ⟨h1, h2, _, h4⟩
    · subst h2; subst h; exact Nat.le_refl 2
    · have hK : ∀ i, i ≤ n → szK kid i + i ≤ 1 + 2 * npK k kid i := fun i => by
        induction i with
        | zero => intro _; show 1 + 0 ≤ _; omega
        | succ i ih => intro hi; rw [szK_succ, npK_succ]; have := ih (by omega); have := (IHK _ (h4 i (by omega))); omega
      have := hK n (Nat.le_refl _)
      omega
/-- A right term of all points of n: nothing is wrong with it. -/
theorem Ok.good {L : Nat → Nat → Bool} {T : TT} {n : Nat} (h : Ok L T) (hn : n ≤ 10) (hs : st T = pw n - 1) : GdT T ∧ np T = n := by
  have e := h.cnt
  rw [hs, pc_full n (by omega)] at e
  have hg := h.gd
  have hz := hg.size
  refine ⟨⟨⟨by omega, by omega⟩, hg, ?_⟩, e⟩
  have el : (pl T).length = n := by rw [pl_np hg, e]
  have hm : ∀ j, j < n → nthI (pl T) j ∈ pl T := fun j hj => by
    unfold nthI
    rw [List.getD_eq_getElem?_getD, List.getElem?_eq_getElem (by omega)]
    exact List.getElem_mem _
  rw [el]
  intro j hj
  have h1 := (h.mem _).1 (hm j hj)
  have hb : (nthI (pl T) j).toNat < n := by
    have := h1.2
    rw [hs, full_bit] at this
    simpa using this
  refine ⟨⟨h1.1, by omega⟩, fun l hl k => ?_⟩
  have hnd := h.nodup
  unfold nthI at k
  rw [List.getD_eq_getElem?_getD, List.getD_eq_getElem?_getD, List.getElem?_eq_getElem (by omega), List.getElem?_eq_getElem (by omega)] at k
  have k' : (pl T)[l]'(by omega) = (pl T)[j]'(by omega) := k
  exact List.pairwise_iff_getElem.1 hnd l j (by omega) (by omega) hl k'
/-- A right term of one point is that point. -/
theorem Ok.point {L : Nat → Nat → Bool} {T : TT} (h : Ok L T) (h1 : np T = 1) : ∃ x kid, T = .mk 1 x 0 kid := by
  induction T using TT.ind with
  | leaf => exact h.elim
  | mk k x n kid _ =>
    by_cases hk : k = 1
    · subst hk
      rcases h with ⟨_, h2, _⟩ | ⟨h2, _⟩
      · subst h2; exact ⟨x, kid, rfl⟩
      · omega
    · obtain ⟨_, h2, _, h4⟩ := h.kids hk
      have hp : ∀ i, i < n → 1 ≤ np (kid i) := fun i hi => by
        obtain ⟨a, ha⟩ := (h4 i hi).has
        rw [(h4 i hi).cnt]
        exact pcn_pos ha 10 (bit_of_lt (n := 10) (h4 i hi).lt ha)
      have hK : ∀ i, i ≤ n → i ≤ npK k kid i := fun i => by
        induction i with
        | zero => intro _; exact Nat.zero_le _
        | succ i ih => intro hi; rw [npK_succ]; have := ih (by omega); have := hp i (by omega); omega
      have := hK n (Nat.le_refl _)
      rw [np_eq] at h1
      omega
/-- The term of two points one above the other. -/
theorem Ok.two {L : Nat → Nat → Bool} {T : TT} (h : Ok L T) (hs : st T = 3) (h01 : L 0 1 = true) : ∃ kid, T = .mk 3 0 2 kid ∧ cr T = 1 := by
  have e := h.cnt
  rw [hs, show pc 3 = 2 by decide] at e
  induction T using TT.ind with
  | leaf => exact h.elim
  | mk k x n kid _ =>
    by_cases hk : k = 1
    · exfalso
      subst hk
      rcases h with ⟨_, h2, _⟩ | ⟨h2, _⟩
      · subst h2; exact absurd (show (1 : Nat) = 2 from e) (by decide)
      · omega
    · obtain ⟨h1, h2, h3, h4⟩ := h.kids hk
      have hp : ∀ i, i < n → 1 ≤ np (kid i) := fun i hi => by
        obtain ⟨a, ha⟩ := (h4 i hi).has
        rw [(h4 i hi).cnt]
        exact pcn_pos ha 10 (bit_of_lt (n := 10) (h4 i hi).lt ha)
      have hK : ∀ i, i ≤ n → i ≤ npK k kid i := fun i => by
        induction i with
        | zero => intro _; exact Nat.zero_le _
        | succ i ih => intro hi; rw [npK_succ]; have := ih (by omega); have := hp i (by omega); omega
      have hn := hK n (Nat.le_refl _)
      rw [np_eq] at e
      obtain rfl : n = 2 := by omega
      have e1 := npK_succ k kid 1
      have e0 := npK_succ k kid 0
      have p0 := hp 0 (by omega)
      have p1 := hp 1 (by omega)
      have e2 : npK k kid 2 = npK k kid 1 + np (kid 1) := e1
      have e3 : npK k kid 1 = npK k kid 0 + np (kid 0) := e0
      have n0 : npK k kid 0 = 0 := if_neg hk
      obtain ⟨x0, d0, q0⟩ := (h4 0 (by omega)).point (by omega)
      obtain ⟨x1, d1, q1⟩ := (h4 1 (by omega)).point (by omega)
      have hk3 : k = 3 := by
        rcases h1 with h1 | h1
        · exfalso
          rw [st_eq, if_neg hk] at hs
          have b0 : (stK kid 2).testBit 0 = true := by rw [hs]; decide
          have b1 : (stK kid 2).testBit 1 = true := by rw [hs]; decide
          obtain ⟨i, hi, hbi⟩ := (stK_bit kid 0 2).1 b0
          obtain ⟨j, hj, hbj⟩ := (stK_bit kid 1 2).1 b1
          have hij : i ≠ j := fun q => by
            subst q
            have hh : ∀ m, m < 2 → ∃ x d, kid m = .mk 1 x 0 d := fun m hm => by
              rcases (by omega : m = 0 ∨ m = 1) with rfl | rfl
              · exact ⟨x0, d0, q0⟩
              · exact ⟨x1, d1, q1⟩
            obtain ⟨y, d, qq⟩ := hh i hi
            rw [qq, st_eq, if_pos rfl, pw_bit] at hbi hbj
            have := of_decide_eq_true hbi
            have := of_decide_eq_true hbj
            omega
          rcases h with ⟨q, _⟩ | ⟨_, _, _, _, h5⟩
          · exact hk q
          · rcases Nat.lt_or_ge i j with q | q
            · have := (h5 i j q hj 0 1 hbi hbj).2.1 h1; rw [h01] at this; cases this
            · have := (h5 j i (by omega) hi 1 0 hbj hbi).2.2.2; rw [h01] at this; cases this
        · exact h1
      subst hk3
      subst h3
      refine ⟨kid, rfl, ?_⟩
      rw [cr_eq, if_neg (by decide), crK_succ, crK_succ, q0, q1]
      simp [cr, crK, fld]
end Go.Proofs.YtjhpegjcknaioaaDoor
