/-
  Labels that go from point to point, the least one winning: in the end the pieces. Plain facts: no Go text here. Conditions: as each theorem says.
-/
import Derived.Test.YtggngpnenbjidaaDoorPieQ
import Derived.Test.YtggngpnenbjidaaDoorTurM
namespace Go.Proofs.YtggngpnenbjidaaDoor

theorem hld_bit {g : Nat → Nat} {n x k : Nat} : (hld g n x).testBit k = true ↔ (g x).testBit k = true ∨ (k < n ∧ (g k).testBit x = true) := by
  unfold hld
  rw [Nat.testBit_or, Bool.or_eq_true, trn_bit, Bool.and_eq_true, decide_eq_true_iff]
theorem hld_lt {g : Nat → Nat} {n x : Nat} (hg : ∀ k, k < n → g k < pw n) (hx : x < n) : hld g n x < pw n := Nat.or_lt_two_pow (hg x hx) (trn_lt g n x)
theorem full_lt (n : Nat) : pw n - 1 < pw n := by have := pw_pos n; omega
/-- How many points a set has. -/
def siz (P n : Nat) : Nat := cntT (fun i => P.testBit i) n
theorem siz_more {P P' n x : Nat} (h : Sub P P') (hx : x < n) (h1 : P.testBit x = false) (h2 : P'.testBit x = true) : siz P n + 1 ≤ siz P' n := by
  unfold siz
  rw [← cntT_put (P := fun i => P.testBit i) h1 n hx]
  refine cntT_sub n fun y _ hy => ?_
  rcases putB_iff.1 hy with h3 | rfl
  · exact h y h3
  · exact h2
theorem sub_diff {P P' n : Nat} (hP : P < pw n) (hP' : P' < pw n) (h : Sub P P') (hne : P' ≠ P) : ∃ x, x < n ∧ P.testBit x = false ∧ P'.testBit x = true := by
  apply Classical.byContradiction
  intro hno
  apply hne
  refine Sub.anti hP' hP (fun i hi => ?_) h
  cases e : P.testBit i
  · exact absurd ⟨i, bit_of_lt hP' hi, e, hi⟩ hno
  · rfl
theorem itr_size {h : Nat → Nat} {S n p : Nat} (hn : n ≤ 10) (hS : S < pw n) (hp : p < n) : ∀ k, (∀ j, j < k → itr h S p (j + 1) ≠ itr h S p j) → k + 1 ≤ siz (itr h S p k) n
  | 0, _ => by
    have e : siz (itr h S p 0) n = cntT (fun i => (pw p).testBit i) n := rfl
    have h1 := cntT_put (P := fun _ => false) (s := p) rfl n hp
    have h2 : cntT (fun i => (pw p).testBit i) n = cntT (putB (fun _ => false) p) n := cntT_congr n fun y _ => by rw [pw_bit]; simp [putB]; exact ⟨fun h => h.symm, fun h => h.symm⟩
    rw [e, h2, h1]; omega
  | k + 1, hk => by
    have ih := itr_size hn hS hp k (fun j hj => hk j (by omega))
    obtain ⟨x, hx, h1, h2⟩ := sub_diff (itr_lt hS hp k) (itr_lt hS hp (k + 1)) (itr_sub hn hS hp k) (hk k (by omega))
    have := siz_more (itr_sub hn hS hp k) hx h1 h2
    omega
/-- Behind as many steps as there are points nothing is added any more. -/
theorem itr_fix {h : Nat → Nat} {S n p : Nat} (hn : n ≤ 10) (hS : S < pw n) (hp : p < n) : Pc h S p (itr h S p n) := by
  have hex : ∃ j, j < n ∧ itr h S p (j + 1) = itr h S p j := by
    apply Classical.byContradiction
    intro hno
    have h1 := itr_size hn hS hp n fun j hj e => hno ⟨j, hj, e⟩
    have h2 : siz (itr h S p n) n ≤ n := cntT_le _ n
    omega
  obtain ⟨j, hj, e⟩ := hex
  obtain ⟨d, rfl⟩ := Nat.exists_eq_add_of_le (Nat.le_of_lt hj)
  exact ⟨j, itr_stay e d, e⟩
/-- Labels so far: each is that of a point it hangs together with, and not greater. -/
def LInv (g : Nat → Nat) (n : Nat) (at_ : Nat → Nat) : Prop := ∀ k, k < n → at_ k ≤ k ∧ Cn (hld g n) (pw n - 1) (at_ k) k
/-- Behind r rounds: no label is greater than what is r steps away. -/
def LRnd (g : Nat → Nat) (n : Nat) (at_ : Nat → Nat) (r : Nat) : Prop := ∀ j k, j < n → k < n → (itr (hld g n) (pw n - 1) j r).testBit k = true → at_ k ≤ j
/-- Within a round, behind the pairs ahead of a and b. -/
def LPrg (g : Nat → Nat) (n : Nat) (at0 at_ : Nat → Nat) (a b : Nat) : Prop :=
  (∀ k, k < n → at_ k ≤ at0 k) ∧ ∀ x y, x < n → y < n → (x < a ∨ (x = a ∧ y < b)) → (g y).testBit x = true → at_ y ≤ at0 x ∧ at_ x ≤ at0 y
theorem LInv.start (g : Nat → Nat) (n : Nat) : LInv g n (fun k => k) := fun _ _ => ⟨Nat.le_refl _, Cn.self _ _ _⟩
theorem LRnd.start (g : Nat → Nat) (n : Nat) : LRnd g n (fun k => k) 0 := fun _ _ _ _ h => by
  unfold itr at h
  rw [pw_bit] at h
  exact Nat.le_of_eq (of_decide_eq_true h).symm
theorem LPrg.start (g : Nat → Nat) (n : Nat) (at0 : Nat → Nat) : LPrg g n at0 at0 0 0 := ⟨fun _ _ => Nat.le_refl _, fun x y _ _ h => by omega⟩
theorem LPrg.row {g : Nat → Nat} {n : Nat} {at0 at_ : Nat → Nat} {a : Nat} (h : LPrg g n at0 at_ a n) : LPrg g n at0 at_ (a + 1) 0 := ⟨h.1, fun x y hx hy k => h.2 x y hx hy (by omega)⟩
theorem LPrg.skip {g : Nat → Nat} {n : Nat} {at0 at_ : Nat → Nat} {a b : Nat} (h : LPrg g n at0 at_ a b) (hno : (g b).testBit a = false) : LPrg g n at0 at_ a (b + 1) := ⟨h.1, fun x y hx hy k e => by
  by_cases hxy : x = a ∧ y = b
  · obtain ⟨rfl, rfl⟩ := hxy
    rw [hno] at e; cases e
  · exact h.2 x y hx hy (by omega) e⟩
theorem LPrg.less {g : Nat → Nat} {n : Nat} {at0 at_ at2 : Nat → Nat} {a b : Nat} (h : LPrg g n at0 at_ a b) (ha : a < n) (hb : b < n) (hle : ∀ k, k < n → at2 k ≤ at_ k) (h1 : at2 b ≤ at_ a) (h2 : at2 a ≤ at_ b) : LPrg g n at0 at2 a (b + 1) :=
  ⟨fun k hk => Nat.le_trans (hle k hk) (h.1 k hk), fun x y hx hy k e => by
    by_cases hxy : x = a ∧ y = b
    · obtain ⟨rfl, rfl⟩ := hxy
      exact ⟨Nat.le_trans h1 (h.1 x hx), Nat.le_trans h2 (h.1 y hy)⟩
    · obtain ⟨q1, q2⟩ := h.2 x y hx hy (by omega) e
      exact ⟨Nat.le_trans (hle y hy) q1, Nat.le_trans (hle x hx) q2⟩⟩
theorem cn_edge {g : Nat → Nat} {n j a b : Nat} (hb : b < n) (c : Cn (hld g n) (pw n - 1) j a) (e : (hld g n a).testBit b = true) : Cn (hld g n) (pw n - 1) j b :=
  c.next e (by rw [full_bit]; exact decide_eq_true hb)
theorem upd_le {f : Nat → Nat} {i v : Nat} (h : v ≤ f i) (k : Nat) : upd f i v k ≤ f k := by
  by_cases e : k = i
  · subst e; rw [upd_same]; exact h
  · rw [upd_other _ _ _ _ (by omega)]; exact Nat.le_refl _
theorem LInv.toB {g : Nat → Nat} {n : Nat} {at_ : Nat → Nat} {a b : Nat} (h : LInv g n at_) (ha : a < n) (hb : b < n) (e : (g b).testBit a = true) (hlt : at_ a < at_ b) : LInv g n (upd at_ b (at_ a)) := fun k hk => by
  by_cases ek : k = b
  · subst ek
    rw [upd_same]
    exact ⟨by have := (h k hk).1; omega, cn_edge hk (h a ha).2 (hld_bit.2 (.inr ⟨hk, e⟩))⟩
  · rw [upd_other _ _ _ _ (by omega)]; exact h k hk
theorem LInv.toA {g : Nat → Nat} {n : Nat} {at_ : Nat → Nat} {a b : Nat} (h : LInv g n at_) (ha : a < n) (hb : b < n) (e : (g b).testBit a = true) (hle : at_ b ≤ at_ a) : LInv g n (upd at_ a (at_ b)) := fun k hk => by
  by_cases ek : k = a
  · subst ek
    rw [upd_same]
    exact ⟨by have := (h k hk).1; omega, cn_edge hk (h b hb).2 (hld_bit.2 (.inl e))⟩
  · rw [upd_other _ _ _ _ (by omega)]; exact h k hk
theorem LPrg.toB {g : Nat → Nat} {n : Nat} {at0 at_ : Nat → Nat} {a b : Nat} (h : LPrg g n at0 at_ a b) (ha : a < n) (hb : b < n) (hab : a ≠ b) (hlt : at_ a < at_ b) : LPrg g n at0 (upd at_ b (at_ a)) a (b + 1) :=
  h.less ha hb (fun k _ => upd_le (Nat.le_of_lt hlt) k) (by rw [upd_same]; exact Nat.le_refl _) (by rw [upd_other _ _ _ _ (by omega)]; omega)
theorem LPrg.toA {g : Nat → Nat} {n : Nat} {at0 at_ : Nat → Nat} {a b : Nat} (h : LPrg g n at0 at_ a b) (ha : a < n) (hb : b < n) (hab : a ≠ b) (hle : at_ b ≤ at_ a) : LPrg g n at0 (upd at_ a (at_ b)) a (b + 1) :=
  h.less ha hb (fun k _ => upd_le hle k) (by rw [upd_other _ _ _ _ (by omega)]; omega) (by rw [upd_same]; exact Nat.le_refl _)
theorem LRnd.next {g : Nat → Nat} {n r : Nat} {at0 at_ : Nat → Nat} (hn : n ≤ 10) (h0 : LRnd g n at0 r) (h : LPrg g n at0 at_ n 0) : LRnd g n at_ (r + 1) := fun j k hj hk hb => by
  rcases (nxt_bit hn (itr_lt (full_lt n) hj r) k).1 hb with h1 | ⟨x, h1, h2, _⟩
  · exact Nat.le_trans (h.1 k hk) (h0 j k hj hk h1)
  · have hx : x < n := bit_of_lt (itr_lt (full_lt n) hj r) h1
    have h3 := h0 j x hj hx h1
    rcases hld_bit.1 h2 with h4 | ⟨_, h4⟩
    · exact Nat.le_trans (h.2 k x hk hx (.inl hk) h4).2 h3
    · exact Nat.le_trans (h.2 x k hx hk (.inl hx) h4).1 h3
/-- In the end: the least point of each piece. -/
structure LFin (g : Nat → Nat) (n : Nat) (at_ : Nat → Nat) : Prop where
  inv : LInv g n at_
  rnd : LRnd g n at_ n
theorem LFin.low {g : Nat → Nat} {n : Nat} {at_ : Nat → Nat} (hn : n ≤ 10) (F : LFin g n at_) {j k : Nat} (hj : j < n) (hk : k < n) (c : Cn (hld g n) (pw n - 1) j k) : at_ k ≤ j :=
  F.rnd j k hj hk (((itr_fix hn (full_lt n) hj).bit hn (full_lt n) hj k).2 c)
theorem LFin.edge {g : Nat → Nat} {n : Nat} {at_ : Nat → Nat} (hn : n ≤ 10) (F : LFin g n at_) {y z : Nat} (hy : y < n) (hz : z < n) (e : (hld g n y).testBit z = true) : at_ z = at_ y := by
  have hs : (hld g n z).testBit y = true := by
    rcases hld_bit.1 e with h1 | ⟨_, h1⟩
    · exact hld_bit.2 (.inr ⟨hy, h1⟩)
    · exact hld_bit.2 (.inl h1)
  have iy := F.inv y hy
  have iz := F.inv z hz
  have h1 := F.low hn (by omega) hz (cn_edge hz iy.2 e)
  have h2 := F.low hn (by omega) hy (cn_edge hy iz.2 hs)
  omega
theorem LFin.self {g : Nat → Nat} {n : Nat} {at_ : Nat → Nat} (hn : n ≤ 10) (F : LFin g n at_) {k : Nat} (hk : k < n) : at_ (at_ k) = at_ k := by
  have ik := F.inv k hk
  have hl : at_ k < n := by omega
  have il := F.inv _ hl
  have h1 := F.low hn (j := at_ (at_ k)) (by omega) hk (fun Q q0 q1 => ik.2 Q (il.2 Q q0 q1) q1)
  omega
/-- The points whose label is m; those whose label is m or greater. -/
def setM (at_ : Nat → Nat) (n m : Nat) : Nat := setBy (fun k => at_ k == m) n
def from_ (at_ : Nat → Nat) (n m : Nat) : Nat := setBy (fun k => decide (m ≤ at_ k)) n
def outL (at_ : Nat → Nat) (n : Nat) : Nat → List Nat
  | 0 => []
  | m + 1 => if 0 < setM at_ n m then outL at_ n m ++ [setM at_ n m] else outL at_ n m
theorem setM_bit (at_ : Nat → Nat) (n m k : Nat) : (setM at_ n m).testBit k = true ↔ k < n ∧ at_ k = m := by
  unfold setM; rw [setBy_bit, Bool.and_eq_true, decide_eq_true_iff, beq_iff_eq]
theorem from_bit (at_ : Nat → Nat) (n m k : Nat) : (from_ at_ n m).testBit k = true ↔ k < n ∧ m ≤ at_ k := by
  unfold from_; rw [setBy_bit, Bool.and_eq_true, decide_eq_true_iff, decide_eq_true_iff]
theorem lo_least {S m : Nat} (hS : S < 1024) (h1 : S.testBit m = true) (h2 : ∀ j, j < m → S.testBit j = false) : lo S = m := by
  have h0 : S ≠ 0 := fun e => by subst e; simp at h1
  have hb := lo_bit hS h0
  have hge : m ≤ lo S := by
    rcases Nat.lt_or_ge (lo S) m with h | h
    · rw [h2 _ h] at hb; cases hb
    · exact h
  obtain ⟨e1, e2, _⟩ := lo_is hS h0
  rcases Nat.lt_or_ge m (lo S) with h | h
  · have hd : 2 ^ lo S ∣ S := by
      have d1 : 2 ^ (lo S + 1) ∣ S &&& (S - 1) := Nat.dvd_of_mod_eq_zero e2
      have d2 : 2 ^ lo S ∣ S &&& (S - 1) := Nat.dvd_trans ⟨2, by rw [Nat.pow_succ]⟩ d1
      have d3 := Nat.dvd_add d2 (Nat.dvd_refl (2 ^ lo S))
      rw [← e1] at d3
      exact d3
    obtain ⟨q, hq⟩ := hd
    have hf : (2 ^ lo S * q).testBit m = false := by
      rw [Nat.testBit_two_pow_mul]
      have : decide (m ≥ lo S) = false := decide_eq_false (by omega)
      rw [this]; rfl
    rw [← hq, h1] at hf
    cases hf
  · omega
theorem from_zero (at_ : Nat → Nat) (n : Nat) : from_ at_ n 0 = pw n - 1 := by
  refine eq_of_bits (setBy_lt _ _) (full_lt n) fun i hi => ?_
  rw [full_bit, Bool.eq_iff_iff]
  rw [from_bit]
  simp [hi]
theorem outL_pcl {g : Nat → Nat} {n : Nat} {at_ : Nat → Nat} (hn : n ≤ 10) (F : LFin g n at_) : ∀ m, PcL (hld g n) (outL at_ n m) (pw n - 1) (from_ at_ n m)
  | 0 => (from_zero at_ n).symm
  | m + 1 => by
    have ih := outL_pcl hn F m
    have hpl := pw_le n hn
    have hf1 : from_ at_ n m < pw n := setBy_lt _ _
    have hf2 : from_ at_ n (m + 1) < pw n := setBy_lt _ _
    have hs1 : setM at_ n m < pw n := setBy_lt _ _
    unfold outL
    by_cases h0 : 0 < setM at_ n m
    · rw [if_pos h0]
      obtain ⟨k, hk⟩ : ∃ k, (setM at_ n m).testBit k = true := Nat.exists_testBit_of_ne_zero (by omega)
      obtain ⟨hkn, ek⟩ := (setM_bit at_ n m k).1 hk
      have hself := F.self hn hkn
      rw [ek] at hself
      have hmn : m < n := by have := (F.inv k hkn).1; omega
      have hbm : (from_ at_ n m).testBit m = true := (from_bit at_ n m m).2 ⟨hmn, by omega⟩
      have hlo : lo (from_ at_ n m) = m := lo_least (by omega) hbm fun j hj => by
        cases e : (from_ at_ n m).testBit j
        · rfl
        · obtain ⟨h1, h2⟩ := (from_bit at_ n m j).1 e
          have := (F.inv j h1).1
          omega
      have hne : from_ at_ n m ≠ 0 := fun e => by rw [e] at hbm; simp at hbm
      have hfix : Pc (hld g n) (from_ at_ n m) m (itr (hld g n) (from_ at_ n m) m n) := itr_fix hn hf1 hmn
      have hcn : ∀ x, Cn (hld g n) (from_ at_ n m) m x ↔ x < n ∧ at_ x = m := fun x => by
        constructor
        · intro c
          refine c (fun y => y < n ∧ at_ y = m) ⟨hmn, hself⟩ ?_
          rintro y z ⟨hy, ey⟩ h1 h2
          obtain ⟨hz, _⟩ := (from_bit at_ n m z).1 h2
          exact ⟨hz, (F.edge hn hy hz h1).trans ey⟩
        · rintro ⟨hx, ex⟩
          have c := (F.inv x hx).2
          rw [ex] at c
          have h3 : Cn (hld g n) (from_ at_ n m) m x ∧ (x < n ∧ at_ x = m) := c (fun y => Cn (hld g n) (from_ at_ n m) m y ∧ (y < n ∧ at_ y = m)) ⟨Cn.self _ _ _, hmn, hself⟩ (by
            rintro y z ⟨cy, hy, ey⟩ h1 h2
            rw [full_bit] at h2
            have hz := of_decide_eq_true h2
            have ez := (F.edge hn hy hz h1).trans ey
            exact ⟨cy.next h1 ((from_bit at_ n m z).2 ⟨hz, by omega⟩), hz, ez⟩)
          exact h3.1
      have hset : setM at_ n m = itr (hld g n) (from_ at_ n m) m n := by
        refine eq_of_bits hs1 (itr_lt hf1 hmn n) fun i _ => ?_
        rw [Bool.eq_iff_iff, setM_bit, hfix.bit hn hf1 hmn, hcn]
      have hpc : Pc (hld g n) (from_ at_ n m) (lo (from_ at_ n m)) (setM at_ n m) := by rw [hlo, hset]; exact hfix
      have hlack : lack (from_ at_ n m) (setM at_ n m) = from_ at_ n (m + 1) := by
        refine eq_of_bits (Nat.lt_of_le_of_lt (lack_le _ _) hf1) hf2 fun i hi => ?_
        rw [lack_bit _ _ _ (by omega) (by omega), Bool.eq_iff_iff, Bool.and_eq_true, from_bit, from_bit, Bool.not_eq_true', ← Bool.not_eq_true, setM_bit]
        constructor
        · rintro ⟨⟨h1, h2⟩, h3⟩
          exact ⟨h1, by rcases Nat.lt_or_ge m (at_ i) with h | h
                        · exact h
                        · exact absurd ⟨h1, by omega⟩ h3⟩
        · rintro ⟨h1, h2⟩
          exact ⟨⟨h1, by omega⟩, fun h => by omega⟩
      rw [← hlack]
      exact ih.more hne hpc
    · rw [if_neg h0]
      have e : from_ at_ n (m + 1) = from_ at_ n m := by
        refine eq_of_bits hf2 hf1 fun i hi => ?_
        rw [Bool.eq_iff_iff, from_bit, from_bit]
        constructor
        · rintro ⟨h1, h2⟩; exact ⟨h1, by omega⟩
        · rintro ⟨h1, h2⟩
          refine ⟨h1, ?_⟩
          rcases Nat.lt_or_ge m (at_ i) with h | h
          · exact h
          · have hb : (setM at_ n m).testBit i = true := (setM_bit at_ n m i).2 ⟨h1, by omega⟩
            have hz : setM at_ n m = 0 := by omega
            rw [hz] at hb; simp at hb
      rw [e]; exact ih
theorem outL_all {g : Nat → Nat} {n : Nat} {at_ : Nat → Nat} (hn : n ≤ 10) (F : LFin g n at_) : PcL (hld g n) (outL at_ n n) (pw n - 1) 0 := by
  have h := outL_pcl hn F n
  have e : from_ at_ n n = 0 := by
    apply Nat.eq_of_testBit_eq
    intro i
    rw [Nat.zero_testBit]
    cases hb : (from_ at_ n n).testBit i
    · rfl
    · obtain ⟨h1, h2⟩ := (from_bit at_ n n i).1 hb
      have := (F.inv i h1).1
      omega
  rw [e] at h
  exact h
theorem outL_len (at_ : Nat → Nat) (n : Nat) : ∀ m, (outL at_ n m).length ≤ m
  | 0 => Nat.le_refl _
  | m + 1 => by
    have := outL_len at_ n m
    unfold outL
    split
    · simp; omega
    · omega
end Go.Proofs.YtggngpnenbjidaaDoor
