/-
  How few rows say an order: what realize.pick finds, by rows that say it all; rows that are told, and the order that they say. Plain facts: no Go text here. Conditions: an order of at most seven points.
-/
import Derived.Test.YtinblbkglkhjmaaDoorRzP
import Derived.Test.YtinblbkglkhjmaaDoorROf
namespace Go.Proofs.YtinblbkglkhjmaaDoor
open Go.RowKit

def allTo (P : Nat → Bool) : Nat → Bool
  | 0 => true
  | k + 1 => allTo P k && P k
theorem allTo_iff {P : Nat → Bool} : ∀ k, allTo P k = true ↔ ∀ j, j < k → P j = true
  | 0 => ⟨fun _ j hj => absurd hj (Nat.not_lt_zero _), fun _ => rfl⟩
  | k + 1 => by
    rw [allTo, Bool.and_eq_true, allTo_iff k]
    constructor
    · rintro ⟨h1, h2⟩ j hj
      by_cases e : j = k
      · subst e; exact h2
      · exact h1 j (by omega)
    · exact fun h => ⟨fun j hj => h j (by omega), h k (by omega)⟩
theorem acc_bit (F : Nat → Nat → Int) (n y x : Nat) (hx : x < n) : ∀ m, (acc F n m y).testBit x = allTo (fun i => (bf (F i) n n y).testBit x) m
  | 0 => by
    show (pw n - 1).testBit x = true
    unfold pw
    rw [Nat.testBit_two_pow_sub_one, decide_eq_true hx]
  | m + 1 => by
    show (acc F n m y &&& bf (F m) n n y).testBit x = _
    rw [Nat.testBit_and, acc_bit F n y x hx m]; rfl
/-- A row by its places. -/
theorem once_rank {f : Nat → Int} {n : Nat} (ho : Once f n n) : ∃ r : Nat → Nat, (∀ p, p < n → r p < n ∧ f (r p) = (p : Nat)) ∧ (∀ p q, p < n → q < n → r p = r q → p = q) ∧ ∀ a b, a < n → b < n → ((bf f n n b).testBit a = true ↔ r a < r b) := by
  obtain ⟨r, hr⟩ := Classical.axiomOfChoice (r := fun p j => p < n → j < n ∧ f j = (p : Nat)) fun p => by
    rcases Nat.lt_or_ge p n with h | h
    · obtain ⟨j, hj, e⟩ := (sn_iff n).1 (once_all.1 ho p h); exact ⟨j, fun _ => ⟨hj, e⟩⟩
    · exact ⟨0, fun h2 => by omega⟩
  have inj : ∀ p q, p < n → q < n → r p = r q → p = q := fun p q hp hq e => by
    have h1 := (hr p hp).2; have h2 := (hr q hq).2
    rw [e, h2] at h1; omega
  refine ⟨r, hr, inj, fun a b ha hb => ?_⟩
  have h1 := hr a ha
  have h2 := hr b hb
  have hb' := bf_at n ho h2.1
  rw [h2.2, Int.toNat_natCast] at hb'
  rw [hb', pl_bit ha, sn_iff]
  constructor
  · rintro ⟨i, hi, e⟩
    have : i = r a := by
      rcases Nat.lt_trichotomy i (r a) with h | h | h
      · exact absurd (e.trans h1.2.symm) ((ho (r a) h1.1).2 i h)
      · exact h
      · exact absurd (h1.2.trans e.symm) ((ho i (by omega)).2 (r a) h)
    omega
  · intro h; exact ⟨r a, h, h1.2⟩

section
variable {g : Nat → Nat} {n : Nat}
theorem apt_ltU {a b : Nat} : apt (ltU g n) n a b = true ↔ a < n ∧ b < n ∧ a ≠ b ∧ (g b).testBit a = false ∧ (g a).testBit b = false := by
  rw [apt_iff]
  constructor
  · rintro ⟨h1, h2, h3, h4, h5⟩
    unfold ltU at h4 h5
    rw [decide_eq_true h2, Bool.true_and] at h4
    rw [decide_eq_true h1, Bool.true_and] at h5
    exact ⟨h1, h2, h3, h4, h5⟩
  · rintro ⟨h1, h2, h3, h4, h5⟩
    unfold ltU
    rw [decide_eq_true h2, decide_eq_true h1, Bool.true_and, Bool.true_and]
    exact ⟨h1, h2, h3, h4, h5⟩
/-- Rows that say the order are enough. -/
theorem says_rz {F : Nat → Nat → Int} {m : Nat} (ho : ∀ k, k < m → Once (F k) n n) (hs : ∀ y, y < n → acc F n m y = g y) : RzS (· < n) (ltU g n) m := by
  obtain ⟨R, hR⟩ := Classical.axiomOfChoice (r := fun k (r : Nat → Nat) => k < m → (∀ p q, p < n → q < n → r p = r q → p = q) ∧ ∀ a b, a < n → b < n → ((bf (F k) n n b).testBit a = true ↔ r a < r b)) fun k => by
    rcases Nat.lt_or_ge k m with h | h
    · obtain ⟨r, _, h1, h2⟩ := once_rank (ho k h); exact ⟨r, fun _ => ⟨h1, h2⟩⟩
    · exact ⟨fun _ => 0, fun h2 => by omega⟩
  have bit : ∀ p q, p < n → q < n → (ltU g n p q = true ↔ ∀ k, k < m → R k p < R k q) := fun p q hp hq => by
    unfold ltU
    rw [decide_eq_true hq, Bool.true_and, ← hs q hq, acc_bit F n q p hp m, allTo_iff]
    exact ⟨fun h k hk => ((hR k hk).2 p q hp hq).1 (h k hk), fun h k hk => ((hR k hk).2 p q hp hq).2 (h k hk)⟩
  refine ⟨R, fun k hk => ⟨fun p q hp hq => (hR k hk).1 p q hp hq, fun p q hp hq h => (bit p q hp hq).1 h k hk⟩, fun p q hp hq hne hl => ?_⟩
  refine Classical.byContradiction fun hno => ?_
  rw [(bit p q hp hq).2 fun k hk => ?_] at hl
  · cases hl
  · rcases Nat.lt_trichotomy (R k p) (R k q) with h | h | h
    · exact h
    · exact absurd ((hR k hk).1 p q hp hq h) hne
    · exact absurd ⟨k, hk, h⟩ hno

/-- The open pairs. -/
def opn (g : Nat → Nat) (n : Nat) : Nat := pkd (fun b => setBy (stg g b) n) n
theorem set128 (h7 : n ≤ 7) (P : Nat → Bool) : setBy P n < 128 := Nat.lt_of_lt_of_le (setBy_lt _ n) (Nat.le_trans (Nat.pow_le_pow_right (by decide) h7) (by decide))
theorem bf128 (h7 : n ≤ 7) (f : Nat → Int) (y : Nat) : bf f n n y < 128 := Nat.lt_of_lt_of_le (bf_lt n y) (Nat.le_trans (Nat.pow_le_pow_right (by decide) h7) (by decide))
theorem pkd49 (h7 : n ≤ 7) {h : Nat → Nat} (hh : ∀ k, h k < 128) : pkd h n < 562949953421312 := Nat.lt_of_lt_of_le (pkd_lt hh n) (Nat.le_trans (Nat.pow_le_pow_right (by decide) (show 7 * n ≤ 49 by omega)) (by decide))
theorem opn_lt (h7 : n ≤ 7) : opn g n < 562949953421312 := pkd49 h7 fun _ => set128 h7 _
theorem hasK_lt (h7 : n ≤ 7) (k : Nat) : hasK g n k < 562949953421312 := pkd49 h7 fun _ => bf128 h7 _ _
theorem opn_bit (h7 : n ≤ 7) (l : Nat) : (opn g n).testBit l = true ↔ ∃ a b, l = 7 * b + a ∧ a < 7 ∧ apt (ltU g n) n a b = true := by
  have hh : ∀ b, setBy (stg g b) n < 128 := fun _ => set128 h7 _
  have st : ∀ a b, b < n → ((setBy (stg g b) n).testBit a = true ↔ apt (ltU g n) n a b = true) := fun a b hb => by
    rw [setBy_bit, Bool.and_eq_true, decide_eq_true_eq, apt_ltU]
    unfold stg
    simp only [Bool.and_eq_true, Bool.not_eq_true', beq_eq_false_iff_ne]
    constructor
    · rintro ⟨h1, ⟨h2, h3⟩, h4⟩; exact ⟨h1, hb, h2, h4, h3⟩
    · rintro ⟨h1, _, h2, h4, h3⟩; exact ⟨h1, ⟨h2, h3⟩, h4⟩
  constructor
  · intro h
    have hlt : l < 7 * n := by
      rcases Nat.lt_or_ge l (7 * n) with h1 | h1
      · exact h1
      · have e0 : (opn g n).testBit l = false := Nat.testBit_lt_two_pow (Nat.lt_of_lt_of_le (pkd_lt hh n) (Nat.pow_le_pow_right (by decide) h1))
        rw [e0] at h; cases h
    have e : l = 7 * (l / 7) + l % 7 := (Nat.div_add_mod l 7).symm
    have hb : l / 7 < n := by omega
    refine ⟨l % 7, l / 7, e, by omega, ?_⟩
    rw [e] at h
    unfold opn at h
    rw [pkd_bit hh n (l / 7) (l % 7) hb (by omega)] at h
    exact (st _ _ hb).1 h
  · rintro ⟨a, b, rfl, ha, h⟩
    have hb := (apt_ltU.1 h).2.1
    unfold opn
    rw [pkd_bit hh n b a hb ha]
    exact (st _ _ hb).2 h
theorem hasK_bit (h7 : n ≤ 7) {k a b : Nat} (hb : b < n) (ha : a < 7) : (hasK g n k).testBit (7 * b + a) = ahB g n k a b := by
  unfold hasK
  rw [pkd_bit (fun _ => bf128 h7 _ _) n b a hb ha]; rfl
/-- Rows by their numbers have all open pairs among them. -/
def Cov (g : Nat → Nat) (n : Nat) (l : List Nat) : Prop := (∀ i, i ∈ l → i < ways g n 0) ∧ ∀ a b, apt (ltU g n) n a b = true → ∃ i, i ∈ l ∧ ahB g n i a b = true
theorem cov_iff (h7 : n ≤ 7) (l : List Nat) : (∀ b, (opn g n).testBit b = true → ∃ i, i ∈ l ∧ (hasK g n i).testBit b = true) ↔ ∀ a b, apt (ltU g n) n a b = true → ∃ i, i ∈ l ∧ ahB g n i a b = true := by
  constructor
  · intro h a b hab
    have h1 := apt_ltU.1 hab
    obtain ⟨i, hi, e⟩ := h (7 * b + a) ((opn_bit h7 _).2 ⟨a, b, rfl, by omega, hab⟩)
    rw [hasK_bit h7 h1.2.1 (by omega)] at e
    exact ⟨i, hi, e⟩
  · intro h b hb
    obtain ⟨a, c, rfl, ha, hac⟩ := (opn_bit h7 _).1 hb
    obtain ⟨i, hi, e⟩ := h a c hac
    exact ⟨i, hi, by rw [hasK_bit h7 (apt_ltU.1 hac).2.1 ha]; exact e⟩
def ix (l : List Nat) (i : Nat) : Nat := l.getD i 0
theorem ix_mem {l : List Nat} {i : Nat} (hi : i < l.length) : ix l i ∈ l := by
  unfold ix; rw [List.getD_eq_getElem?_getD, List.getElem?_eq_getElem hi]; exact List.getElem_mem hi
theorem mem_ix {l : List Nat} {x : Nat} (hx : x ∈ l) : ∃ i, i < l.length ∧ ix l i = x := by
  obtain ⟨i, hi, e⟩ := List.getElem_of_mem hx
  exact ⟨i, hi, by unfold ix; rw [List.getD_eq_getElem?_getD, List.getElem?_eq_getElem hi]; exact e⟩
/-- Such rows say the order. -/
theorem Cov.says (h7 : n ≤ 7) (hu : Sm n n g) (ho : Ord n g) {l : List Nat} (h : Cov g n l) (hl : 0 < l.length) : ∀ y, y < n → acc (fun i j => ((nP g n (ix l i) j : Nat) : Int)) n l.length y = g y := fun y hy => by
  have hs := ltU_srd (by omega) hu ho
  refine eq_of_bits (n := n) (acc_lt _ _ _ _) (hu y hy) fun x hx => ?_
  rw [acc_bit _ n y x hx l.length, Bool.eq_iff_iff, allTo_iff]
  have rk : ∀ i, i < l.length → ∃ r : Nat → Nat, LxS (· < n) (ltU g n) r ∧ ∀ a b, a < n → b < n → (ahB g n (ix l i) a b = true ↔ r a < r b) := fun i hi => row_rank (by omega) hu (h.1 _ (ix_mem hi))
  constructor
  · intro hall
    refine Classical.byContradiction fun hno => ?_
    have hno' : (g y).testBit x = false := by rw [Bool.eq_false_iff]; exact hno
    obtain ⟨r0, h1, h2⟩ := rk 0 hl
    have hx0 : r0 x < r0 y := (h2 x y hx hy).1 (hall 0 hl)
    have hne : x ≠ y := fun e => by rw [e] at hx0; exact Nat.lt_irrefl _ hx0
    cases hb : (g x).testBit y with
    | true =>
      have := h1.up y x hy hx (by unfold ltU; rw [decide_eq_true hx, hb]; rfl)
      omega
    | false =>
      obtain ⟨k, hk, e⟩ := h.2 y x (apt_ltU.2 ⟨hy, hx, fun e => hne e.symm, hb, hno'⟩)
      obtain ⟨i, hi, rfl⟩ := mem_ix hk
      obtain ⟨r, _, h4⟩ := rk i hi
      have a1 := (h4 y x hy hx).1 e
      have a2 := (h4 x y hx hy).1 (hall i hi)
      omega
  · intro hb i hi
    obtain ⟨r, h3, h4⟩ := rk i hi
    exact (h4 x y hx hy).2 (h3.up x y hx hy (by unfold ltU; rw [decide_eq_true hy, hb]; rfl))
theorem pick_cov (h7 : n ≤ 7) {m : Nat} {l : List Nat} (e : pkF (hasK g n) (ways g n 0) m (opn g n) = some l) : 0 < l.length ∧ l.length ≤ m ∧ Cov g n l := by
  obtain ⟨h1, h2, h3, h4⟩ := pkF_sound (fun i => Nat.lt_trans (hasK_lt h7 i) (by decide)) m _ l (Nat.lt_trans (opn_lt h7) (by decide)) e
  exact ⟨h1, h2, h3, (cov_iff h7 l).1 h4⟩
theorem Cov.rz (h7 : n ≤ 7) (hu : Sm n n g) (ho : Ord n g) {l : List Nat} (h : Cov g n l) (hl : 0 < l.length) : RzS (· < n) (ltU g n) l.length :=
  says_rz (F := fun i j => ((nP g n (ix l i) j : Nat) : Int)) (fun _ hk => nP_once (h.1 _ (ix_mem hk))) (h.says h7 hu ho hl)
/-- Some rows are found just if so few are enough. -/
theorem pick_rz (h7 : n ≤ 7) (hu : Sm n n g) (ho : Ord n g) {m : Nat} (hm : 0 < m) : pkF (hasK g n) (ways g n 0) m (opn g n) ≠ none ↔ RzS (· < n) (ltU g n) m := by
  constructor
  · intro h
    obtain ⟨l, hl⟩ := Option.ne_none_iff_exists'.1 h
    obtain ⟨h1, h2, h3⟩ := pick_cov h7 hl
    exact (h3.rz h7 hu ho h1).more h1 h2
  · rintro ⟨R, h1, h2⟩
    obtain ⟨K, hK⟩ := Classical.axiomOfChoice (r := fun i k => i < m → k < ways g n 0 ∧ ∀ a b, a < n → b < n → (ahB g n k a b = true ↔ R i a < R i b)) fun i => by
      rcases Nat.lt_or_ge i m with h | h
      · obtain ⟨k, hk, e⟩ := rank_row (by omega) hu (h1 i h); exact ⟨k, fun _ => ⟨hk, e⟩⟩
      · exact ⟨0, fun h2 => by omega⟩
    have hN : 0 < ways g n 0 := by have := (hK 0 hm).1; omega
    refine pkF_full (fun i => Nat.lt_trans (hasK_lt h7 i) (by decide)) hN m _ ((List.range m).map K) (Nat.lt_trans (opn_lt h7) (by decide)) (by simp) hm ?_ ((cov_iff h7 _).2 ?_)
    · intro i hi
      obtain ⟨j, hj, rfl⟩ := List.mem_map.1 hi
      exact (hK j (List.mem_range.1 hj)).1
    · intro a b hab
      obtain ⟨ha, hb, hne, h3, h4⟩ := apt_iff.1 hab
      obtain ⟨i, hi, e⟩ := h2 b a hb ha (fun e => hne e.symm) h4
      exact ⟨K i, List.mem_map.2 ⟨i, List.mem_range.2 hi, rfl⟩, ((hK i hi).2 a b ha hb).2 e⟩
/-- So many rows, and no fewer. -/
def Dim (g : Nat → Nat) (n k : Nat) : Prop := 0 < k ∧ RzS (· < n) (ltU g n) k ∧ ∀ j, 0 < j → RzS (· < n) (ltU g n) j → k ≤ j
theorem Dim.one {k k' : Nat} (h : Dim g n k) (h' : Dim g n k') : k = k' := Nat.le_antisymm (h.2.2 _ h'.1 h'.2.1) (h'.2.2 _ h.1 h.2.1)
theorem rz_some (hn : n ≤ 10) (hu : Sm n n g) (ho : Ord n g) : RzS (· < n) (ltU g n) (max 1 n) := by
  rcases Nat.eq_zero_or_pos n with rfl | h
  · exact ⟨fun _ _ => 0, fun i _ => ⟨fun p _ hp => absurd hp (Nat.not_lt_zero _), fun p _ hp => absurd hp (Nat.not_lt_zero _)⟩, fun p _ hp => absurd hp (Nat.not_lt_zero _)⟩
  · rw [Nat.max_eq_right h]; exact (ltU_srd hn hu ho).all
theorem pick_dim (h7 : n ≤ 7) (hu : Sm n n g) (ho : Ord n g) {m : Nat} {l : List Nat} (hno : ∀ j, 0 < j → j ≤ m → pkF (hasK g n) (ways g n 0) j (opn g n) = none) (e : pkF (hasK g n) (ways g n 0) (m + 1) (opn g n) = some l) : Dim g n l.length ∧ Cov g n l := by
  obtain ⟨h1, h2, h3⟩ := pick_cov h7 e
  refine ⟨⟨h1, h3.rz h7 hu ho h1, fun j hj hr => ?_⟩, h3⟩
  rcases Nat.lt_or_ge m j with h | h
  · omega
  · exact absurd (hno j hj h) ((pick_rz h7 hu ho hj).2 hr)
end
end Go.Proofs.YtinblbkglkhjmaaDoor
