/-
  The form of an order of five points at most is one of all: its points stand behind all below them; reckoned over such orders. No Go text here. Conditions: five points at most.
-/
import Derived.Test.YtfbdgdphpdhcpaaDoorRnM
namespace Go.Proofs.YtfbdgdphpdhcpaaDoor
open Go.RowKit
set_option maxRecDepth 100000

/-- A point m is told ahead of point k. -/
def mvTo (n k m : Nat) : List Nat := List.range k ++ [m] ++ (List.range n).filter fun t => decide (k ≤ t) && decide (t ≠ m)
def mvB (n k m : Nat) : Bool := decide ((mvTo n k m).length = n) && ((List.range n).all fun i => decide (nth (mvTo n k m) i < n)) && ((List.range n).all fun i => (List.range n).all fun j => decide (i < j → nth (mvTo n k m) i ≠ nth (mvTo n k m) j)) && ((List.range k).all fun i => decide (nth (mvTo n k m) i = i)) && decide (nth (mvTo n k m) k = m) && (List.range n).all fun t => decide (k ≤ t → k ≤ nth (mvTo n k m) t)
theorem mv_all : ((List.range 7).all fun n => (List.range n).all fun m => (List.range m).all fun k => mvB n k m) = true := by decide +kernel
theorem mv_at {n k m : Nat} (hn : n ≤ 6) (hm : m < n) (hk : k < m) : IsP n (mvTo n k m) ∧ (∀ i, i < k → nth (mvTo n k m) i = i) ∧ nth (mvTo n k m) k = m ∧ ∀ t, t < n → k ≤ t → k ≤ nth (mvTo n k m) t := by
  have h := List.all_eq_true.1 (List.all_eq_true.1 (List.all_eq_true.1 mv_all n (List.mem_range.2 (by omega))) m (List.mem_range.2 hm)) k (List.mem_range.2 hk)
  unfold mvB at h
  simp only [Bool.and_eq_true, List.all_eq_true, List.mem_range, decide_eq_true_eq] at h
  obtain ⟨⟨⟨⟨⟨h1, h2⟩, h3⟩, h4⟩, h5⟩, h6⟩ := h
  exact ⟨isP_of h1 h2 fun i j hij hj => h3 i (by omega) j hj hij, h4, h5, h6⟩
theorem sub_lt {a b i : Nat} (h : ∀ t, a.testBit t = true → b.testBit t = true) (hi : b.testBit i = true) (hn : a.testBit i = false) : a < b := by
  have e : a = a &&& b := Nat.eq_of_testBit_eq fun t => by
    rw [Nat.testBit_and]
    cases ha : a.testBit t
    · rfl
    · rw [h t ha]; rfl
  have h1 : a ≤ b := by rw [e]; exact Nat.and_le_right
  rcases Nat.lt_or_ge a b with h2 | h2
  · exact h2
  · have : a = b := by omega
    subst this
    rw [hn] at hi; cases hi
/-- Below k and not among the first k, a least one. -/
theorem low_one {n k : Nat} {f : Nat → Nat} (h : PO n f) (hk : k < n) : ∀ (d j : Nat), f j ≤ d → k ≤ j → (f k).testBit j = true → ∃ m, k ≤ m ∧ (f k).testBit m = true ∧ ∀ i, k ≤ i → (f m).testBit i = false := by
  intro d
  induction d with
  | zero =>
    intro j hd hj hb
    have : f j = 0 := by omega
    exact ⟨j, hj, hb, fun i _ => by rw [this]; simp⟩
  | succ d ih =>
    intro j hd hj hb
    by_cases he : ∃ i, k ≤ i ∧ (f j).testBit i = true
    · obtain ⟨i, hi, hib⟩ := he
      have hjn := bit_of_lt (h.sm k hk) hb
      have hin := bit_of_lt (h.sm j hjn) hib
      have hlt : f i < f j := sub_lt (fun t ht => by
        have htn := bit_of_lt (h.sm i hin) ht
        exact h.tr t i j htn hin hjn hib ht) hib (h.ir i hin)
      exact ih i (by omega) hi (h.tr i j k hin hjn hk hb hib)
    · refine ⟨j, hj, hb, fun i hi => ?_⟩
      cases hc : (f j).testBit i
      · rfl
      · exact absurd ⟨i, hi, hc⟩ he
/-- What is least is told point by point behind all below it. -/
theorem nat_lab {n : Nat} {f : Nat → Nat} (hn : n ≤ 6) (h : PO n f) (hmin : ∀ y, IsP n y → ¬ cmpF (prt f y) f n 0 < 0) : ∀ k, k < n → f k < pw k := by
  intro k
  induction k using Nat.strongRecOn with
  | ind k ih =>
    intro hk
    rcases Nat.lt_or_ge (f k) (pw k) with h0 | h0
    · exact h0
    · exfalso
      obtain ⟨j, hj, hb⟩ : ∃ j, k ≤ j ∧ (f k).testBit j = true := by
        by_cases he : ∃ j, k ≤ j ∧ (f k).testBit j = true
        · exact he
        · have : f k < 2 ^ k := Nat.lt_pow_two_of_testBit _ fun i hi => by
            cases hc : (f k).testBit i
            · rfl
            · exact absurd ⟨i, hi, hc⟩ he
          unfold pw at h0
          omega
      obtain ⟨m, hkm, hmb, hml⟩ := low_one h hk (f j) j (Nat.le_refl _) hj hb
      have hmn := bit_of_lt (h.sm k hk) hmb
      have hmk : k < m := by
        rcases Nat.lt_or_ge k m with h1 | h1
        · exact h1
        · have : m = k := by omega
          subst this
          rw [h.ir m hk] at hmb; cases hmb
      obtain ⟨hy, y1, y2, y3⟩ := mv_at hn hmn hmk
      have hfm : f m < 2 ^ k := Nat.lt_pow_two_of_testBit _ fun i hi => hml i hi
      refine hmin _ hy ((cmpF_lt n 0).2 ⟨k, Nat.zero_le _, by omega, ?_, fun i _ hi => ?_⟩)
      · have e : prt f (mvTo n k m) k = f m := Nat.eq_of_testBit_eq fun t => by
          rw [prt_bit hy.1, y2]
          by_cases htn : t < n
          · rcases Nat.lt_or_ge t k with ht | ht
            · rw [y1 t ht]; simp [htn]
            · rw [hml _ (y3 t htn ht), hml t ht]; simp
          · cases hc : (f m).testBit t
            · simp [htn]
            · exact absurd (bit_of_lt (h.sm m hmn) hc) htn
        rw [e]
        unfold pw at h0
        omega
      · refine Nat.eq_of_testBit_eq fun t => ?_
        have hfi := ih i hi (by omega)
        have hno : ∀ u, k ≤ u → (f i).testBit u = false := fun u hu => by
          cases hc : (f i).testBit u
          · rfl
          · have := bit_of_lt hfi hc; omega
        rw [prt_bit hy.1, y1 i hi]
        by_cases htn : t < n
        · rcases Nat.lt_or_ge t k with ht | ht
          · rw [y1 t ht]; simp [htn]
          · rw [hno _ (y3 t htn ht), hno t ht]; simp
        · rw [hno t (by omega)]; simp [htn]
/-- All rows of numbers that could be such. -/
def natL : Nat → List (List Nat)
  | 0 => [[]]
  | n + 1 => (natL n).flatMap fun o => (List.range (pw n)).map fun s => o ++ [s]
theorem nat_mem {f : Nat → Nat} : ∀ n, (∀ k, k < n → f k < pw k) → (List.range n).map f ∈ natL n
  | 0, _ => by simp [natL]
  | n + 1, h => by
    rw [List.range_succ, List.map_append, natL, List.mem_flatMap]
    exact ⟨_, nat_mem n fun k hk => h k (by omega), List.mem_map.2 ⟨f n, List.mem_range.2 (h n (by omega)), rfl⟩⟩
def poB (n : Nat) (o : List Nat) : Bool := (List.range n).all fun k => (List.range n).all fun j => (List.range n).all fun i => !((nth o k).testBit j && (nth o j).testBit i) || (nth o k).testBit i
def lwB (n : Nat) (P : List (List Nat)) (o : List Nat) : Bool := (lvq n).contains o || !poB n o || P.any fun y => decide (cmpF (prt (nth o) y) (nth o) n 0 < 0)
theorem in4 : ((List.range 5).all fun n => (natL n).all (lwB n (per n [] (pw n - 1)))) = true := by decide +kernel
theorem in5 : (natL 5).all (lwB 5 (per 5 [] (pw 5 - 1))) = true := by decide +kernel
theorem in_all {n : Nat} (hn : n ≤ 5) {o : List Nat} (ho : o ∈ natL n) : lwB n (per n [] (pw n - 1)) o = true := by
  by_cases h : n < 5
  · exact List.all_eq_true.1 (List.all_eq_true.1 in4 n (List.mem_range.2 h)) o ho
  · obtain rfl : n = 5 := by omega
    exact List.all_eq_true.1 in5 o ho
/-- The form is one of all. -/
theorem form_in {g : Nat → Nat} {n : Nat} (hn : n ≤ 5) (hg : PO n g) {x : List Nat} (hx : bst g n (per n [] (pw n - 1)) = some x) : ∃ o ∈ lvq n, ∀ k, k < n → nth o k = prt g x k := by
  have px := isP_per (by omega) (bst_mem hx)
  have hf := hg.prt px
  have hmin : ∀ y, IsP n y → ¬ cmpF (prt (prt g x) y) (prt g x) n 0 < 0 := fun y hy h =>
    bst_min hx (per_all (by omega) (px.cmp hy)) (cmp_congr (fun i hi => prt_prt px.1 hy hi) (fun _ _ => rfl) h)
  have hlab := nat_lab (by omega) hf hmin
  have hmem := nat_mem n hlab
  obtain ⟨o, ho⟩ : ∃ o, o = (List.range n).map (prt g x) := ⟨_, rfl⟩
  rw [← ho] at hmem
  have hat : ∀ k, k < n → nth o k = prt g x k := fun k hk => by
    rw [ho, nth_eq (by simpa using hk), List.getElem_map, List.getElem_range]
  refine ⟨o, ?_, hat⟩
  have h := in_all hn hmem
  unfold lwB at h
  rw [Bool.or_eq_true, Bool.or_eq_true] at h
  rcases h with (h | h) | h
  · simpa using h
  · exfalso
    have h2 : poB n o = true := by
      unfold poB
      simp only [List.all_eq_true, List.mem_range, Bool.or_eq_true, Bool.not_eq_true', Bool.and_eq_false_iff]
      intro k hk j hj i hi
      rw [hat k hk, hat j hj]
      cases h3 : (prt g x k).testBit j
      · exact .inl (.inl rfl)
      · cases h4 : (prt g x j).testBit i
        · exact .inl (.inr rfl)
        · exact .inr (hf.tr i j k hi hj hk h3 h4)
    rw [h2] at h; cases h
  · exfalso
    obtain ⟨y, hy, h2⟩ := List.any_eq_true.1 h
    have py := isP_per (by omega) hy
    refine hmin y py (cmp_congr (fun i hi => ?_) (fun i hi => hat i hi) (of_decide_eq_true h2))
    refine Nat.eq_of_testBit_eq fun t => ?_
    rw [prt_bit py.1, prt_bit py.1, hat _ (py.2.1 i hi)]
end Go.Proofs.YtfbdgdphpdhcpaaDoor
