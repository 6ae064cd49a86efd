/-
  Plain facts on stretches: an order has the ones that its sets count out just if it has no two chains that know nothing of one another (FISHBURN); each number up to the greatest is a first one and a last one.
-/
import Derived.Test.YtkknfnjhpamfbaaFourM
namespace Go.Proofs.Ytkknfnjhpamfbaa
open Go.RowKit

def NoTwo (g : Nat → Nat) (n : Nat) : Prop := ∀ a b c d, a < n → b < n → c < n → d < n → twoP g a b c d = false
theorem bit_lt {n s i : Nat} (hs : s < pw n) (h : s.testBit i = true) : i < n := by
  rcases Nat.lt_or_ge i n with h1 | h1
  · exact h1
  · rw [Nat.testBit_lt_two_pow (Nat.lt_of_lt_of_le hs (Nat.pow_le_pow_right (by decide) h1))] at h; cases h
theorem noTwo_sub {g : Nat → Nat} {n : Nat} (hg : Sm n n g) (h : NoTwo g n) {i y k : Nat} (hy : y < n) (hk : k < n) (h1 : (g y).testBit i = true) (h2 : (g k).testBit i = false) : ∀ z, (g k).testBit z = true → (g y).testBit z = true := fun z hz => by
  rcases Bool.eq_false_or_eq_true ((g y).testBit z) with e | e
  · exact e
  · have := h z k i y (bit_lt (hg k hk) hz) hk (bit_lt (hg y hy) h1) hy
    simp [twoP, hz, h1, e, h2] at this
theorem noTwo_pc {g : Nat → Nat} {n : Nat} (hn : n ≤ 10) (hg : Sm n n g) (h : NoTwo g n) {i y k : Nat} (hy : y < n) (hk : k < n) (h1 : (g y).testBit i = true) (h2 : (g k).testBit i = false) : pc (g k) < pc (g y) :=
  pc_strict (noTwo_sub hg h hy hk h1 h2) (Nat.lt_of_lt_of_le (bit_lt (hg y hy) h1) hn) h2 h1
theorem noTwo_lt {g : Nat → Nat} {n : Nat} (hg : Sm n n g) (h : NoTwo g n) {i y k : Nat} (hy : y < n) (hk : k < n) (h1 : (g y).testBit i = true) (h2 : (g k).testBit i = false) : g k < g y := by
  have hs := noTwo_sub hg h hy hk h1 h2
  rcases Nat.lt_or_ge (g k) (g y) with e | e
  · exact e
  · exfalso
    have e2 : g k ≤ g y := by
      have : g k &&& g y = g k := by
        apply Nat.eq_of_testBit_eq
        intro j
        rw [Nat.testBit_and]
        cases hj : (g k).testBit j
        · rfl
        · rw [hs j hj]; rfl
      rw [← this]; exact Nat.and_le_right
    have : g k = g y := by omega
    rw [this, h1] at h2; cases h2
theorem la_le_fi {g : Nat → Nat} {n : Nat} (hn : n ≤ 10) (hg : Sm n n g) (h : NoTwo g n) {i k : Nat} (hk : k < n) (h1 : (g k).testBit i = true) : la g n i ≤ fi g n k := by
  refine cn_mono _ (fun s _ hs => ?_)
  simp only [Bool.and_eq_true, decide_eq_true_eq, Bool.not_eq_true'] at hs ⊢
  obtain ⟨y, hy, rfl⟩ := inB_iff.1 hs.1
  exact ⟨hs.1, noTwo_pc hn hg h hk hy h1 hs.2⟩
theorem fi_lt_la2 {g : Nat → Nat} {n : Nat} (hn : n ≤ 10) (hg : Sm n n g) (h : NoTwo g n) {i k : Nat} (hk : k < n) (h1 : (g k).testBit i = false) : fi g n k < la g n i := by
  refine cn_strict _ (fun s _ hs => ?_) ⟨g k, hg k hk, by simp, ?_⟩
  · simp only [Bool.and_eq_true, decide_eq_true_eq, Bool.not_eq_true'] at hs ⊢
    obtain ⟨y, hy, rfl⟩ := inB_iff.1 hs.1
    refine ⟨hs.1, ?_⟩
    rcases Bool.eq_false_or_eq_true ((g y).testBit i) with e | e
    · have := noTwo_pc hn hg h hy hk e h1; omega
    · exact e
  · simp only [Bool.and_eq_true, Bool.not_eq_true']
    exact ⟨inB_iff.2 ⟨k, hk, rfl⟩, h1⟩
theorem sp_bit {p : Nat → Int × Int} {n k i : Nat} : (sp p n k).testBit i = (decide (i < n) && decide ((p i).2 < (p k).1)) := setBy_bit _ n i
theorem sp_lt (p : Nat → Int × Int) (n k : Nat) : sp p n k < pw n := setBy_lt _ n
theorem spn_lt {g : Nat → Nat} {n i k : Nat} : (spn g n i).2 < (spn g n k).1 ↔ la g n i ≤ fi g n k := by simp only [spn]; omega
theorem fits_of {g : Nat → Nat} {n : Nat} (hn : n ≤ 10) (hg : Sm n n g) (h : NoTwo g n) : Fits g n := fun k hk => by
  refine eq_of_bits (sp_lt _ _ _) (hg k hk) (fun i hi => ?_)
  rw [sp_bit, decide_eq_true hi, Bool.true_and]
  cases e : (g k).testBit i
  · rw [decide_eq_false]
    rw [spn_lt]
    have := fi_lt_la2 hn hg h hk e
    omega
  · rw [decide_eq_true]
    rw [spn_lt]
    exact la_le_fi hn hg h hk e
theorem noTwo_sp {p : Nat → Int × Int} {n : Nat} : NoTwo (sp p n) n := fun a b c d ha hb hc hd => by
  rcases Bool.eq_false_or_eq_true (twoP (sp p n) a b c d) with h | h
  · exfalso
    simp only [twoP, sp_bit, Bool.and_eq_true, Bool.not_eq_true', decide_eq_true_eq] at h
    obtain ⟨⟨⟨⟨_, h1⟩, _, h2⟩, h3⟩, h4⟩ := h
    rw [decide_eq_true ha, Bool.true_and, decide_eq_false_iff_not] at h3
    rw [decide_eq_true hc, Bool.true_and, decide_eq_false_iff_not] at h4
    omega
  · exact h
theorem noTwo_of {g : Nat → Nat} {n : Nat} (h : Fits g n) : NoTwo g n := fun a b c d ha hb hc hd => by
  have := noTwo_sp (p := spn g n) (n := n) a b c d ha hb hc hd
  simp only [twoP, h b hb, h d hd] at this
  exact this
theorem noTwo_upto {g : Nat → Nat} {n : Nat} : NoTwo g n ↔ Upto n (twoP g) (n * n * n * n) := by
  constructor
  · intro h k hk
    have hn : 0 < n := by
      rcases Nat.eq_zero_or_pos n with h0 | h0
      · subst h0; simp at hk
      · exact h0
    obtain ⟨h1, h2, h3, h4⟩ := dig_lt hn hk
    exact h _ _ _ _ h1 h2 h3 h4
  · intro h a b c d ha hb hc hd
    have := h _ (idx_lt ha hb hc hd)
    rwa [P4_idx _ hb hc hd] at this
theorem fits_iff {g : Nat → Nat} {n : Nat} (hn : n ≤ 10) (hg : Sm n n g) {l : List Nat} {ok : Bool} (hf : First n (twoP g) l ok) : Fits g n ↔ ok = false := by
  rcases hf with ⟨rfl, k, hk, hp, _, _⟩ | ⟨rfl, _, hu⟩
  · constructor
    · intro h
      have := (noTwo_upto.1 (noTwo_of h)) k hk
      rw [hp] at this; cases this
    · intro h; cases h
  · exact ⟨fun _ => rfl, fun _ => fits_of hn hg (noTwo_upto.2 hu)⟩
/-- Stretches are an order. -/
theorem sp_ord {p : Nat → Int × Int} {n : Nat} (hn : n ≤ 10) (h : ∀ k, k < n → (p k).1 ≤ (p k).2) : Ord n (sp p n) := fun u hu => by
  have hl := pw_le n hn
  refine ⟨?_, fun q hq hb => (lack_zero _ _ (by have := sp_lt p n q; omega) (by have := sp_lt p n u; omega)).2 (fun i hi => ?_)⟩
  · rw [sp_bit, decide_eq_true hu, Bool.true_and, decide_eq_false_iff_not]; have := h u hu; omega
  · rw [sp_bit, Bool.and_eq_true, decide_eq_true_eq, decide_eq_true_eq] at hi hb ⊢
    have := h q hq
    exact ⟨hi.1, by omega⟩

/-! ### each number up to the greatest is a first one and a last one -/
/-- How many kinds there are below T. -/
def kb (g : Nat → Nat) (n T : Nat) : Nat := cn (inB g n) T
theorem kb_at {g : Nat → Nat} {n t : Nat} : ∀ N, t < kb g n N → ∃ T, T < N ∧ inB g n T = true ∧ kb g n T = t
  | 0, h => absurd h (Nat.not_lt_zero _)
  | N + 1, h => by
    by_cases e : t < kb g n N
    · obtain ⟨T, h1, h2⟩ := kb_at N e
      exact ⟨T, by omega, h2⟩
    · unfold kb at h e
      rcases Bool.eq_false_or_eq_true (inB g n N) with b | b
      · rw [cn_yes b] at h
        exact ⟨N, by omega, b, by unfold kb; omega⟩
      · rw [cn_no b] at h; omega
theorem kb_mono {g : Nat → Nat} {n : Nat} : ∀ {S T : Nat}, S ≤ T → kb g n S ≤ kb g n T
  | S, 0, h => by have : S = 0 := by omega
                  subst this; exact Nat.le_refl _
  | S, T + 1, h => by
    by_cases e : S = T + 1
    · subst e; exact Nat.le_refl _
    · have := kb_mono (g := g) (n := n) (show S ≤ T by omega)
      unfold kb at this ⊢
      simp only [cn]; omega
theorem kb_lt {g : Nat → Nat} {n S T : Nat} (h : S < T) (hs : inB g n S = true) : kb g n S < kb g n T := by
  have h1 := kb_mono (g := g) (n := n) (show S + 1 ≤ T from h)
  unfold kb at h1 ⊢
  rw [cn_yes hs] at h1; omega
theorem cn_cut {P : Nat → Bool} {T : Nat} : ∀ N, T ≤ N → cn (fun s => P s && decide (s < T)) N = cn P T
  | 0, h => by have : T = 0 := by omega
               subst this; rfl
  | N + 1, h => by
    by_cases e : T = N + 1
    · subst e
      refine cn_congr _ (fun j hj => ?_)
      rw [decide_eq_true hj, Bool.and_true]
    · rw [cn_no (by rw [decide_eq_false (by omega), Bool.and_false])]
      exact cn_cut N (by omega)
/-- A point's first number is how many kinds are below its set. -/
theorem fi_kb {g : Nat → Nat} {n : Nat} (hn : n ≤ 10) (hg : Sm n n g) (h : NoTwo g n) {i : Nat} (hi : i < n) : fi g n i = kb g n (g i) := by
  unfold fi kb
  rw [← cn_cut (pw n) (Nat.le_of_lt (hg i hi))]
  refine cn_congr _ (fun s _ => ?_)
  cases e : inB g n s
  · rfl
  · obtain ⟨y, hy, rfl⟩ := inB_iff.1 e
    rw [Bool.true_and, Bool.true_and]
    by_cases q : g y = g i
    · rw [q, decide_eq_false (Nat.lt_irrefl _), decide_eq_false (Nat.lt_irrefl _)]
    · have hd : ∃ z, (g y).testBit z ≠ (g i).testBit z := by
        refine Classical.byContradiction (fun hc => q (Nat.eq_of_testBit_eq (fun z => ?_)))
        refine Classical.byContradiction (fun hz => hc ⟨z, hz⟩)
      obtain ⟨z, hz⟩ := hd
      cases e1 : (g y).testBit z
      · have e2 : (g i).testBit z = true := by
          cases e2 : (g i).testBit z
          · rw [e1, e2] at hz; exact absurd rfl hz
          · rfl
        rw [decide_eq_true (noTwo_pc hn hg h hi hy e2 e1), decide_eq_true (noTwo_lt hg h hi hy e2 e1)]
      · have e2 : (g i).testBit z = false := by
          cases e2 : (g i).testBit z
          · rfl
          · rw [e1, e2] at hz; exact absurd rfl hz
        have a1 := noTwo_pc hn hg h hy hi e1 e2
        have a2 := noTwo_lt hg h hy hi e1 e2
        rw [decide_eq_false (by omega), decide_eq_false (by omega)]
theorem first_all {g : Nat → Nat} {n t : Nat} (hn : n ≤ 10) (hg : Sm n n g) (h : NoTwo g n) (ht : t < kb g n (pw n)) : ∃ i, i < n ∧ fi g n i = t := by
  obtain ⟨T, _, h2, h3⟩ := kb_at _ ht
  obtain ⟨i, hi, rfl⟩ := inB_iff.1 h2
  exact ⟨i, hi, by rw [fi_kb hn hg h hi, h3]⟩
theorem la_le {g : Nat → Nat} {n i : Nat} : la g n i ≤ kb g n (pw n) := cn_mono _ (fun s _ hs => by
  simp only [Bool.and_eq_true] at hs; exact hs.1)
theorem last_all {g : Nat → Nat} {n t : Nat} (hn : n ≤ 10) (hg : Sm n n g) (ho : Ord n g) (h : NoTwo g n) (ht : t < kb g n (pw n)) : ∃ i, i < n ∧ la g n i = t + 1 := by
  obtain ⟨T, hT, h2, h3⟩ := kb_at _ ht
  obtain ⟨u, hu, rfl⟩ := inB_iff.1 h2
  by_cases e : t + 1 < kb g n (pw n)
  · obtain ⟨T', hT', k2, k3⟩ := kb_at _ e
    obtain ⟨v, hv, rfl⟩ := inB_iff.1 k2
    have huv : g u < g v := by
      rcases Nat.lt_or_ge (g u) (g v) with q | q
      · exact q
      · have := kb_mono (g := g) (n := n) q; omega
    obtain ⟨i, hi1, hi2⟩ : ∃ i, (g v).testBit i = true ∧ (g u).testBit i = false := by
      refine Classical.byContradiction (fun hc => ?_)
      have hs : ∀ j, (g v).testBit j = true → (g u).testBit j = true := fun j hj => by
        cases q : (g u).testBit j
        · exact absurd ⟨j, hj, q⟩ hc
        · rfl
      have : g v &&& g u = g v := by
        apply Nat.eq_of_testBit_eq
        intro j
        rw [Nat.testBit_and]
        cases hj : (g v).testBit j
        · rfl
        · rw [hs j hj]; rfl
      have h5 : g v ≤ g u := by rw [← this]; exact Nat.and_le_right
      omega
    refine ⟨i, bit_lt hT' hi1, ?_⟩
    unfold la
    rw [← k3]
    unfold kb
    rw [← cn_cut (pw n) (Nat.le_of_lt hT')]
    refine cn_congr _ (fun s _ => ?_)
    cases q : inB g n s
    · rfl
    · obtain ⟨y, hy, rfl⟩ := inB_iff.1 q
      rw [Bool.true_and, Bool.true_and]
      cases q2 : (g y).testBit i
      · rw [decide_eq_true (noTwo_lt hg h hv hy hi1 q2)]; rfl
      · have a1 := noTwo_lt hg h hy hu q2 hi2
        rw [decide_eq_false]
        · rfl
        · intro a2
          have b1 := kb_lt (g := g) (n := n) a1 h2
          have b2 := kb_lt (g := g) (n := n) a2 q
          omega
  · have hm : kb g n (pw n) = t + 1 := by omega
    -- a point that is in no set
    have hmax : ∀ k, (∃ i, i < n ∧ pc (g i) + k ≥ 11) → ∃ i, i < n ∧ ∀ y, y < n → (g y).testBit i = false := by
      intro k
      induction k with
      | zero => rintro ⟨i, hi, h1⟩; have := pcn_le (g i) 10; unfold pc at h1; omega
      | succ k ih =>
        rintro ⟨i, hi, h1⟩
        by_cases q : ∃ y, y < n ∧ (g y).testBit i = true
        · obtain ⟨y, hy, h2⟩ := q
          refine ih ⟨y, hy, ?_⟩
          have := pc_strict (s := g i) (t := g y) (fun j hj => ord_tr hn hg ho hi hy hj h2) (Nat.lt_of_lt_of_le hi hn) (ho i hi).1 h2
          omega
        · refine ⟨i, hi, fun y hy => ?_⟩
          cases q2 : (g y).testBit i
          · rfl
          · exact absurd ⟨y, hy, q2⟩ q
    obtain ⟨i, hi, hno⟩ := hmax 11 ⟨u, hu, by omega⟩
    refine ⟨i, hi, ?_⟩
    rw [← hm]
    unfold la kb
    refine cn_congr _ (fun s _ => ?_)
    cases q : inB g n s
    · rfl
    · obtain ⟨y, hy, rfl⟩ := inB_iff.1 q
      rw [hno y hy]; rfl
end Go.Proofs.Ytkknfnjhpamfbaa
