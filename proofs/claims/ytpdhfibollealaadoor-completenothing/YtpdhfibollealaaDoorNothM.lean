/-
  An order is a lattice just if it has as many cuts as points, and some; what is turned round has as many cuts. Conditions: an order of at most ten points.
-/
import Derived.Test.YtpdhfibollealaaDoorKeepM
import Derived.Test.YtpdhfibollealaaDoorTablesO
namespace Go.Proofs.YtpdhfibollealaaDoor

/-- No more are told apart than there are. -/
theorem php : ∀ (n k : Nat) (f : Nat → Nat), (∀ i, i < n → f i < k) → (∀ i j, i < n → j < n → f i = f j → i = j) → n ≤ k
  | 0, _, _, _, _ => Nat.zero_le _
  | n + 1, k, f, h1, h2 => by
    have hk := h1 n (Nat.lt_succ_self n)
    have := php n (k - 1) (fun i => if f i > f n then f i - 1 else f i) (fun i hi => by
      have a := h1 i (by omega)
      have b : f i ≠ f n := fun e => by have := h2 i n (by omega) (by omega) e; omega
      show (if f i > f n then f i - 1 else f i) < k - 1
      by_cases c : f i > f n
      · rw [if_pos c]; omega
      · rw [if_neg c]; omega) (fun i j hi hj e => by
      have a : f i ≠ f n := fun e => by have := h2 i n (by omega) (by omega) e; omega
      have b : f j ≠ f n := fun e => by have := h2 j n (by omega) (by omega) e; omega
      refine h2 i j (by omega) (by omega) ?_
      by_cases c : f i > f n
      · by_cases d : f j > f n
        · rw [if_pos c, if_pos d] at e; omega
        · rw [if_pos c, if_neg d] at e; omega
      · by_cases d : f j > f n
        · rw [if_neg c, if_pos d] at e; omega
        · rw [if_neg c, if_neg d] at e; omega)
    omega
theorem php_onto {n : Nat} {f : Nat → Nat} (h1 : ∀ i, i < n → f i < n) (h2 : ∀ i j, i < n → j < n → f i = f j → i = j) {y : Nat} (hy : y < n) : ∃ x, x < n ∧ f x = y := by
  refine Classical.byContradiction fun hno => ?_
  have hne : ∀ i, i < n → f i ≠ y := fun i hi e => hno ⟨i, hi, e⟩
  have := php n (n - 1) (fun i => if f i > y then f i - 1 else f i) (fun i hi => by
      have a := h1 i hi
      have b := hne i hi
      show (if f i > y then f i - 1 else f i) < n - 1
      by_cases c : f i > y
      · rw [if_pos c]; omega
      · rw [if_neg c]; omega) (fun i j hi hj e => by
      have a := hne i hi
      have b := hne j hj
      refine h2 i j hi hj ?_
      by_cases c : f i > y
      · by_cases d : f j > y
        · rw [if_pos c, if_pos d] at e; omega
        · rw [if_pos c, if_neg d] at e; omega
      · by_cases d : f j > y
        · rw [if_neg c, if_pos d] at e; omega
        · rw [if_neg c, if_neg d] at e; omega)
  omega
section
variable {g : Nat → Nat} {n : Nat}
theorem low_back (hg : ∀ k, k < n → g k < pw n) (s : Nat) : low (trn (trn g n) n) n s = low g n s := by
  have e : ∀ i k, k < n → upt (trn (trn g n) n) i k = upt g i k := fun i k hk => by
    unfold upt; rw [trn_trn hg k hk]
  refine Sub.eq (fun i hi => ?_) (fun i hi => ?_)
  · rw [low_bit] at hi ⊢
    exact ⟨hi.1, fun k hk hb => by rw [← e i k hk]; exact hi.2 k hk hb⟩
  · rw [low_bit] at hi ⊢
    exact ⟨hi.1, fun k hk hb => by rw [e i k hk]; exact hi.2 k hk hb⟩
theorem cutW_turn (hg : ∀ k, k < n → g k < pw n) (s : Nat) : cutW (trn g n) n s = low (trn g n) n (low g n s) := by
  show low (trn g n) n (low (trn (trn g n) n) n s) = _
  rw [low_back hg]
/-- What is turned round has as many cuts. -/
theorem cuts_turn (hg : ∀ k, k < n → g k < pw n) : (cuts (trn g n) n).length = (cuts g n).length := by
  apply Nat.le_antisymm
  · refine php _ _ (fun k => plc (cuts g n) (low g n (nth (cuts (trn g n) n) k))) (fun k hk => ?_) fun a b ha hb e => ?_
    · obtain ⟨_, h2⟩ := cuts_at hk
      rw [cutW_turn hg] at h2
      refine (plc_is (cuts_mem.2 ⟨low_lt _ _ _, ?_⟩)).1
      show low g n (low (trn g n) n (low g n _)) = _
      rw [h2]
    · have key : ∀ k, k < (cuts (trn g n) n).length → low g n (nth (cuts (trn g n) n) k) ∈ cuts g n ∧ low (trn g n) n (low g n (nth (cuts (trn g n) n) k)) = nth (cuts (trn g n) n) k := fun k hk => by
        obtain ⟨_, h2⟩ := cuts_at hk
        rw [cutW_turn hg] at h2
        refine ⟨cuts_mem.2 ⟨low_lt _ _ _, ?_⟩, h2⟩
        show low g n (low (trn g n) n (low g n _)) = _
        rw [h2]
      refine at_one ha hb ?_
      rw [← (key a ha).2, ← (key b hb).2, ← (plc_is (key a ha).1).2, ← (plc_is (key b hb).1).2]
      exact congrArg (fun z => low (trn g n) n (nth (cuts g n) z)) e
  · have key : ∀ k, k < (cuts g n).length → low (trn g n) n (nth (cuts g n) k) ∈ cuts (trn g n) n ∧ low g n (low (trn g n) n (nth (cuts g n) k)) = nth (cuts g n) k := fun k hk => by
      obtain ⟨_, h2⟩ := cuts_at hk
      have h3 : low g n (low (trn g n) n (nth (cuts g n) k)) = nth (cuts g n) k := h2
      refine ⟨cuts_mem.2 ⟨low_lt _ _ _, ?_⟩, h3⟩
      rw [cutW_turn hg, h3]
    refine php _ _ (fun k => plc (cuts (trn g n) n) (low (trn g n) n (nth (cuts g n) k))) (fun k hk => (plc_is (key k hk).1).1) fun a b ha hb e => at_one ha hb ?_
    rw [← (key a ha).2, ← (key b hb).2, ← (plc_is (key a ha).1).2, ← (plc_is (key b hb).1).2]
    exact congrArg (fun z => low g n (nth (cuts (trn g n) n) z)) e
theorem upto_one (hn : n ≤ 10) (hg : ∀ k, k < n → g k < pw n) (ho : Ord n g) {a b : Nat} (ha : a < n) (hb : b < n) (e : upto g a = upto g b) : a = b := by
  have h1 : upt g a b = true := by rw [← upto_bit, ← e, upto_bit]; exact upt_refl g a
  have h2 : upt g b a = true := by rw [← upto_bit, e, upto_bit]; exact upt_refl g b
  unfold upt at h1 h2
  rw [Bool.or_eq_true, decide_eq_true_iff] at h1 h2
  rcases h1 with h1 | h1
  · exact h1
  · rcases h2 with h2 | h2
    · exact h2.symm
    · have := ord_tr hn hg ho hb ha h1 h2
      rw [(ho a ha).1] at this; cases this
theorem ctp_one (hn : n ≤ 10) (hg : ∀ k, k < n → g k < pw n) (ho : Ord n g) {a b : Nat} (ha : a < n) (hb : b < n) (e : ctp g n a = ctp g n b) : a = b := by
  refine upto_one hn hg ho ha hb ?_
  rw [← (ctp_is hg ha).2, ← (ctp_is hg hb).2, e]
theorem cuts_ge (hn : n ≤ 10) (hg : ∀ k, k < n → g k < pw n) (ho : Ord n g) : n ≤ (cuts g n).length :=
  php n _ (ctp g n) (fun _ hk => (ctp_is hg hk).1) (fun _ _ ha hb e => ctp_one hn hg ho ha hb e)
theorem up_upt (g : Nat → Nat) (p k : Nat) : (up g p).testBit k = upt g k p := upto_bit g p k
/-- With no more cuts than points any two points have a meet. -/
theorem meets_of (hn : n ≤ 10) (hg : ∀ k, k < n → g k < pw n) (ho : Ord n g) (he : (cuts g n).length = n) : AllMt g n := fun x y hx hy => by
  obtain ⟨q1, q2⟩ := ctm_is (ctp_is hg hx).1 (ctp_is hg hy).1
  obtain ⟨p, hp, e⟩ := php_onto (n := n) (f := ctp g n) (fun k hk => by have := (ctp_is hg hk).1; omega) (fun _ _ ha hb e => ctp_one hn hg ho ha hb e) (y := ctm g n (ctp g n x) (ctp g n y)) (by omega)
  rw [← e, (ctp_is hg hp).2, (ctp_is hg hx).2, (ctp_is hg hy).2] at q2
  have e2 : up g x &&& up g y = up g p := q2.symm
  refine ⟨p, ?_⟩
  unfold Mt
  rw [e2]
  exact ⟨by rw [up_upt]; exact upt_refl g p, fun k hk => hk⟩
theorem mt_le {x y p : Nat} (h : Mt g x y p) : upt g p x = true ∧ upt g p y = true ∧ ∀ k, upt g k x = true → upt g k y = true → upt g k p = true := by
  obtain ⟨h1, h2⟩ := h
  rw [Nat.testBit_and, Bool.and_eq_true, up_upt, up_upt] at h1
  refine ⟨h1.1, h1.2, fun k hx hy => ?_⟩
  have := h2 k (by rw [Nat.testBit_and, Bool.and_eq_true, up_upt, up_upt]; exact ⟨hx, hy⟩)
  rw [up_upt] at this; exact this
theorem bottom (hn : n ≤ 10) (hg : ∀ k, k < n → g k < pw n) (ho : Ord n g) (hm : AllMt g n) (h1 : 1 ≤ n) : ∀ k, k ≤ n → ∃ b, b < n ∧ ∀ i, i < k → upt g b i = true
  | 0, _ => ⟨0, h1, fun i hi => absurd hi (Nat.not_lt_zero _)⟩
  | k + 1, hk => by
    obtain ⟨b, hb, h⟩ := bottom hn hg ho hm h1 k (by omega)
    obtain ⟨p, hp⟩ := hm b k hb (by omega)
    obtain ⟨l1, l2, _⟩ := mt_le hp
    refine ⟨p, Mt.lt hg hb hp, fun i hi => ?_⟩
    by_cases e : i = k
    · subst e; exact l2
    · exact upt_tr hn hg ho hb (by omega) l1 (h i (by omega))
/-- In a lattice a cut is all up to one point. -/
theorem principal (hn : n ≤ 10) (hg : ∀ k, k < n → g k < pw n) (ho : Ord n g) (hm : AllMt g n) (hj : AllMt (trn g n) n) (h1 : 1 ≤ n) {s : Nat} (hs : s < pw n) (hc : cutW g n s = s) : ∃ p, p < n ∧ s = upto g p := by
  have hin : ∀ i, s.testBit i = true ↔ i < n ∧ ∀ k, k < n → (low (trn g n) n s).testBit k = true → upt g i k = true := fun i => by
    rw [← low_bit]
    have : low g n (low (trn g n) n s) = s := hc
    rw [this]
  obtain ⟨b, hb, hbot⟩ := bottom hn hg ho hm h1 n (Nat.le_refl _)
  have hjoin : ∀ k, k ≤ n → ∃ p, p < n ∧ s.testBit p = true ∧ ∀ i, i < k → s.testBit i = true → upt g i p = true := by
    intro k
    induction k with
    | zero => exact fun _ => ⟨b, hb, (hin b).2 ⟨hb, fun k hk _ => hbot k hk⟩, fun i hi => absurd hi (Nat.not_lt_zero _)⟩
    | succ k ih =>
      intro hk
      obtain ⟨p, hp, hps, hpu⟩ := ih (by omega)
      cases hks : s.testBit k
      · refine ⟨p, hp, hps, fun i hi hi2 => ?_⟩
        by_cases e : i = k
        · subst e; rw [hks] at hi2; cases hi2
        · exact hpu i (by omega) hi2
      · obtain ⟨q, hq⟩ := hj p k hp (by omega)
        have hqn : q < n := Mt.lt (fun k _ => trn_lt g n k) hp hq
        obtain ⟨l1, l2, l3⟩ := mt_le hq
        rw [upt_trn hqn] at l1 l2
        refine ⟨q, hqn, (hin q).2 ⟨hqn, fun u hu hub => ?_⟩, fun i hi hi2 => ?_⟩
        · rw [up_bit] at hub
          have a1 := hub.2 p hp hps
          have a2 := hub.2 k (by omega) hks
          have := l3 u (by rw [upt_trn hu]; exact a1) (by rw [upt_trn hu]; exact a2)
          rw [upt_trn hu] at this; exact this
        · by_cases e : i = k
          · subst e; exact l2
          · exact upt_tr hn hg ho hp hqn (hpu i (by omega) hi2) l1
  obtain ⟨p, hp, hps, hpu⟩ := hjoin n (Nat.le_refl _)
  refine ⟨p, hp, Sub.eq (fun i hi => ?_) (cut_down hn hg ho hc hp hps)⟩
  rw [upto_bit]
  exact hpu i (bit_of_lt hs hi) hi
theorem nothing_iff (hn : n ≤ 10) (hg : ∀ k, k < n → g k < pw n) (ho : Ord n g) : (1 ≤ n ∧ AllMt g n ∧ AllMt (trn g n) n) ↔ ((cuts g n).length = n ∧ 0 < n) := by
  constructor
  · rintro ⟨h1, hm, hj⟩
    refine ⟨Nat.le_antisymm ?_ (cuts_ge hn hg ho), h1⟩
    have hp : ∀ k, k < (cuts g n).length → ∃ p, p < n ∧ nth (cuts g n) k = upto g p := fun k hk => principal hn hg ho hm hj h1 (cuts_at hk).1 (cuts_at hk).2
    refine php _ n (fun k => if hk : k < (cuts g n).length then Classical.choose (hp k hk) else 0) (fun k hk => ?_) fun a b ha hb e => ?_
    · simp only [dif_pos hk]
      exact (Classical.choose_spec (hp k hk)).1
    · simp only [dif_pos ha, dif_pos hb] at e
      refine at_one ha hb ?_
      rw [(Classical.choose_spec (hp a ha)).2, (Classical.choose_spec (hp b hb)).2, e]
  · rintro ⟨he, h1⟩
    exact ⟨h1, meets_of hn hg ho he, meets_of hn (fun k _ => trn_lt g n k) (trn_ord hn hg ho) (by rw [cuts_turn hg, he])⟩
end
end Go.Proofs.YtpdhfibollealaaDoor
