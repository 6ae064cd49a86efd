/-
  Chains that part the points: plain facts. No Go text here. Conditions: at most ten points.
-/
import Derived.Test.YtfcaeicekpcilaaDoorParts
import Derived.Test.YtfcaeicekpcilaaDoorRefChain
namespace Go.Proofs.YtfcaeicekpcilaaDoor
open Go.RowKit

theorem add_bit {s i : Nat} (h : s.testBit i = false) (k : Nat) : (s + pw i).testBit k = (s.testBit k || decide (i = k)) := by
  rw [← or_free h, Nat.testBit_or, pw_bit]
theorem pc_add {s p n : Nat} (hn : n ≤ 10) (hs : s < pw n) (hp : p < n) (h : s.testBit p = false) : pc (s + pw p) = pc s + 1 := by
  have hlt : s + pw p < pw n := by rw [← or_free h]; exact or_lt hs hp
  rw [pc_cnt hn hs, pc_cnt hn hlt]
  have e := cnt2_remove (Q := fun j => (s + pw p).testBit j) n hp (by rw [add_bit h]; simp)
  rw [e]
  congr 1
  refine cnt2_congr n fun k _ => ?_
  rw [add_bit h]
  by_cases e2 : k = p
  · subst e2; simp [h]
  · have e3 : decide (p = k) = false := by simp; omega
    have e4 : decide (k ≠ p) = true := by simp [e2]
    rw [e3, e4]; simp
theorem pair_nth {R : Nat → Nat → Prop} {l : List Nat} (h : l.Pairwise R) {i j : Nat} (hij : i < j) (hj : j < l.length) : R (nth l i) (nth l j) := by
  have := List.pairwise_iff_getElem.1 h i j (by omega) hj hij
  have e1 : nth l i = l[i]'(by omega) := by simp [nth, show i < l.length by omega]
  have e2 : nth l j = l[j] := by simp [nth, hj]
  rw [e1, e2]; exact this
theorem mem_nth {l : List Nat} {q : Nat} : q ∈ l ↔ ∃ j, j < l.length ∧ nth l j = q := by
  constructor
  · intro h
    obtain ⟨j, hj, e⟩ := List.mem_iff_getElem.1 h
    exact ⟨j, hj, by simp [nth, hj, e]⟩
  · rintro ⟨j, hj, e⟩
    rw [← e]; exact nth_mem hj
/-- Lists that part n points into chains. -/
structure Ptd (g : Nat → Nat) (n m : Nat) (LL : Nat → List Nat) : Prop where
  lt : ∀ k, k < m → ∀ q ∈ LL k, q < n
  ne : ∀ k, k < m → 0 < (LL k).length
  pair : ∀ k, k < m → (LL k).Pairwise (fun a b => (g b).testBit a = true)
  dis : ∀ k k', k < m → k' < m → ∀ q, q ∈ LL k → q ∈ LL k' → k = k'
  all : ∀ q, q < n → ∃ k, k < m ∧ q ∈ LL k
/-- What is seen behind the first i lists. -/
def SeenO (n : Nat) (LL : Nat → List Nat) (i S : Nat) : Prop := S < pw n ∧ ∀ q, q < n → (S.testBit q = true ↔ ∃ k, k < i ∧ q ∈ LL k)
/-- What is seen inside of a list, and of that list alone. -/
def SeenI (n : Nat) (LL : Nat → List Nat) (i t S T : Nat) : Prop :=
  S < pw n ∧ T < pw n ∧ (∀ q, q < n → (T.testBit q = true ↔ ∃ j, j < t ∧ nth (LL i) j = q)) ∧ ∀ q, q < n → (S.testBit q = true ↔ T.testBit q = true ∨ ∃ k, k < i ∧ q ∈ LL k)
theorem SeenO.start (n : Nat) (LL : Nat → List Nat) : SeenO n LL 0 0 := ⟨pw_pos n, fun q _ => ⟨fun h => by simp at h, fun ⟨_, h, _⟩ => absurd h (Nat.not_lt_zero _)⟩⟩
theorem SeenO.into {n : Nat} {LL : Nat → List Nat} {i S : Nat} (h : SeenO n LL i S) : SeenI n LL i 0 S 0 :=
  ⟨h.1, pw_pos n, fun q _ => ⟨fun h => by simp at h, fun ⟨_, h, _⟩ => absurd h (Nat.not_lt_zero _)⟩, fun q hq => by rw [h.2 q hq]; simp⟩
theorem SeenI.new {g : Nat → Nat} {n m : Nat} {LL : Nat → List Nat} (hP : Ptd g n m LL) (ho : Ord n g) {i t S T : Nat} (h : SeenI n LL i t S T) (hi : i < m) (ht : t < (LL i).length) :
    nth (LL i) t < n ∧ S.testBit (nth (LL i) t) = false ∧ T.testBit (nth (LL i) t) = false := by
  have hmem := nth_mem ht
  have hp := hP.lt i hi _ hmem
  have hT : T.testBit (nth (LL i) t) = false := by
    cases hb : T.testBit (nth (LL i) t)
    · rfl
    · obtain ⟨j, hj, e⟩ := (h.2.2.1 _ hp).1 hb
      have h1 := pair_nth (hP.pair i hi) hj ht
      rw [e, (ho _ hp).1] at h1; cases h1
  refine ⟨hp, ?_, hT⟩
  cases hb : S.testBit (nth (LL i) t)
  · rfl
  · rcases (h.2.2.2 _ hp).1 hb with h1 | ⟨k, hk, h1⟩
    · rw [hT] at h1; cases h1
    · have := hP.dis k i (by omega) hi _ h1 hmem
      omega
theorem SeenI.put {g : Nat → Nat} {n m : Nat} {LL : Nat → List Nat} (hP : Ptd g n m LL) (ho : Ord n g) {i t S T : Nat} (h : SeenI n LL i t S T) (hi : i < m) (ht : t < (LL i).length) :
    SeenI n LL i (t + 1) (S + pw (nth (LL i) t)) (T + pw (nth (LL i) t)) := by
  obtain ⟨hp, hS, hT⟩ := h.new hP ho hi ht
  have e1 : ∀ q, q < n → ((T + pw (nth (LL i) t)).testBit q = true ↔ ∃ j, j < t + 1 ∧ nth (LL i) j = q) := fun q hq => by
    rw [add_bit hT, Bool.or_eq_true, h.2.2.1 q hq, decide_eq_true_iff]
    constructor
    · rintro (⟨j, hj, e⟩ | e)
      · exact ⟨j, by omega, e⟩
      · exact ⟨t, by omega, e⟩
    · rintro ⟨j, hj, e⟩
      by_cases e2 : j = t
      · exact .inr (by rw [← e, e2])
      · exact .inl ⟨j, by omega, e⟩
  refine ⟨by rw [← or_free hS]; exact or_lt h.1 hp, by rw [← or_free hT]; exact or_lt h.2.1 hp, e1, fun q hq => ?_⟩
  rw [add_bit hS, add_bit hT, Bool.or_eq_true, Bool.or_eq_true, h.2.2.2 q hq]
  constructor
  · rintro ((h1 | h1) | h1)
    · exact .inl (.inl h1)
    · exact .inr h1
    · exact .inl (.inr h1)
  · rintro ((h1 | h1) | h1)
    · exact .inl (.inl h1)
    · exact .inr h1
    · exact .inl (.inr h1)
theorem SeenI.out {n : Nat} {LL : Nat → List Nat} {i S T : Nat} (h : SeenI n LL i (LL i).length S T) : SeenO n LL (i + 1) S := by
  refine ⟨h.1, fun q hq => ?_⟩
  rw [h.2.2.2 q hq, h.2.2.1 q hq, ← mem_nth]
  constructor
  · rintro (h1 | ⟨k, hk, h1⟩)
    · exact ⟨i, by omega, h1⟩
    · exact ⟨k, by omega, h1⟩
  · rintro ⟨k, hk, h1⟩
    by_cases e : k = i
    · exact .inl (by rw [← e]; exact h1)
    · exact .inr ⟨k, by omega, h1⟩
theorem SeenI.chain {g : Nat → Nat} {n m : Nat} {LL : Nat → List Nat} (hP : Ptd g n m LL) {i S T : Nat} (h : SeenI n LL i (LL i).length S T) (hi : i < m) : chB g n T = true := by
  refine (chB_iff g n T).2 fun x hx y hy h1 h2 => ?_
  obtain ⟨j, hj, e1⟩ := (h.2.2.1 x hx).1 h1
  obtain ⟨k, hk, e2⟩ := (h.2.2.1 y (by omega)).1 h2
  rcases Nat.lt_trichotomy j k with h3 | h3 | h3
  · have := pair_nth (hP.pair i hi) h3 hk
    rw [e1, e2] at this; exact .inl this
  · rw [h3, e2] at e1; omega
  · have := pair_nth (hP.pair i hi) h3 hj
    rw [e1, e2] at this; exact .inr this
theorem SeenI.some {g : Nat → Nat} {n m : Nat} {LL : Nat → List Nat} (hP : Ptd g n m LL) {i S T : Nat} (h : SeenI n LL i (LL i).length S T) (hi : i < m) : T ≠ 0 := fun e => by
  have h0 := hP.ne i hi
  have := (h.2.2.1 (nth (LL i) 0) (hP.lt i hi _ (nth_mem h0))).2 ⟨0, h0, rfl⟩
  rw [e] at this; simp at this
theorem SeenO.full {g : Nat → Nat} {n m : Nat} {LL : Nat → List Nat} (hn : n ≤ 10) (hP : Ptd g n m LL) {S : Nat} (h : SeenO n LL m S) : pc S = n := by
  rw [pc_cnt hn h.1]
  have e := cnt2_not (fun j => S.testBit j) n
  have e2 : cnt2 (fun j => !S.testBit j) n = 0 := by
    have := cnt2_imp (P := fun j => !S.testBit j) (Q := fun _ => false) n (fun k hk h1 => by
      rw [(h.2 k hk).2 (hP.all k hk)] at h1; exact h1)
    have e3 : ∀ k, cnt2 (fun _ => false) k = 0 := fun k => by
      induction k with
      | zero => rfl
      | succ k ih => rw [cnt2_no rfl]; exact ih
    rw [e3 n] at this
    omega
  omega
/-- The chains that a matching leaves part the points. -/
theorem ptd_of {g : Nat → Nat} {n : Nat} {G : Nat → Int} (hn : n ≤ 10) (hg : Sm n n g) (ho : Ord n g) (hG : Nxt g n G) : Ptd g n (pts (fr n G n) 10).length (fun k => fl g n G (nth (pts (fr n G n) 10) k)) := by
  have hm : ∀ k, k < (pts (fr n G n) 10).length → nth (pts (fr n G n) 10) k < n ∧ Frst n G (nth (pts (fr n G n) 10) k) := fun k hk => by
    have h1 := ((pts_mem _ 10 _).1 (nth_mem hk)).2
    have h2 : nth (pts (fr n G n) 10) k < n := bit_of_lt (fr_lt n G n) h1
    exact ⟨h2, (fr_bit h2).1 h1⟩
  refine ⟨fun k hk => fl_lt hn hg ho hG (hm k hk).1, fun k hk => List.length_pos_of_mem (fl_head hn hg ho hG (hm k hk).1), fun k hk => fl_pair hn hg ho hG (hm k hk).1, fun k k' hk hk' q h1 h2 => ?_, fun q hq => ?_⟩
  · have hq := fl_lt hn hg ho hG (hm k hk).1 q h1
    have e := root_one hn hg ho hG (hm k hk).1 (hm k' hk').1 (hm k hk).2 (hm k' hk').2 (g q) q hq (Nat.le_refl _) h1 h2
    rcases Nat.lt_trichotomy k k' with h | h | h
    · have := pair_nth (pts_pair (fr n G n) 10) h hk'; omega
    · exact h
    · have := pair_nth (pts_pair (fr n G n) 10) h hk; omega
  · obtain ⟨f, hf, hF, hqf⟩ := root_ex hn hg ho hG (g q) q hq (Nat.le_refl _)
    have hfm : f ∈ pts (fr n G n) 10 := (pts_mem _ 10 f).2 ⟨by omega, (fr_bit hf).2 hF⟩
    obtain ⟨k, hk, e⟩ := mem_nth.1 hfm
    exact ⟨k, hk, by rw [e]; exact hqf⟩
end Go.Proofs.YtfcaeicekpcilaaDoor
