/-
  Lists of numbers that a test lets by: they rise; where each stands. Ideals: what two have in common, and together, is one. Conditions: as each theorem says.
-/
import Derived.Test.YtpgbcnbhfgopdaaIdeals
import Derived.Test.YtpgbcnbhfgopdaaPlace
namespace Go.Proofs.Ytpgbcnbhfgopdaa

theorem fil_mem (I : Nat → Bool) : ∀ k s, s ∈ fil I k ↔ s < k ∧ I s = true
  | 0, s => by simp [fil]
  | k + 1, s => by
    have ih := fil_mem I k s
    cases h : I k
    · rw [fil_no h, ih]
      constructor
      · rintro ⟨a, b⟩; exact ⟨by omega, b⟩
      · rintro ⟨a, b⟩
        have : s ≠ k := fun e => by subst e; rw [h] at b; cases b
        exact ⟨by omega, b⟩
    · rw [fil_yes h, List.mem_append, ih, List.mem_singleton]
      constructor
      · rintro (⟨a, b⟩ | rfl)
        · exact ⟨by omega, b⟩
        · exact ⟨by omega, h⟩
      · rintro ⟨a, b⟩
        by_cases e : s = k
        · exact .inr e
        · exact .inl ⟨by omega, b⟩
theorem nth_mem {l : List Nat} {k : Nat} (hk : k < l.length) : nth l k ∈ l := by
  unfold nth; rw [List.getD_eq_getElem?_getD, List.getElem?_eq_getElem hk]; exact List.getElem_mem hk
theorem nth_app_l {l r : List Nat} {k : Nat} (hk : k < l.length) : nth (l ++ r) k = nth l k := by
  unfold nth; rw [List.getD_eq_getElem?_getD, List.getD_eq_getElem?_getD, List.getElem?_append_left hk]
theorem nth_app_r (l : List Nat) (s : Nat) : nth (l ++ [s]) l.length = s := by
  unfold nth; simp
theorem fil_rises (I : Nat → Bool) : ∀ k, Rises (fil I k)
  | 0 => fun i j _ hj => by simp [fil] at hj
  | k + 1 => by
    have ih := fil_rises I k
    cases h : I k
    · rw [fil_no h]; exact ih
    · rw [fil_yes h]
      intro i j hij hj
      rw [List.length_append, List.length_singleton] at hj
      by_cases e : j = (fil I k).length
      · subst e
        rw [nth_app_l hij, nth_app_r]
        exact ((fil_mem I k _).1 (nth_mem hij)).1
      · rw [nth_app_l (by omega), nth_app_l (by omega)]
        exact ih i j hij (by omega)
/-- Where s stands in a list. -/
def plc (l : List Nat) (s : Nat) : Nat := l.idxOf s
theorem plc_is {l : List Nat} {s : Nat} (h : s ∈ l) : plc l s < l.length ∧ nth l (plc l s) = s := by
  have h1 : l.idxOf s < l.length := List.idxOf_lt_length_of_mem h
  refine ⟨h1, ?_⟩
  unfold nth plc
  rw [List.getD_eq_getElem?_getD, List.getElem?_eq_getElem h1]
  exact List.getElem_idxOf h1
theorem Rises.plc {l : List Nat} (h : Rises l) {k : Nat} (hk : k < l.length) : plc l (nth l k) = k := by
  obtain ⟨h1, h2⟩ := plc_is (nth_mem hk)
  exact h.one h1 hk h2

/-- Is s an ideal? -/
def Idl (g : Nat → Nat) (n s : Nat) : Prop := ∀ p, p < n → s.testBit p = true → ∀ i, (g p).testBit i = true → s.testBit i = true
theorem idl_iff {g : Nat → Nat} {n s : Nat} (hg : ∀ k, k < n → g k < 1024) (hs : s < 1024) : idlTo g s n = true ↔ Idl g n s := by
  rw [idlTo_iff]
  constructor
  · intro h p hp hb i hi
    have := hg p hp
    exact (lack_zero _ _ (by omega) (by omega)).1 (h p hp hb) i hi
  · intro h p hp hb
    have := hg p hp
    exact (lack_zero _ _ (by omega) (by omega)).2 (fun i hi => h p hp hb i hi)
theorem Idl.and {g : Nat → Nat} {n s t : Nat} (h : Idl g n s) (h' : Idl g n t) : Idl g n (s &&& t) := fun p hp hb i hi => by
  rw [Nat.testBit_and, Bool.and_eq_true] at hb ⊢
  exact ⟨h p hp hb.1 i hi, h' p hp hb.2 i hi⟩
theorem Idl.or {g : Nat → Nat} {n s t : Nat} (h : Idl g n s) (h' : Idl g n t) : Idl g n (s ||| t) := fun p hp hb i hi => by
  rw [Nat.testBit_or, Bool.or_eq_true] at hb ⊢
  rcases hb with hb | hb
  · exact .inl (h p hp hb i hi)
  · exact .inr (h' p hp hb i hi)
theorem idls_mem {g : Nat → Nat} {n s : Nat} (hn : n ≤ 10) (hg : ∀ k, k < n → g k < 1024) : s ∈ idls g n ↔ s < pw n ∧ Idl g n s := by
  unfold idls
  rw [fil_mem]
  have hpw := pw_le n hn
  constructor
  · rintro ⟨a, b⟩; exact ⟨a, (idl_iff hg (by omega)).1 b⟩
  · rintro ⟨a, b⟩; exact ⟨a, (idl_iff hg (by omega)).2 b⟩
theorem idls_at {g : Nat → Nat} {n k : Nat} (hn : n ≤ 10) (hg : ∀ k, k < n → g k < 1024) (hk : k < (idls g n).length) : nth (idls g n) k < pw n ∧ Idl g n (nth (idls g n) k) := (idls_mem hn hg).1 (nth_mem hk)
def idm (g : Nat → Nat) (n x y : Nat) : Nat := plc (idls g n) (nth (idls g n) x &&& nth (idls g n) y)
def idj (g : Nat → Nat) (n x y : Nat) : Nat := plc (idls g n) (nth (idls g n) x ||| nth (idls g n) y)
theorem idm_is {g : Nat → Nat} {n x y : Nat} (hn : n ≤ 10) (hg : ∀ k, k < n → g k < 1024) (hx : x < (idls g n).length) (hy : y < (idls g n).length) : idm g n x y < (idls g n).length ∧ nth (idls g n) (idm g n x y) = nth (idls g n) x &&& nth (idls g n) y := by
  obtain ⟨a, b⟩ := idls_at hn hg hx
  obtain ⟨_, d⟩ := idls_at hn hg hy
  exact plc_is ((idls_mem hn hg).2 ⟨Nat.lt_of_le_of_lt Nat.and_le_left a, b.and d⟩)
theorem idj_is {g : Nat → Nat} {n x y : Nat} (hn : n ≤ 10) (hg : ∀ k, k < n → g k < 1024) (hx : x < (idls g n).length) (hy : y < (idls g n).length) : idj g n x y < (idls g n).length ∧ nth (idls g n) (idj g n x y) = nth (idls g n) x ||| nth (idls g n) y := by
  obtain ⟨a, b⟩ := idls_at hn hg hx
  obtain ⟨c, d⟩ := idls_at hn hg hy
  exact plc_is ((idls_mem hn hg).2 ⟨Nat.or_lt_two_pow a c, b.or d⟩)
theorem idls_pos {g : Nat → Nat} {n : Nat} (hn : n ≤ 10) (hg : ∀ k, k < n → g k < 1024) : 1 ≤ (idls g n).length := by
  have : 0 ∈ idls g n := (idls_mem hn hg).2 ⟨pw_pos n, fun p _ hb => by simp at hb⟩
  exact List.length_pos_of_mem this
end Go.Proofs.Ytpgbcnbhfgopdaa
