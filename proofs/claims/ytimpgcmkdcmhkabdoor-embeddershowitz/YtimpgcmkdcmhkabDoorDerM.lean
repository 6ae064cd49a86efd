/-
  Heaps are an order, and a letter may be changed for lesser ones: plain facts. No Go text here. No condition.
-/
import Derived.Test.YtimpgcmkdcmhkabDoorHigM
namespace Go.Proofs.YtimpgcmkdcmhkabDoor
open Go.RowKit

/-- What is below has a lesser set. -/
theorem below_less {n : Nat} {g : Nat → Nat} (ho : Ord n g) (hg : ∀ k, k < n → g k < 1024) {x y : Nat} (hx : x < n) (hy : y < n) (h : (g y).testBit x = true) : g x < g y := by
  have hle : g x ≤ g y := by
    have hsub := (lack_zero (g x) (g y) (by have := hg x hx; omega) (by have := hg y hy; omega)).1 ((ho y hy).2 x hx h)
    have e : g x &&& g y = g x := by
      apply Nat.eq_of_testBit_eq
      intro i
      rw [Nat.testBit_and]
      cases q : (g x).testBit i
      · simp
      · simp [hsub i q]
    rw [← e]; exact Nat.and_le_right
  refine Nat.lt_of_le_of_ne hle fun e => ?_
  have := (ho x hx).1
  rw [e, h] at this; cases this
/-- Of points that are Q one is below no other one. -/
theorem some_top {n : Nat} {g : Nat → Nat} (ho : Ord n g) (hg : ∀ k, k < n → g k < 1024) {Q : Nat → Prop} : ∀ m z, z < n → Q z → 1024 - g z ≤ m → ∃ t, t < n ∧ Q t ∧ (t = z ∨ (g t).testBit z = true) ∧ ∀ y, y < n → Q y → (g y).testBit t = false
  | m, z, hz, hq, hm => by
    by_cases h : ∃ y, y < n ∧ Q y ∧ (g y).testBit z = true
    · obtain ⟨y, h1, h2, h3⟩ := h
      have hl := below_less ho hg hz h1 h3
      have hb := hg y h1
      match m, hm with
      | 0, hm => omega
      | m + 1, hm =>
        obtain ⟨t, k1, k2, k3, k4⟩ := some_top ho hg m y h1 h2 (by omega)
        refine ⟨t, k1, k2, .inr ?_, k4⟩
        rcases k3 with rfl | k3
        · exact h3
        · exact ord_trans ho hg h1 k1 h3 k3
    · refine ⟨z, hz, hq, .inl rfl, fun y h1 h2 => ?_⟩
      cases e : (g y).testBit z
      · rfl
      · exact absurd ⟨y, h1, h2, e⟩ h
theorem light_not_self {g : Nat → Nat} {n : Nat} {A : Nat → Nat} : ¬ Light g n A A := fun h => by
  obtain ⟨x, _, hx⟩ := h.1
  exact hx rfl
theorem light_not_back {n : Nat} {g : Nat → Nat} (ho : Ord n g) (hg : ∀ k, k < n → g k < 1024) {A B : Nat → Nat} (h : Light g n A B) : ¬ Light g n B A := fun h' => by
  obtain ⟨x, hx, hne⟩ := h.1
  obtain ⟨t, k1, k2, _, k4⟩ := some_top ho hg (Q := fun z => A z ≠ B z) 1024 x hx hne (by omega)
  rcases Nat.lt_or_gt_of_ne k2 with q | q
  · obtain ⟨y, h1, h2, h3⟩ := h'.2 t k1 q
    rw [k4 y h1 (by omega)] at h2; cases h2
  · obtain ⟨y, h1, h2, h3⟩ := h.2 t k1 q
    rw [k4 y h1 (by omega)] at h2; cases h2
theorem light_trans {n : Nat} {g : Nat → Nat} (ho : Ord n g) (hg : ∀ k, k < n → g k < 1024) {A B C : Nat → Nat} (h : Light g n A B) (h' : Light g n B C) : Light g n A C := by
  have key : ∀ z, z < n → (A z ≠ B z ∨ B z ≠ C z) → ∃ t, t < n ∧ (t = z ∨ (g t).testBit z = true) ∧ A t < C t := fun z hz hq => by
    obtain ⟨t, k1, k2, k3, k4⟩ := some_top ho hg (Q := fun z => A z ≠ B z ∨ B z ≠ C z) 1024 z hz hq (by omega)
    refine ⟨t, k1, k3, ?_⟩
    have a1 : A t ≤ B t := by
      rcases Nat.lt_or_ge (B t) (A t) with q | q
      · obtain ⟨y, h1, h2, h3⟩ := h.2 t k1 q
        rw [k4 y h1 (.inl (by omega))] at h2; cases h2
      · exact q
    have a2 : B t ≤ C t := by
      rcases Nat.lt_or_ge (C t) (B t) with q | q
      · obtain ⟨y, h1, h2, h3⟩ := h'.2 t k1 q
        rw [k4 y h1 (.inr (by omega))] at h2; cases h2
      · exact q
    omega
  constructor
  · obtain ⟨x, hx, hne⟩ := h.1
    obtain ⟨t, k1, _, k3⟩ := key x hx (.inl hne)
    exact ⟨t, k1, by omega⟩
  · intro x hx hlt
    obtain ⟨t, k1, k2, k3⟩ := key x hx (by omega)
    rcases k2 with rfl | k2
    · omega
    · exact ⟨t, k1, k2, k3⟩
/-- How often a list has a letter. -/
def tml (L : List Nat) (x : Nat) : Nat := tms L.length (nth L) x
theorem nth_old (L : List Nat) (d i : Nat) (h : i < L.length) : nth (L ++ [d]) i = nth L i := by simp [nth, List.getElem?_append, h]
theorem nth_new (L : List Nat) (d : Nat) : nth (L ++ [d]) L.length = d := by simp [nth]
theorem tml_add (L : List Nat) (d x : Nat) : tml (L ++ [d]) x = tml L x + (if d = x then 1 else 0) := by
  unfold tml
  rw [List.length_append, List.length_singleton, tms_succ, nth_new]
  congr 1
  unfold tms
  exact cntT_congr _ fun i hi => by rw [nth_old L d i hi]
theorem tms_shift (f : Nat → Nat) (x : Nat) : ∀ l, tms (l + 1) f x = (if f 0 = x then 1 else 0) + tms l (fun i => f (i + 1)) x
  | 0 => by rw [tms_succ]; simp [tms, cntT]
  | l + 1 => by rw [tms_succ (l + 1), tms_shift f x l, tms_succ l]; omega
/-- All but the first letter. -/
def tl (l : Nat) (f : Nat → Nat) : List Nat := (List.range (l - 1)).map (fun i => f (1 + i))
theorem tl_len (l : Nat) (f : Nat → Nat) : (tl l f).length = l - 1 := by simp [tl]
theorem tl_nth (l : Nat) (f : Nat → Nat) (i : Nat) (h : i < l - 1) : nth (tl l f) i = f (1 + i) := by simp [tl, nth, h]
/-- A heap in which the first letter of another one was changed for lesser ones. -/
def Chg (g : Nat → Nat) (n l : Nat) (f : Nat → Nat) (L : List Nat) : Prop :=
  L.length ≤ 12 ∧ (∀ i, i < L.length → nth L i < n) ∧ tml L (f 0) < tms l f (f 0) ∧ ∀ x, tms l f x < tml L x → (g (f 0)).testBit x = true
theorem Chg.start {g : Nat → Nat} {n l : Nat} {f : Nat → Nat} (hl : 1 ≤ l) (h12 : l ≤ 12) (hf : ∀ i, i < l → f i < n) : Chg g n l f (tl l f) := by
  have e : ∀ x, tms l f x = (if f 0 = x then 1 else 0) + tml (tl l f) x := fun x => by
    obtain ⟨m, rfl⟩ : ∃ m, l = m + 1 := ⟨l - 1, by omega⟩
    rw [tms_shift]
    congr 1
    unfold tml
    rw [tl_len]
    unfold tms
    exact cntT_congr _ fun i hi => by rw [tl_nth _ _ _ hi, Nat.add_comm]
  refine ⟨by rw [tl_len]; omega, fun i hi => ?_, ?_, fun x hx => ?_⟩
  · rw [tl_len] at hi
    rw [tl_nth _ _ _ hi]; exact hf _ (by omega)
  · rw [e (f 0)]; simp
  · rw [e x] at hx; omega
theorem Chg.add {g : Nat → Nat} {n l : Nat} {f : Nat → Nat} {L : List Nat} (h : Chg g n l f L) (h12 : L.length < 12) {d : Nat} (hd : d < n) (hb : (g (f 0)).testBit d = true) (hne : (g (f 0)).testBit (f 0) = false) : Chg g n l f (L ++ [d]) := by
  obtain ⟨h1, h2, h3, h4⟩ := h
  refine ⟨by rw [List.length_append, List.length_singleton]; omega, fun i hi => ?_, ?_, fun x hx => ?_⟩
  · rw [List.length_append, List.length_singleton] at hi
    by_cases e : i = L.length
    · subst e; rw [nth_new]; exact hd
    · rw [nth_old _ _ _ (by omega)]; exact h2 i (by omega)
  · have : d ≠ f 0 := fun e => by rw [e, hne] at hb; cases hb
    rw [tml_add, if_neg this]; omega
  · rw [tml_add] at hx
    by_cases e : d = x
    · subst e; exact hb
    · rw [if_neg e] at hx; exact h4 x (by omega)
theorem Chg.light {g : Nat → Nat} {n l : Nat} {f : Nat → Nat} {L : List Nat} (h : Chg g n l f L) (hl : 1 ≤ l) (hf : ∀ i, i < l → f i < n) : Light g n (tml L) (tms l f) := by
  obtain ⟨h1, h2, h3, h4⟩ := h
  exact ⟨⟨f 0, hf 0 (by omega), by omega⟩, fun x _ hx => ⟨f 0, hf 0 (by omega), h4 x hx, h3⟩⟩
end Go.Proofs.YtimpgcmkdcmhkabDoor
