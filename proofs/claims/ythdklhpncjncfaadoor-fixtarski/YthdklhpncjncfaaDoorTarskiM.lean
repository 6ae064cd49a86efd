/-
  Knaster and Tarski, as the law asks it: from the join of two that go to themselves on, as many rounds of the map as there are elements come to one that goes to itself, below all such that are above both. Plain facts on numbers.
-/
import Derived.Test.YthdklhpncjncfaaDoorFixF
namespace Go.Proofs.YthdklhpncjncfaaDoor
open Go.RowKit

theorem abv_up {q : Nat} {m j : Nat → Nat → Nat} {f : Nat → Nat} (h : Lat q m j) {x : Nat} (hx : x < q) (hfx : f x < q) (hle : m x (f x) = x) (hne : f x ≠ x) : abv q m (f x) < abv q m x := by
  refine cntB_lt q (fun y hy hp => ?_) ⟨f x, hfx, ?_, ?_⟩
  · obtain ⟨h1, h2⟩ := ltB_iff.1 hp
    refine ltB_iff.2 ⟨fun e => ?_, h.le_tr hx hfx hy hle h2⟩
    subst e
    exact hne (h.le_anti hfx hx h2 hle)
  · simp [ltB]
  · exact ltB_iff.2 ⟨fun e => hne e.symm, hle⟩
/-- So many rounds. -/
def itr (f : Nat → Nat) : Nat → Nat → Nat
  | 0, x => x
  | k + 1, x => f (itr f k x)
theorem itr_lt {q : Nat} {f : Nat → Nat} (hf : ∀ x, x < q → f x < q) {x : Nat} (hx : x < q) : ∀ k, itr f k x < q
  | 0 => hx
  | k + 1 => hf _ (itr_lt hf hx k)
theorem itr_up {q : Nat} {m : Nat → Nat → Nat} {f : Nat → Nat} (hf : ∀ x, x < q → f x < q) (hm : Mono q m f) {x : Nat} (hx : x < q) (hle : m x (f x) = x) : ∀ k, m (itr f k x) (f (itr f k x)) = itr f k x
  | 0 => hle
  | k + 1 => hm _ _ (itr_lt hf hx k) (hf _ (itr_lt hf hx k)) (itr_up hf hm hx hle k)
theorem itr_few {q : Nat} {m j : Nat → Nat → Nat} {f : Nat → Nat} (h : Lat q m j) (hf : ∀ x, x < q → f x < q) (hm : Mono q m f) {x : Nat} (hx : x < q) (hle : m x (f x) = x) : ∀ k, f (itr f k x) = itr f k x ∨ abv q m (itr f k x) + k ≤ abv q m x
  | 0 => .inr (Nat.le_refl _)
  | k + 1 => by
    rcases itr_few h hf hm hx hle k with e | e
    · left
      show f (f (itr f k x)) = f (itr f k x)
      rw [e, e]
    · by_cases e2 : f (itr f k x) = itr f k x
      · left
        show f (f (itr f k x)) = f (itr f k x)
        rw [e2, e2]
      · right
        have := abv_up h (itr_lt hf hx k) (hf _ (itr_lt hf hx k)) (itr_up hf hm hx hle k) e2
        show abv q m (f (itr f k x)) + (k + 1) ≤ _
        omega
theorem itr_fix {q : Nat} {m j : Nat → Nat → Nat} {f : Nat → Nat} (h : Lat q m j) (hf : ∀ x, x < q → f x < q) (hm : Mono q m f) {x : Nat} (hx : x < q) (hle : m x (f x) = x) : f (itr f q x) = itr f q x := by
  rcases itr_few h hf hm hx hle q with e | e
  · exact e
  · by_cases e2 : f (itr f q x) = itr f q x
    · exact e2
    · have h1 := abv_up h (itr_lt hf hx q) (hf _ (itr_lt hf hx q)) (itr_up hf hm hx hle q) e2
      have h2 : abv q m x ≤ q := cntB_le _ _
      omega
theorem itr_above {q : Nat} {m j : Nat → Nat → Nat} {f : Nat → Nat} (h : Lat q m j) (hf : ∀ x, x < q → f x < q) (hm : Mono q m f) {x : Nat} (hx : x < q) (hle : m x (f x) = x) : ∀ k, m x (itr f k x) = x
  | 0 => h.le_refl hx
  | k + 1 => h.le_tr hx (itr_lt hf hx k) (hf _ (itr_lt hf hx k)) (itr_above h hf hm hx hle k) (itr_up hf hm hx hle k)
theorem itr_below {q : Nat} {m : Nat → Nat → Nat} {f : Nat → Nat} (hf : ∀ x, x < q → f x < q) (hm : Mono q m f) {x c : Nat} (hx : x < q) (hc : c < q) (hfc : f c = c) (hle : m x c = x) : ∀ k, m (itr f k x) c = itr f k x
  | 0 => hle
  | k + 1 => by
    have := hm _ _ (itr_lt hf hx k) hc (itr_below hf hm hx hc hfc hle k)
    rw [hfc] at this
    exact this
/-- The join of two that go to themselves goes up. -/
theorem join_up {q : Nat} {m j : Nat → Nat → Nat} {f : Nat → Nat} (h : Lat q m j) (hf : ∀ x, x < q → f x < q) (hm : Mono q m f) {a b : Nat} (ha : a < q) (hb : b < q) (hj : j a b < q) (ea : f a = a) (eb : f b = b) : m (j a b) (f (j a b)) = j a b := by
  refine h.join_lub ha hb (hf _ hj) ?_ ?_
  · have := hm a (j a b) ha hj (h.join_l ha hb)
    rw [ea] at this; exact this
  · have := hm b (j a b) hb hj (h.join_r ha hb)
    rw [eb] at this; exact this
end Go.Proofs.YthdklhpncjncfaaDoor
