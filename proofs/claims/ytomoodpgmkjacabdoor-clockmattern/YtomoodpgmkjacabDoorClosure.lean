/-
  What Warshall's rounds come to: the least transitive relation above the given one. Plain facts: no Go text here. Conditions: as each theorem says.
-/
import Derived.Test.YtomoodpgmkjacabDoorSets
namespace Go.Proofs.YtomoodpgmkjacabDoor
open Go.RowKit

theorem reachIn_eq (G : Nat → Nat) (t low : Nat) : ∀ k b, reachIn G t low k b = if b < k ∧ (G b).testBit t = true then G b ||| low else G b
  | 0, b => by simp [reachIn]
  | k + 1, b => by
    have ihk := reachIn_eq G t low k k
    have ihb := reachIn_eq G t low k b
    rw [if_neg (by omega)] at ihk
    by_cases hk : (G k).testBit t = true
    · rw [reachIn_yes (by rw [ihk]; exact hk), ihk]
      by_cases e : b = k
      · subst e; rw [upd_same, if_pos ⟨by omega, hk⟩]
      · rw [upd_other _ _ _ _ e, ihb]
        have : (b < k + 1) = (b < k) := by simp; omega
        simp only [this]
    · have hk' : (G k).testBit t = false := by simpa using hk
      rw [reachIn_no (by rw [ihk]; exact hk'), ihb]
      by_cases e : b = k
      · subst e; simp [hk']
      · have : (b < k + 1) = (b < k) := by simp; omega
        simp only [this]

/-- a comes to b by steps of R whose inner points are below t. -/
def Way (R : Nat → Nat → Prop) : Nat → Nat → Nat → Prop
  | 0, a, b => R a b
  | t + 1, a, b => Way R t a b ∨ (Way R t a t ∧ Way R t t b)
theorem Way.lift {R : Nat → Nat → Prop} {a b : Nat} (h : R a b) : ∀ t, Way R t a b
  | 0 => h
  | t + 1 => .inl (Way.lift h t)
theorem Way.trans {R : Nat → Nat → Prop} : ∀ (t a b c : Nat), b < t → Way R t a b → Way R t b c → Way R t a c
  | 0, _, _, _, h, _, _ => absurd h (Nat.not_lt_zero _)
  | t + 1, a, b, c, h, h1, h2 => by
    have ih := Way.trans (R := R) t
    by_cases e : b = t
    · subst e
      have k1 : Way R b a b := by rcases h1 with h | ⟨h, _⟩ <;> exact h
      have k2 : Way R b b c := by rcases h2 with h | ⟨_, h⟩ <;> exact h
      exact .inr ⟨k1, k2⟩
    · have hb : b < t := by omega
      rcases h1 with h1 | ⟨h1, h1'⟩ <;> rcases h2 with h2 | ⟨h2, h2'⟩
      · exact .inl (ih a b c hb h1 h2)
      · exact .inr ⟨ih a b t hb h1 h2, h2'⟩
      · exact .inr ⟨h1, ih t b c hb h1' h2⟩
      · exact .inr ⟨h1, h2'⟩
theorem Way.least {R S : Nat → Nat → Prop} {n : Nat} (hR : ∀ a b, R a b → S a b) (hS : ∀ a b c, b < n → S a b → S b c → S a c) : ∀ t, t ≤ n → ∀ a b, Way R t a b → S a b
  | 0, _, a, b, h => hR a b h
  | t + 1, ht, a, b, h => by
    have ih := Way.least hR hS t (by omega)
    rcases h with h | ⟨h, h'⟩
    · exact ih a b h
    · exact hS a t b (by omega) (ih a t h) (ih t b h')
theorem reach_way (g : Nat → Nat) (n : Nat) : ∀ t, t ≤ n → ∀ a b, b < n → ((reachOut g n t b).testBit a = true ↔ Way (fun a b => (g b).testBit a = true) t a b)
  | 0, _, a, b, _ => Iff.rfl
  | t + 1, ht, a, b, hb => by
    have ih := reach_way g n t (by omega)
    have e : reachOut g n (t + 1) b = if b < n ∧ (reachOut g n t b).testBit t = true then reachOut g n t b ||| reachOut g n t t else reachOut g n t b := reachIn_eq _ _ _ _ _
    rw [e]
    by_cases h : (reachOut g n t b).testBit t = true
    · rw [if_pos ⟨hb, h⟩, Nat.testBit_or, Bool.or_eq_true, ih a b hb, ih a t (by omega)]
      exact ⟨fun h1 => h1.elim .inl fun h2 => .inr ⟨h2, (ih t b hb).1 h⟩, fun h1 => h1.elim .inl fun h2 => .inr h2.1⟩
    · rw [if_neg (fun h1 => h h1.2), ih a b hb]
      exact ⟨.inl, fun h1 => h1.elim id fun h2 => absurd ((ih t b hb).2 h2.2) h⟩
/-- What the pairs lay. -/
theorem mk_bit {n : Nat} {p : Nat → Int × Int} : ∀ k, (∀ j, j < k → PIn n p j) → ∀ a b, (mk p k b).testBit a = true ↔ ∃ j, j < k ∧ (p j).1 = (a : Int) ∧ (p j).2 = (b : Int)
  | 0, _, a, b => by simp [mk]
  | k + 1, h, a, b => by
    have ih := mk_bit (n := n) (p := p) k (fun j hj => h j (by omega)) a b
    obtain ⟨⟨h1, h2⟩, h3, h4⟩ := h k (by omega)
    have step : (mk p (k + 1) b).testBit a = true ↔ (mk p k b).testBit a = true ∨ ((p k).1 = (a : Int) ∧ (p k).2 = (b : Int)) := by
      show (upd (mk p k) (p k).2.toNat (mk p k (p k).2.toNat ||| pw (p k).1.toNat) b).testBit a = true ↔ _
      by_cases e : b = (p k).2.toNat
      · rw [e, upd_same, Nat.testBit_or, Bool.or_eq_true, pw_bit]
        simp only [decide_eq_true_eq]
        constructor
        · rintro (h | h)
          · exact .inl h
          · exact .inr ⟨by omega, by omega⟩
        · rintro (h | ⟨h, _⟩)
          · exact .inl h
          · exact .inr (by omega)
      · rw [upd_other _ _ _ _ e]
        constructor
        · exact .inl
        · rintro (h | ⟨_, h⟩)
          · exact h
          · exact absurd (by omega) e
    rw [step, ih]
    constructor
    · rintro (⟨j, hj, hh⟩ | hh)
      · exact ⟨j, by omega, hh⟩
      · exact ⟨k, by omega, hh⟩
    · rintro ⟨j, hj, hh⟩
      by_cases e : j = k
      · subst e; exact .inr hh
      · exact .inl ⟨j, by omega, hh⟩
/-- Warshall's rounds end in an order just if nobody comes to itself. -/
theorem reach_ord {g : Nat → Nat} {n : Nat} (hn : n ≤ 10) (hg : Sm n n g) : Ord n (reachOut g n n) ↔ ∀ u, u < n → ¬ Way (fun a b => (g b).testBit a = true) n u u := by
  have hs := reachOut_sm hg n (Nat.le_refl _)
  have big : ∀ k, k < n → reachOut g n n k < 18446744073709551616 := fun k hk => by have := hs k hk; have := pw_le n hn; omega
  have rw' := fun a b (hb : b < n) => reach_way g n n (Nat.le_refl _) a b hb
  constructor
  · intro h u hu hw
    have := (h u hu).1
    rw [(rw' u u hu).2 hw] at this
    cases this
  · intro h u hu
    refine ⟨?_, fun p hp hb => ?_⟩
    · cases e : (reachOut g n n u).testBit u
      · rfl
      · exact absurd ((rw' u u hu).1 e) (h u hu)
    · refine (lack_zero _ _ (big p hp) (big u hu)).2 fun j hj => ?_
      exact (rw' j u hu).2 (Way.trans n j p u hp ((rw' j p hp).1 hj) ((rw' p u hu).1 hb))
end Go.Proofs.YtomoodpgmkjacabDoor
