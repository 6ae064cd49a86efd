/-
  The text of an order, as bytes: its number, a colon, each cover behind a blank. Conditions: numbers up to ten.
-/
import Derived.Test.YtkakhmkgapnlfaaDoorCoversP
import Derived.Test.YtkakhmkgapnlfaaDoorShelf
namespace Go.Proofs.YtkakhmkgapnlfaaDoor
open Go.RowKit

abbrev dg (k : Nat) : List UInt8 := Lib.decDigits k
theorem dg_small {k : Nat} (h : k < 10) : dg k = [UInt8.ofNat (48 + k)] := by show Lib.decDigits k = _; rw [Lib.decDigits, dif_pos h]
theorem dg_ten : dg 10 = [49, 48] := by
  show Lib.decDigits 10 = _
  rw [Lib.decDigits, dif_neg (by decide), Lib.decDigits, dif_pos (by decide)]
  rfl
theorem dg_len {k : Nat} (h : k ≤ 10) : (dg k).length ≤ 2 := by
  by_cases e : k = 10
  · subst e; rw [dg_ten]; decide
  · rw [dg_small (by omega)]; simp
/-- A pair's text. -/
def prPair (p : Nat × Nat) : List UInt8 := 32 :: (dg p.1 ++ 60 :: dg p.2)
/-- The first k pairs' text. -/
def prs (l : List (Nat × Nat)) : Nat → List UInt8
  | 0 => []
  | k + 1 => prs l k ++ prPair (l.getD k (0, 0))
def acc (n : Nat) (l : List (Nat × Nat)) (k : Nat) : List UInt8 := dg n ++ 58 :: prs l k
def prt (n : Nat) (l : List (Nat × Nat)) : List UInt8 := acc n l l.length
theorem acc_succ (n : Nat) (l : List (Nat × Nat)) (k : Nat) : acc n l (k + 1) = acc n l k ++ prPair (l.getD k (0, 0)) := by
  show dg n ++ 58 :: (prs l k ++ prPair (l.getD k (0, 0))) = (dg n ++ 58 :: prs l k) ++ prPair (l.getD k (0, 0))
  rw [List.append_assoc, List.cons_append]
def PB (l : List (Nat × Nat)) : Prop := ∀ k, k < l.length → (l.getD k (0, 0)).1 < 10 ∧ (l.getD k (0, 0)).2 < 10
theorem prs_len {l : List (Nat × Nat)} (h : PB l) : ∀ k, k ≤ l.length → (prs l k).length ≤ 6 * k
  | 0, _ => Nat.le_refl _
  | k + 1, hk => by
    have ih := prs_len h k (by omega)
    have h1 := h k (by omega)
    have a1 := dg_len (k := (l.getD k (0, 0)).1) (by omega)
    have a2 := dg_len (k := (l.getD k (0, 0)).2) (by omega)
    unfold prs prPair
    rw [List.length_append, List.length_cons, List.length_append, List.length_cons]
    omega
theorem acc_len {n : Nat} {l : List (Nat × Nat)} (hn : n ≤ 10) (h : PB l) (hl : l.length ≤ 100) (k : Nat) (hk : k ≤ l.length) : (acc n l k).length ≤ 603 := by
  have a1 := dg_len hn
  have a2 := prs_len h k hk
  unfold acc
  rw [List.length_append, List.length_cons]
  omega
theorem rowPairs_lt (C : Nat → Nat → Bool) (x : Nat) : ∀ k p, p ∈ rowPairs C x k → p.1 = x ∧ p.2 < k
  | 0, p, hp => by simp [rowPairs] at hp
  | k + 1, p, hp => by
    have ih := rowPairs_lt C x k p
    cases h : C x k
    · rw [rowPairs_no h] at hp
      obtain ⟨a, b⟩ := ih hp
      exact ⟨a, by omega⟩
    · rw [rowPairs_yes h, List.mem_append, List.mem_singleton] at hp
      rcases hp with hp | rfl
      · obtain ⟨a, b⟩ := ih hp
        exact ⟨a, by omega⟩
      · exact ⟨rfl, by omega⟩
theorem allPairs_lt (C : Nat → Nat → Bool) (n : Nat) : ∀ x p, p ∈ allPairs C n x → p.1 < x ∧ p.2 < n
  | 0, p, hp => by simp [allPairs] at hp
  | x + 1, p, hp => by
    have ih := allPairs_lt C n x p
    unfold allPairs at hp
    rw [List.mem_append] at hp
    rcases hp with hp | hp
    · obtain ⟨a, b⟩ := ih hp
      exact ⟨by omega, b⟩
    · obtain ⟨a, b⟩ := rowPairs_lt C x n p hp
      exact ⟨by omega, b⟩
theorem covs_PB (g : Nat → Nat) {n : Nat} (hn : n ≤ 10) : PB (covs g n) := fun k hk => by
  have hm : (covs g n).getD k (0, 0) ∈ covs g n := by
    rw [List.getD_eq_getElem?_getD, List.getElem?_eq_getElem hk]; exact List.getElem_mem hk
  obtain ⟨a, b⟩ := allPairs_lt (covB g n) n n _ hm
  exact ⟨by omega, by omega⟩
theorem covs_len (g : Nat → Nat) {n : Nat} (hn : n ≤ 10) : (covs g n).length ≤ 100 := by
  have := allPairs_len (covB g n) n hn n
  unfold covs; omega
/-- What others keep, a cell at a time. -/
theorem kept_cell {b B : Nat} {w w' : World} (h : Lib.OthersKept 5 (some B) w w') {o : Obj} (ho : w.heap[b]? = some o) (hb : b ≠ B) (hr : ∀ c fz, o ≠ .cells c 5 fz) : w'.heap[b]? = some o :=
  h b o ho (fun e => hb (by injection e)) hr
theorem cell_heap {w : World} {b k : Nat} {c : Array Value} {T : TypeId} {fz : Nat × Nat} {v : Value} (h : w.heap[b]? = some (.cells c T fz)) (hv : c[k]? = some v) : w.cell? ⟨b, k, none⟩ = some v := by
  simp [World.cell?, h, hv]
end Go.Proofs.YtkakhmkgapnlfaaDoor
