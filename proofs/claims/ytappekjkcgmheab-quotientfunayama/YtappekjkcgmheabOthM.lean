/-
  Plain facts on the end of a table: to what all elements come together; on the others of an element. No condition.
-/
import Derived.Test.YtappekjkcgmheabTriM
namespace Go.Proofs.Ytappekjkcgmheab

/-- Where the first k elements come together. -/
def en (m : Nat → Nat → Nat) : Nat → Nat
  | 0 => 0
  | k + 1 => m (en m k) k
theorem en_lt {n : Nat} {m : Nat → Nat → Nat} (h1 : 1 ≤ n) (h : Inn n m) : ∀ k, k ≤ n → en m k < n
  | 0, _ => by show 0 < n; omega
  | k + 1, hk => h _ _ (en_lt h1 h k (by omega)) (by omega)
/-- Is y an other one of x? -/
def othB (n : Nat) (m j : Nat → Nat → Nat) (x y : Nat) : Bool := m x y == en m n && j x y == en j n
def oths (n : Nat) (m j : Nat → Nat → Nat) (x : Nat) : Nat → List Nat
  | 0 => []
  | k + 1 => if othB n m j x k = true then oths n m j x k ++ [k] else oths n m j x k
theorem oths_yes {n : Nat} {m j : Nat → Nat → Nat} {x k : Nat} (h : othB n m j x k = true) : oths n m j x (k + 1) = oths n m j x k ++ [k] := by simp [oths, h]
theorem oths_no {n : Nat} {m j : Nat → Nat → Nat} {x k : Nat} (h : othB n m j x k = false) : oths n m j x (k + 1) = oths n m j x k := by simp [oths, h]
theorem oths_len (n : Nat) (m j : Nat → Nat → Nat) (x : Nat) : ∀ k, (oths n m j x k).length ≤ k
  | 0 => by simp [oths]
  | k + 1 => by
    have ih := oths_len n m j x k
    cases h : othB n m j x k
    · rw [oths_no h]; omega
    · rw [oths_yes h, List.length_append]; simp; exact ih
theorem oths_mem (n : Nat) (m j : Nat → Nat → Nat) (x : Nat) : ∀ k y, y ∈ oths n m j x k ↔ y < k ∧ othB n m j x y = true
  | 0, y => by simp [oths]
  | k + 1, y => by
    cases hb : othB n m j x k
    · rw [oths_no hb, oths_mem n m j x k y]
      constructor
      · rintro ⟨h1, h2⟩; exact ⟨by omega, h2⟩
      · rintro ⟨h1, h2⟩
        refine ⟨?_, h2⟩
        by_cases e : y = k
        · subst e; rw [hb] at h2; cases h2
        · omega
    · rw [oths_yes hb, List.mem_append, oths_mem n m j x k y, List.mem_singleton]
      constructor
      · rintro (⟨h1, h2⟩ | rfl)
        · exact ⟨by omega, h2⟩
        · exact ⟨by omega, hb⟩
      · rintro ⟨h1, h2⟩
        by_cases e : y = k
        · exact .inr e
        · exact .inl ⟨by omega, h2⟩
/-- Each is an other one of its others. -/
theorem oth_back {n : Nat} {m j : Nat → Nat → Nat} (hL : Lat n m j) {x y : Nat} (hx : x < n) (hy : y < n) (h : othB n m j x y = true) : othB n m j y x = true := by
  unfold othB at *
  rw [(hL.lm.at hy hx hy).2.1, (hL.lj.at hy hx hy).2.1]; exact h
/-- Two members at most one: a rising list whose members are all the same. -/
theorem oths_one {n : Nat} {m j : Nat → Nat → Nat} {x : Nat} (h : ∀ y z, y < n → z < n → othB n m j x y = true → othB n m j x z = true → y = z) : ∀ k, k ≤ n → (oths n m j x k).length ≤ 1
  | 0, _ => by simp [oths]
  | k + 1, hk => by
    cases hb : othB n m j x k
    · rw [oths_no hb]; exact oths_one h k (by omega)
    · rw [oths_yes hb]
      have e : oths n m j x k = [] := by
        apply List.eq_nil_iff_forall_not_mem.2
        intro y hy
        have := (oths_mem n m j x k y).1 hy
        have := h y k (by omega) (by omega) this.2 hb
        omega
      rw [e]; simp
end Go.Proofs.Ytappekjkcgmheab
