/-
  What a good order gives. No condition.
-/
import Derived.Test.YtadocffdneiaaaaDoorSets
import Derived.Test.YtadocffdneiaaaaDoorKept
namespace Go.Proofs.YtadocffdneiaaaaDoor
open Go.RowKit

theorem Chk.good {n : Int} {len : Nat} {f : Nat → Int} (h : Chk n len f 0) : n = (len : Int) ∧ len ≤ 10 ∧ Rng len f ∧ Ord len (nat f) := by
  rcases h with ⟨h, _⟩ | ⟨m, hm, h10, ⟨h, _⟩ | ⟨rfl, ⟨h, _⟩ | ⟨hr, ⟨h, _⟩ | ⟨_, ho⟩⟩⟩⟩
  · cases h
  · cases h
  · cases h
  · cases h
  · exact ⟨hm, h10, hr, ho⟩
theorem Rng.row {w : World} {a : Option Addr} {len : Nat} {f : Nat → Int} (hr : Rng len f) (h : Row w a len f) : Row w a len (fun k => (nat f k : Nat)) := by
  intro j hj
  have := h j hj
  have e : f j = (nat f j : Nat) := by have := hr j hj; unfold nat; omega
  rw [e] at this
  exact this
theorem Rng.small {len : Nat} {f : Nat → Int} (hr : Rng len f) : ∀ k, k < len → nat f k < pw len := fun k hk => by
  have := hr k hk; unfold nat; omega
theorem Rng.small2 {len : Nat} {f : Nat → Int} (hr : Rng len f) (hl : len ≤ 10) : ∀ k, k < len → nat f k < 1024 := fun k hk =>
  Nat.lt_of_lt_of_le (hr.small k hk) (pw_le len hl)

end Go.Proofs.YtadocffdneiaaaaDoor
