/-
  For every order that is handed in, hasselaw.OrderChecks returns true, and writes nothing that was there. No condition.
  What a good order gives. No condition.
-/
import Derived.Test.YtklfnghgpmjnmaaBegun
import Derived.Deep.RegionHeld3
import Derived.Test.YtklfnghgpmjnmaaSets
namespace Go.Proofs.Ytklfnghgpmjnmaa
open Go.RowKit

theorem kept_step {w0 w1 w2 : World} {n : Int} {a : Option Addr} {len cap : Nat} {f : Nat → Int}
    (h : w1.cell? ⟨w0.heap.size, 0, none⟩ = some (.int .i64 n) ∧ w1.cell? ⟨w0.heap.size, 1, none⟩ = some (.slice a len cap) ∧ Row w1 a len f ∧ Below w0.heap.size w0 w1)
    (hb : Below w1.heap.size w1 w2) :
    w2.cell? ⟨w0.heap.size, 0, none⟩ = some (.int .i64 n) ∧ w2.cell? ⟨w0.heap.size, 1, none⟩ = some (.slice a len cap) ∧ Row w2 a len f ∧ Below w0.heap.size w0 w2 := by
  obtain ⟨h1, h2, h3, h4⟩ := h
  obtain ⟨k1, k2, k3⟩ := Held.step ⟨h1, h2, h3⟩ hb
  exact ⟨k1, k2, k3, Below.then h4 hb⟩
theorem kept_row {w0 w1 : World} {n : Int} {a : Option Addr} {len cap : Nat} {f : Nat → Int}
    (h : w1.cell? ⟨w0.heap.size, 0, none⟩ = some (.int .i64 n) ∧ w1.cell? ⟨w0.heap.size, 1, none⟩ = some (.slice a len cap) ∧ Row w1 a len f ∧ Below w0.heap.size w0 w1) : Row w1 a len f := h.2.2.1
theorem kept_below {w0 w1 : World} {n : Int} {a : Option Addr} {len cap : Nat} {f : Nat → Int}
    (h : w1.cell? ⟨w0.heap.size, 0, none⟩ = some (.int .i64 n) ∧ w1.cell? ⟨w0.heap.size, 1, none⟩ = some (.slice a len cap) ∧ Row w1 a len f ∧ Below w0.heap.size w0 w1) : Below w0.heap.size w0 w1 := h.2.2.2
theorem kept_first {w0 : World} {n : Int} {a : Option Addr} {len cap : Nat} {f : Nat → Int} (hr : Row w0 a len f) :
    (w0.alloc (.cells #[.int .i64 n, .slice a len cap] 25)).drew.cell? ⟨w0.heap.size, 0, none⟩ = some (.int .i64 n) ∧ (w0.alloc (.cells #[.int .i64 n, .slice a len cap] 25)).drew.cell? ⟨w0.heap.size, 1, none⟩ = some (.slice a len cap) ∧ Row (w0.alloc (.cells #[.int .i64 n, .slice a len cap] 25)).drew a len f ∧ Below w0.heap.size w0 (w0.alloc (.cells #[.int .i64 n, .slice a len cap] 25)).drew := by
  obtain ⟨k1, k2, k3⟩ := Held.box (n := n) (cap := cap) hr
  exact ⟨k1, k2, k3, ((Below.refl _ _).alloc (Nat.le_refl _) _).drew⟩

end Go.Proofs.Ytklfnghgpmjnmaa
namespace Go.Proofs.Ytklfnghgpmjnmaa
open Go.RowKit

theorem Chk.good {n : Int} {len : Nat} {f : Nat → Int} (h : Chk n len f 0) : n = (len : Int) ∧ len ≤ 10 ∧ Rng len f ∧ Ord len (nat f) := by
  rcases h with ⟨h, _⟩ | ⟨m, hm, h10, ⟨h, _⟩ | ⟨rfl, ⟨h, _⟩ | ⟨hr, ⟨h, _⟩ | ⟨_, ho⟩⟩⟩⟩
  · cases h
  · cases h
  · cases h
  · cases h
  · exact ⟨hm, h10, hr, ho⟩
theorem Rng.row {w : World} {a : Option Addr} {len : Nat} {f : Nat → Int} (hr : Rng len f) (h : Row w a len f) : Row w a len (fun k => (nat f k : Nat)) := by
  intro j hj
  have := h j hj
  have e : f j = (nat f j : Nat) := by have := hr j hj; unfold nat; omega
  rw [e] at this
  exact this
theorem Rng.small {len : Nat} {f : Nat → Int} (hr : Rng len f) : ∀ k, k < len → nat f k < pw len := fun k hk => by
  have := hr k hk; unfold nat; omega
theorem Rng.small2 {len : Nat} {f : Nat → Int} (hr : Rng len f) (hl : len ≤ 10) : ∀ k, k < len → nat f k < 1024 := fun k hk =>
  Nat.lt_of_lt_of_le (hr.small k hk) (pw_le len hl)

end Go.Proofs.Ytklfnghgpmjnmaa
