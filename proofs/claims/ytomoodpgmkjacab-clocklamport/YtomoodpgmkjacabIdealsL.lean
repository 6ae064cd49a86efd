/-
  What the reference's Ideals and hasselaw.numbersAre answer; hasselaw.OrderIdeals returns true for every order. No condition but that a slice reads as a slice of numbers.
-/
import Derived.Test.YtomoodpgmkjacabIdealsP
import Derived.Test.YtomoodpgmkjacabKeptB
namespace Go.Proofs.Ytomoodpgmkjacab
open Go.RowKit

theorem NSl.below {w w' : World} {v : Value} {l : List Nat} (h : NSl w v l) (hb : Below w.heap.size w w') : NSl w' v l := by
  obtain ⟨a, cap, rfl, hr⟩ := h
  exact ⟨a, cap, rfl, hr.below hb⟩
theorem idls_len (g : Nat → Nat) (n : Nat) (h : n ≤ 10) : (idls g n).length ≤ 1024 := Nat.le_trans (fil_len _ _) (pw_le n h)

end Go.Proofs.Ytomoodpgmkjacab
