/-
  For every number, rules and rule that are handed in, hasselaw.ImplyFollows returns true, and writes nothing that was there. Conditions: the table of the least bits.
-/
import Derived.Test.YtgjdpgjaaaeglaaDoorClsL
import Derived.Test.YtgjdpgjaaaeglaaDoorFol
namespace Go.Proofs.YtgjdpgjaaaeglaaDoor
open Go.RowKit

/-- Does x obey r, if it obeys the rules? -/
def folB (R : List (Nat × Nat)) (r : Nat × Nat) (x : Nat) : Bool := !(R.all (obe x)) || obe x r
theorem fol_is {R : List (Nat × Nat)} {n : Nat} {r : Nat × Nat} (h10 : n ≤ 10) (hR : RIn n R) (h1 : r.1 < pw n) (h2 : r.2 < pw n) : obe (clo R n r.1) r = true ↔ ∀ x, x < pw n → folB R r x = true := by
  rw [obe_iff (set_1024 h10 clo_lt) (set_1024 h10 h1) (set_1024 h10 h2), follows_iff h10 hR h1]
  constructor
  · intro h x hx
    unfold folB
    cases e : R.all (obe x)
    · rfl
    · rw [(obe_iff (set_1024 h10 hx) (set_1024 h10 h1) (set_1024 h10 h2)).2 (h x hx ((obeA_dec n R h10 hR x hx).1 e))]; rfl
  · intro h x hx ho
    have := h x hx
    unfold folB at this
    rw [(obeA_dec n R h10 hR x hx).2 ho] at this
    exact (obe_iff (set_1024 h10 hx) (set_1024 h10 h1) (set_1024 h10 h2)).1 (by simpa using this)

end Go.Proofs.YtgjdpgjaaaeglaaDoor
