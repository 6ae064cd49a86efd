/-
  What sets.Has answers, as a quiet call and with its answer named. Conditions: as each theorem says.
-/
import Derived.Test.YtomoodpgmkjacabDoorGood
import Derived.Test.YtomoodpgmkjacabDoorBuild
import Derived.Test.YtomoodpgmkjacabDoorGiven

namespace Go.Proofs.YtomoodpgmkjacabDoor
open Go.RowKit

theorem has_quiet (s p : Nat) (w : World) (hs : s < 9223372036854775808) (hp : p < 63) :
    Calls Tryd.prog 28 #[.int .i64 s, .int .i64 p] w fun e w' => e = .returned (.bool (s.testBit p)) ∧ w' = w :=
  (has_any s p w hs hp).mono fun _ _ ⟨h, h'⟩ => ⟨h, h'.symm⟩
theorem has_as (s p : Nat) (b : Bool) (w : World) (h : s.testBit p = b) (hs : s < 9223372036854775808) (hp : p < 63) :
    Calls Tryd.prog 28 #[.int .i64 s, .int .i64 p] w fun e w' => e = .returned (.bool b) ∧ w' = w := by
  rw [← h]; exact has_quiet s p w hs hp
theorem own_kept {w wx : World} {b n : Nat} {g : Nat → Nat} (h : Own w b n g) (hb : Below w.heap.size w wx) : Own wx b n g :=
  fun k hk => (h.keep hb (h.lt hk)) k hk
theorem below_append2 {w wx w1 : World} {o2 : Obj} {e : TypeId} {size n : Nat} {v : Value} {xs : List Value} (h : Below w.heap.size w wx) (hown : wx.ownsRow w.heap.size e size v n xs) (hg : (wx.alloc o2).grownBy w1 v.ownBlock) : Below w.heap.size w w1 :=
  (h.alloc h.size o2).grown hg (by have := h.size; simp; omega) (owns_block hown)
end Go.Proofs.YtomoodpgmkjacabDoor
