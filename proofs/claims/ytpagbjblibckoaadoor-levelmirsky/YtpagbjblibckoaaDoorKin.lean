/-
  Two facts that the walks share: has at a literal; an order that lies in a box below. Conditions: as each says.
-/
import Derived.Test.YtpagbjblibckoaaDoorGood
import Derived.Test.YtpagbjblibckoaaDoorNats
namespace Go.Proofs.YtpagbjblibckoaaDoor
open Go.RowKit

theorem below_append {w wx w1 : World} {o o2 : Obj} {e : TypeId} {size n : Nat} {v : Value} {xs : List Value} (h : Below (w.heap.size + 1) (w.alloc o) wx) (hown : wx.ownsRow (w.heap.size + 1) e size v n xs) (hg : (wx.alloc o2).grownBy w1 v.ownBlock) : Below (w.heap.size + 1) (w.alloc o) w1 :=
  (h.alloc (by have := h.size; simpa using this) o2).grown hg (by have := h.size; simp at this ⊢; omega) (owns_block hown)

theorem has_quiet (s p : Nat) (w : World) (hs : s < 9223372036854775808) (hp : p < 63) :
    Calls Tryd.prog 28 #[.int .i64 s, .int .i64 p] w fun e w' => e = .returned (.bool (s.testBit p)) ∧ w' = w :=
  (has_any s p w hs hp).mono fun _ _ ⟨h, h'⟩ => ⟨h, h'.symm⟩
theorem has_as (s p : Nat) (b : Bool) (w : World) (h : s.testBit p = b) (hs : s < 9223372036854775808) (hp : p < 63) :
    Calls Tryd.prog 28 #[.int .i64 s, .int .i64 p] w fun e w' => e = .returned (.bool b) ∧ w' = w := by
  rw [← h]; exact has_quiet s p w hs hp
/-- An order's box, and what lies below it, kept: the box reads as it did. -/
theorem Held.kept {w wx : World} {n : Int} {a : Option Addr} {len cap : Nat} {f : Nat → Int} (h : Row w a len f) (hb : Below (w.heap.size + 1) (w.alloc (.cells #[.int .i64 n, .slice a len cap] 24)) wx) : Held wx w.heap.size n a len cap f :=
  (Held.box h).step (by rw [World.size_alloc]; exact hb)
end Go.Proofs.YtpagbjblibckoaaDoor
