/-
  What order.Beside answers, whatever it is handed. Conditions: slices read as slices of numbers; a nil one has no room.
-/
import Derived.Test.YtgdbldfbhiaepabDoorJoins
namespace Go.Proofs.YtgdbldfbhiaepabDoor
open Go.RowKit

/-- What must be said of two orders that are put together. -/
def JChk (n1 : Int) (len1 : Nat) (f1 : Nat → Int) (n2 : Int) (len2 : Nat) (f2 : Nat → Int) (c : Int) : Prop :=
  (c ≠ 0 ∧ Chk2 n1 len1 f1 n2 len2 f2 c) ∨ (Chk2 n1 len1 f1 n2 len2 f2 0 ∧ ((c = 2 ∧ 10 < len1 + len2) ∨ (c = 0 ∧ len1 + len2 ≤ 10)))
theorem JChk.unique {n1 : Int} {len1 : Nat} {f1 : Nat → Int} {n2 : Int} {len2 : Nat} {f2 : Nat → Int} {c c' : Int} (h : JChk n1 len1 f1 n2 len2 f2 c) (h' : JChk n1 len1 f1 n2 len2 f2 c') : c = c' := by
  rcases h with ⟨h0, h⟩ | ⟨h, k⟩ <;> rcases h' with ⟨h0', h'⟩ | ⟨h', k'⟩
  · exact h.unique h'
  · exact absurd (h.unique h') h0
  · exact absurd (h'.unique h) h0'
  · omega
theorem Chk2.good {n1 : Int} {len1 : Nat} {f1 : Nat → Int} {n2 : Int} {len2 : Nat} {f2 : Nat → Int} (h : Chk2 n1 len1 f1 n2 len2 f2 0) : Chk n1 len1 f1 0 ∧ Chk n2 len2 f2 0 := by
  rcases h with ⟨h, _⟩ | h
  · exact absurd rfl h
  · exact h
def BesidePost (u : Nat → Nat) (n1 : Int) (len1 : Nat) (f1 : Nat → Int) (n2 : Int) (len2 : Nat) (f2 : Nat → Int) (e : Ending) (w' : World) : Prop :=
  ∃ (c : Int) (x : Value), JChk n1 len1 f1 n2 len2 f2 c ∧ e = .returned (.tuple #[x, .int .i64 c]) ∧ OrdErr c ((len1 + len2 : Nat) : Int) (len1 + len2) (fun k => (jn (nat f1) len1 (nat f2) (u len1) k : Nat)) x w'

theorem two_new (w : World) (n1 : Int) (a1 : Option Addr) (len1 cap1 : Nat) (n2 : Int) (a2 : Option Addr) (len2 cap2 : Nat) : Two (w.alloc (.cells #[.int .i64 n1, .slice a1 len1 cap1, .int .i64 n2, .slice a2 len2 cap2] 24)) w.heap.size n1 a1 len1 cap1 n2 a2 len2 cap2 :=
  ⟨by simp, by simp, by simp, by simp⟩

end Go.Proofs.YtgdbldfbhiaepabDoor
