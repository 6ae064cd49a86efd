/-
  What the reference's Rows answers: how many ways go on behind each set. Conditions: an order of at most ten points that lies in a slice of numbers.
  Lists of numbers as slices. No condition.
  What the reference's Same answers; that hasselaw.orderBegun answers true. Conditions: slices read as slices of numbers.
  For every order that is handed in, hasselaw.OrderChecks returns true, and writes nothing that was there. No condition.
  What a good order gives. No condition.
-/
import Derived.Test.YtklfnghgpmjnmaaDoorLayOut
import Derived.Test.YtklfnghgpmjnmaaDoorSets
import Derived.Test.YtklfnghgpmjnmaaDoorBuild
import Derived.Deep.RegionHeld3
namespace Go.Proofs.YtklfnghgpmjnmaaDoor
open Go.RowKit

/-- All stand already: one way. -/
def st (n s : Nat) : Nat := if s + 1 = pw n then 1 else 0
theorem st_le (n s : Nat) : st n s ≤ 1 := by unfold st; split <;> omega
theorem ways_st {u : Nat → Nat} {n s : Nat} (hs : s < pw n) : st n s + sumTo (goes u n s) n = ways u n s := by
  unfold st
  by_cases e : s + 1 = pw n
  · rw [if_pos e, show s = pw n - 1 by omega, sum_all n (Nat.le_refl _), ways_all]
  · rw [if_neg e, ways_eq (by omega), Nat.zero_add]

theorem tb_none {u : Nat → Nat} {n s : Nat} (hs : s < pw n) : 0 = tb u n (pw n) s := by
  have : ¬ pw n ≤ s := by omega
  simp [tb, this]
end Go.Proofs.YtklfnghgpmjnmaaDoor
namespace Go.Proofs.YtklfnghgpmjnmaaDoor
open Go.RowKit

def natVals (l : List Nat) : List Value := l.map fun x => .int .i64 (x : Nat)
theorem natVals_append (l m : List Nat) : natVals (l ++ m) = natVals l ++ natVals m := by simp [natVals]
def nth (l : List Nat) (k : Nat) : Nat := l.getD k 0
theorem natVals_at (l : List Nat) (k : Nat) (h : k < l.length) : (natVals l)[k]? = some (.int .i64 (nth l k : Nat)) := by
  simp [natVals, nth, h]
/-- A value that is a slice of the numbers l. -/
def NSl (w : World) (v : Value) (l : List Nat) : Prop := ∃ a cap, v = .slice a l.length cap ∧ Row w a l.length (fun k => (nth l k : Nat))
theorem owns_nats {w : World} {base : Nat} {v : Value} {l : List Nat} (h : w.ownsRow base 3 1 v l.length (natVals l)) : NSl w v l := by
  by_cases hn : 0 < l.length
  · obtain ⟨g, cap, rfl⟩ := owns_form h hn
    refine ⟨_, cap, rfl, fun k hk => ⟨g, 0, rfl, ?_⟩⟩
    rw [Nat.zero_add, h.cellAt _ (by omega)]; exact natVals_at l k hk
  · have h0 : l.length = 0 := by omega
    rcases h.2 with ⟨rfl, _⟩ | ⟨g, cap, cur, rfl, _⟩
    · exact ⟨none, 0, by rw [h0], fun k hk => absurd (Nat.lt_of_le_of_lt (Nat.zero_le _) hk) hn⟩
    · exact ⟨_, cap, rfl, fun k hk => absurd (Nat.lt_of_le_of_lt (Nat.zero_le _) hk) hn⟩
theorem below_append3 {w wx w1 : World} {o2 : Obj} {e : TypeId} {size n : Nat} {v : Value} {xs : List Value} (h : Below w.heap.size w wx) (hown : wx.ownsRow w.heap.size e size v n xs) (hg : (wx.alloc o2).grownBy w1 v.ownBlock) : Below w.heap.size w w1 :=
  (h.alloc h.size o2).grown hg (by have := h.size; simp; omega) (owns_block hown)

end Go.Proofs.YtklfnghgpmjnmaaDoor
namespace Go.Proofs.YtklfnghgpmjnmaaDoor
open Go.RowKit

theorem Row.drewN {w : World} {a : Option Addr} {len : Nat} {f : Nat → Int} (h : Row w a len f) (m : Nat) : Row (w.drewN m) a len f := h

def SameRows (la lb : Nat) (f g : Nat → Int) : Prop := la = lb ∧ ∀ k, k < la → f k = g k
def pBegun (k : Nat) : Int × Int := if k = 0 then (0, 1) else (1, 2)
def gBegun (k : Nat) : Nat := if k = 0 then 0 else if k = 1 then 1 else 3
theorem begun_sets : ∀ k, k < 3 → reachOut (mk pBegun 2) 3 3 k = gBegun k := by decide +kernel
theorem begun_ord : Ord 3 (reachOut (mk pBegun 2) 3 3) := by
  unfold Ord OrdAt; decide +kernel
theorem begun_pin : ∀ k, k < 2 → PIn ((3 : Nat) : Int) pBegun k := by
  unfold PIn; decide +kernel
theorem begun_mk {c : Int} (h : Mk 3 2 pBegun c) : c = 0 := by
  rcases h with ⟨_, h⟩ | ⟨m, hm, _, ⟨_, h⟩ | ⟨_, ⟨_, h⟩ | ⟨h, _⟩⟩⟩
  · exact absurd ⟨by decide, by decide⟩ h
  · have : m = 3 := by omega
    subst this; exact absurd begun_pin h
  · have : m = 3 := by omega
    subst this; exact absurd begun_ord h
  · exact h

end Go.Proofs.YtklfnghgpmjnmaaDoor
namespace Go.Proofs.YtklfnghgpmjnmaaDoor
open Go.RowKit

theorem kept_step {w0 w1 w2 : World} {n : Int} {a : Option Addr} {len cap : Nat} {f : Nat → Int}
    (h : w1.cell? ⟨w0.heap.size, 0, none⟩ = some (.int .i64 n) ∧ w1.cell? ⟨w0.heap.size, 1, none⟩ = some (.slice a len cap) ∧ Row w1 a len f ∧ Below w0.heap.size w0 w1)
    (hb : Below w1.heap.size w1 w2) :
    w2.cell? ⟨w0.heap.size, 0, none⟩ = some (.int .i64 n) ∧ w2.cell? ⟨w0.heap.size, 1, none⟩ = some (.slice a len cap) ∧ Row w2 a len f ∧ Below w0.heap.size w0 w2 := by
  obtain ⟨h1, h2, h3, h4⟩ := h
  obtain ⟨k1, k2, k3⟩ := Held.step ⟨h1, h2, h3⟩ hb
  exact ⟨k1, k2, k3, Below.then h4 hb⟩
theorem kept_row {w0 w1 : World} {n : Int} {a : Option Addr} {len cap : Nat} {f : Nat → Int}
    (h : w1.cell? ⟨w0.heap.size, 0, none⟩ = some (.int .i64 n) ∧ w1.cell? ⟨w0.heap.size, 1, none⟩ = some (.slice a len cap) ∧ Row w1 a len f ∧ Below w0.heap.size w0 w1) : Row w1 a len f := h.2.2.1
theorem kept_below {w0 w1 : World} {n : Int} {a : Option Addr} {len cap : Nat} {f : Nat → Int}
    (h : w1.cell? ⟨w0.heap.size, 0, none⟩ = some (.int .i64 n) ∧ w1.cell? ⟨w0.heap.size, 1, none⟩ = some (.slice a len cap) ∧ Row w1 a len f ∧ Below w0.heap.size w0 w1) : Below w0.heap.size w0 w1 := h.2.2.2
theorem kept_first {w0 : World} {n : Int} {a : Option Addr} {len cap : Nat} {f : Nat → Int} (hr : Row w0 a len f) :
    (w0.alloc (.cells #[.int .i64 n, .slice a len cap] 24)).drew.cell? ⟨w0.heap.size, 0, none⟩ = some (.int .i64 n) ∧ (w0.alloc (.cells #[.int .i64 n, .slice a len cap] 24)).drew.cell? ⟨w0.heap.size, 1, none⟩ = some (.slice a len cap) ∧ Row (w0.alloc (.cells #[.int .i64 n, .slice a len cap] 24)).drew a len f ∧ Below w0.heap.size w0 (w0.alloc (.cells #[.int .i64 n, .slice a len cap] 24)).drew := by
  obtain ⟨k1, k2, k3⟩ := Held.box (n := n) (cap := cap) hr
  exact ⟨k1, k2, k3, ((Below.refl _ _).alloc (Nat.le_refl _) _).drew⟩

end Go.Proofs.YtklfnghgpmjnmaaDoor
namespace Go.Proofs.YtklfnghgpmjnmaaDoor
open Go.RowKit

theorem Chk.good {n : Int} {len : Nat} {f : Nat → Int} (h : Chk n len f 0) : n = (len : Int) ∧ len ≤ 10 ∧ Rng len f ∧ Ord len (nat f) := by
  rcases h with ⟨h, _⟩ | ⟨m, hm, h10, ⟨h, _⟩ | ⟨rfl, ⟨h, _⟩ | ⟨hr, ⟨h, _⟩ | ⟨_, ho⟩⟩⟩⟩
  · cases h
  · cases h
  · cases h
  · cases h
  · exact ⟨hm, h10, hr, ho⟩
theorem Rng.row {w : World} {a : Option Addr} {len : Nat} {f : Nat → Int} (hr : Rng len f) (h : Row w a len f) : Row w a len (fun k => (nat f k : Nat)) := by
  intro j hj
  have := h j hj
  have e : f j = (nat f j : Nat) := by have := hr j hj; unfold nat; omega
  rw [e] at this
  exact this
theorem Rng.small {len : Nat} {f : Nat → Int} (hr : Rng len f) : ∀ k, k < len → nat f k < pw len := fun k hk => by
  have := hr k hk; unfold nat; omega
theorem Rng.small2 {len : Nat} {f : Nat → Int} (hr : Rng len f) (hl : len ≤ 10) : ∀ k, k < len → nat f k < 1024 := fun k hk =>
  Nat.lt_of_lt_of_le (hr.small k hk) (pw_le len hl)

end Go.Proofs.YtklfnghgpmjnmaaDoor
