/-
  What the reference's Rows answers: how many ways go on behind each set. Conditions: an order of at most ten points that lies in a slice of numbers.
  Lists of numbers as slices. No condition.
  What the reference's Same answers; that hasselaw.orderBegun answers true. Conditions: slices read as slices of numbers.
-/
import Derived.Test.YtklfnghgpmjnmaaLayOut
import Derived.Test.YtklfnghgpmjnmaaSets
import Derived.Test.YtklfnghgpmjnmaaBuild
import Derived.Test.YtklfnghgpmjnmaaMake
namespace Go.Proofs.Ytklfnghgpmjnmaa
open Go.RowKit

/-- All stand already: one way. -/
def st (n s : Nat) : Nat := if s + 1 = pw n then 1 else 0
theorem st_le (n s : Nat) : st n s ≤ 1 := by unfold st; split <;> omega
theorem ways_st {u : Nat → Nat} {n s : Nat} (hs : s < pw n) : st n s + sumTo (goes u n s) n = ways u n s := by
  unfold st
  by_cases e : s + 1 = pw n
  · rw [if_pos e, show s = pw n - 1 by omega, sum_all n (Nat.le_refl _), ways_all]
  · rw [if_neg e, ways_eq (by omega), Nat.zero_add]

theorem tb_none {u : Nat → Nat} {n s : Nat} (hs : s < pw n) : 0 = tb u n (pw n) s := by
  have : ¬ pw n ≤ s := by omega
  simp [tb, this]
end Go.Proofs.Ytklfnghgpmjnmaa
namespace Go.Proofs.Ytklfnghgpmjnmaa
open Go.RowKit

def natVals (l : List Nat) : List Value := l.map fun x => .int .i64 (x : Nat)
theorem natVals_append (l m : List Nat) : natVals (l ++ m) = natVals l ++ natVals m := by simp [natVals]
def nth (l : List Nat) (k : Nat) : Nat := l.getD k 0
theorem natVals_at (l : List Nat) (k : Nat) (h : k < l.length) : (natVals l)[k]? = some (.int .i64 (nth l k : Nat)) := by
  simp [natVals, nth, h]
/-- A value that is a slice of the numbers l. -/
def NSl (w : World) (v : Value) (l : List Nat) : Prop := ∃ a cap, v = .slice a l.length cap ∧ Row w a l.length (fun k => (nth l k : Nat))
theorem owns_nats {w : World} {base : Nat} {v : Value} {l : List Nat} (h : w.ownsRow base 3 1 v l.length (natVals l)) : NSl w v l := by
  by_cases hn : 0 < l.length
  · obtain ⟨g, cap, rfl⟩ := owns_form h hn
    refine ⟨_, cap, rfl, fun k hk => ⟨g, 0, rfl, ?_⟩⟩
    rw [Nat.zero_add, h.cellAt _ (by omega)]; exact natVals_at l k hk
  · have h0 : l.length = 0 := by omega
    rcases h.2 with ⟨rfl, _⟩ | ⟨g, cap, cur, rfl, _⟩
    · exact ⟨none, 0, by rw [h0], fun k hk => absurd (Nat.lt_of_le_of_lt (Nat.zero_le _) hk) hn⟩
    · exact ⟨_, cap, rfl, fun k hk => absurd (Nat.lt_of_le_of_lt (Nat.zero_le _) hk) hn⟩
theorem below_append3 {w wx w1 : World} {o2 : Obj} {e : TypeId} {size n : Nat} {v : Value} {xs : List Value} (h : Below w.heap.size w wx) (hown : wx.ownsRow w.heap.size e size v n xs) (hg : (wx.alloc o2).grownBy w1 v.ownBlock) : Below w.heap.size w w1 :=
  (h.alloc h.size o2).grown hg (by have := h.size; simp; omega) (owns_block hown)

end Go.Proofs.Ytklfnghgpmjnmaa
namespace Go.Proofs.Ytklfnghgpmjnmaa
open Go.RowKit

theorem Row.drewN {w : World} {a : Option Addr} {len : Nat} {f : Nat → Int} (h : Row w a len f) (m : Nat) : Row (w.drewN m) a len f := h

def SameRows (la lb : Nat) (f g : Nat → Int) : Prop := la = lb ∧ ∀ k, k < la → f k = g k
theorem same_any (a b : Option Addr) (la ca lb cb : Nat) (f g : Nat → Int) (w : World) (hl : la ≤ maxLen) (hl2 : lb ≤ maxLen) (ha : Row w a la f) (hb : Row w b lb g) :
    Calls Try.prog 40 #[.slice a la ca, .slice b lb cb] w fun e w' => Ans e (SameRows la lb f g) ∧ Below w.heap.size w w' := by
  unfold maxLen at hl hl2
  by_cases hlen : la = lb
  · subst hlen
    have HA := (show Hid _ from ha); have HB := (show Hid _ from hb); clear ha hb
    go_enter Try.func40, Try.ntmps40
    go_wp2
    go_loopw [5] (fun i wx => ∃ k : Nat, k ≤ la ∧ i = .int .i64 k ∧ Hid (∀ j, j < k → f j = g j) ∧ Row wx a la f ∧ Row wx b la g ∧ Hid (Below w.heap.size w wx)) (fun i _ => la - (intOf i).toNat)
    case atStart => exact ⟨0, Nat.zero_le _, rfl, upto_zero, HA.out, HB.out, Below.refl _ _⟩
    case round =>
      obtain ⟨k, hk, rfl, hok, hA, hB, hW⟩ := hrel
      clear HA HB
      by_cases hlt : k < la
      · obtain ⟨b1, o1, rfl, hc1⟩ := hA.at hlt
        obtain ⟨b2, o2, rfl, hc2⟩ := hB.at hlt
        have d1 := hc1 k hlt
        have d2 := hc2 k hlt
        clear hc1 hc2
        have hlt' : (k : Int) < (la : Int) := by omega
        by_cases he : f k = g k
        · have hne : (f k != g k) = false := by simpa using he
          have HE := (show Hid _ from he); clear he
          go_wp2
          go_quiet (fail)
          go_wp2
          go_roundw
          case rel => exact ⟨k + 1, by omega, by go_num, upto_succ hok.out HE.out, hA, hB, below_drewN hW.out _⟩
          case measure => simp [intOf]; omega
        · have hne : (f k != g k) = true := by simpa using he
          go_wp2
          go_quiet (fail)
          go_wp2
          go_ret
          exact ⟨Ans.no (fun h => he (h.2 k hlt)), below_drewN hW.out _⟩
      · have hkn : k = la := by omega
        subst hkn
        go_wp2
        go_ret
        exact ⟨Ans.yes ⟨rfl, hok.out⟩, hW.out⟩
  · have hne : ((la : Int) != (lb : Int)) = true := by simp; omega
    clear ha hb
    go_enter Try.func40, Try.ntmps40
    go_wp2
    go_ret
    exact ⟨Ans.no (fun h => hlen h.1), Below.refl _ _⟩

def pBegun (k : Nat) : Int × Int := if k = 0 then (0, 1) else (1, 2)
def gBegun (k : Nat) : Nat := if k = 0 then 0 else if k = 1 then 1 else 3
theorem begun_sets : ∀ k, k < 3 → reachOut (mk pBegun 2) 3 3 k = gBegun k := by decide +kernel
theorem begun_ord : Ord 3 (reachOut (mk pBegun 2) 3 3) := by
  unfold Ord OrdAt; decide +kernel
theorem begun_pin : ∀ k, k < 2 → PIn ((3 : Nat) : Int) pBegun k := by
  unfold PIn; decide +kernel
theorem begun_mk {c : Int} (h : Mk 3 2 pBegun c) : c = 0 := by
  rcases h with ⟨_, h⟩ | ⟨m, hm, _, ⟨_, h⟩ | ⟨_, ⟨_, h⟩ | ⟨h, _⟩⟩⟩
  · exact absurd ⟨by decide, by decide⟩ h
  · have : m = 3 := by omega
    subst this; exact absurd begun_pin h
  · have : m = 3 := by omega
    subst this; exact absurd begun_ord h
  · exact h

end Go.Proofs.Ytklfnghgpmjnmaa
