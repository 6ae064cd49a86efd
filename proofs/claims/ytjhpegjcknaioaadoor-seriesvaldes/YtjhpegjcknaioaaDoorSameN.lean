/-
  Lists of numbers as slices. No condition.
  What the reference's Same answers of two slices of numbers. No condition but that they read so.
-/
import Derived.Test.YtjhpegjcknaioaaDoorDual
import Derived.Test.YtjhpegjcknaioaaDoorGood
import Derived.Deep.QuietTactic
import Derived.BigQuiet
namespace Go.Proofs.YtjhpegjcknaioaaDoor
open Go.RowKit

def natVals (l : List Nat) : List Value := l.map fun x => .int .i64 (x : Nat)
theorem natVals_append (l m : List Nat) : natVals (l ++ m) = natVals l ++ natVals m := by simp [natVals]
def nth (l : List Nat) (k : Nat) : Nat := l.getD k 0
theorem natVals_at (l : List Nat) (k : Nat) (h : k < l.length) : (natVals l)[k]? = some (.int .i64 (nth l k : Nat)) := by
  simp [natVals, nth, h]
/-- A value that is a slice of the numbers l. -/
def NSl (w : World) (v : Value) (l : List Nat) : Prop := ∃ a cap, v = .slice a l.length cap ∧ Row w a l.length (fun k => (nth l k : Nat))
theorem owns_nats {w : World} {base : Nat} {v : Value} {l : List Nat} (h : w.ownsRow base 3 1 v l.length (natVals l)) : NSl w v l := by
  by_cases hn : 0 < l.length
  · obtain ⟨g, cap, rfl⟩ := owns_form h hn
    refine ⟨_, cap, rfl, fun k hk => ⟨g, 0, rfl, ?_⟩⟩
    rw [Nat.zero_add, h.cellAt _ (by omega)]; exact natVals_at l k hk
  · have h0 : l.length = 0 := by omega
    rcases h.2 with ⟨rfl, _⟩ | ⟨g, cap, cur, rfl, _⟩
    · exact ⟨none, 0, by rw [h0], fun k hk => absurd (Nat.lt_of_le_of_lt (Nat.zero_le _) hk) hn⟩
    · exact ⟨_, cap, rfl, fun k hk => absurd (Nat.lt_of_le_of_lt (Nat.zero_le _) hk) hn⟩
theorem below_append3 {w wx w1 : World} {o2 : Obj} {e : TypeId} {size n : Nat} {v : Value} {xs : List Value} (h : Below w.heap.size w wx) (hown : wx.ownsRow w.heap.size e size v n xs) (hg : (wx.alloc o2).grownBy w1 v.ownBlock) : Below w.heap.size w w1 :=
  (h.alloc h.size o2).grown hg (by have := h.size; simp; omega) (owns_block hown)

end Go.Proofs.YtjhpegjcknaioaaDoor
namespace Go.Proofs.YtjhpegjcknaioaaDoor
open Go.RowKit

theorem same_any (a b : Option Addr) (la ca lb cb : Nat) (f g : Nat → Int) (w : World) (hl : la ≤ maxLen) (hl2 : lb ≤ maxLen) (ha : Row w a la f) (hb : Row w b lb g) :
    Calls Tryd.prog 35 #[.slice a la ca, .slice b lb cb] w fun e w' => Ans e (SameRows la lb f g) ∧ Below w.heap.size w w' := by
  unfold maxLen at hl hl2
  by_cases hlen : la = lb
  · subst hlen
    have HA := (show Hid _ from ha); have HB := (show Hid _ from hb); clear ha hb
    go_enter Tryd.func35, Tryd.ntmps35
    go_wp2
    go_loopw [5] (fun i wx => ∃ k : Nat, k ≤ la ∧ i = .int .i64 k ∧ Hid (∀ j, j < k → f j = g j) ∧ Row wx a la f ∧ Row wx b la g ∧ Hid (Below w.heap.size w wx)) (fun i _ => la - (intOf i).toNat)
    case atStart => exact ⟨0, Nat.zero_le _, rfl, upto_zero, HA.out, HB.out, Below.refl _ _⟩
    case round =>
      obtain ⟨k, hk, rfl, hok, hA, hB, hW⟩ := hrel
      clear HA HB
      by_cases hlt : k < la
      · obtain ⟨b1, o1, rfl, hc1⟩ := hA.at hlt
        obtain ⟨b2, o2, rfl, hc2⟩ := hB.at hlt
        have d1 := hc1 k hlt
        have d2 := hc2 k hlt
        clear hc1 hc2
        have hlt' : (k : Int) < (la : Int) := by omega
        by_cases he : f k = g k
        · have hne : (f k != g k) = false := by simpa using he
          have HE := (show Hid _ from he); clear he
          go_wp2
          go_quiet (fail)
          go_wp2
          go_roundw
          case rel => exact ⟨k + 1, by omega, by go_num, upto_succ hok.out HE.out, hA, hB, below_drewN hW.out _⟩
          case measure => simp [intOf]; omega
        · have hne : (f k != g k) = true := by simpa using he
          go_wp2
          go_quiet (fail)
          go_wp2
          go_ret
          exact ⟨Ans.no (fun h => he (h.2 k hlt)), below_drewN hW.out _⟩
      · have hkn : k = la := by omega
        subst hkn
        go_wp2
        go_ret
        exact ⟨Ans.yes ⟨rfl, hok.out⟩, hW.out⟩
  · have hne : ((la : Int) != (lb : Int)) = true := by simp; omega
    clear ha hb
    go_enter Tryd.func35, Tryd.ntmps35
    go_wp2
    go_ret
    exact ⟨Ans.no (fun h => hlen h.1), Below.refl _ _⟩
end Go.Proofs.YtjhpegjcknaioaaDoor
