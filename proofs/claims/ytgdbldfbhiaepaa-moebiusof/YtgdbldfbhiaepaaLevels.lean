/-
  What the reference's Height answers. Conditions: an order of at most ten points that lies in a slice of numbers.
  What the reference's Heights and LevelSets answer. Conditions: an order of at most ten points that lies in a slice of numbers.
  What level.Levels and level.Heights answer; what hasselaw.numbersAre answers; that hasselaw.levelBegun answers true. No condition but that a slice reads as a slice of numbers.
-/
import Derived.Test.YtgdbldfbhiaepaaLevelM
import Derived.Test.YtgdbldfbhiaepaaCoversP
import Derived.Test.YtgdbldfbhiaepaaNats
import Derived.Deep.LoopGhost
import Derived.Test.YtgdbldfbhiaepaaPeel
namespace Go.Proofs.Ytgdbldfbhiaepaa
open Go.RowKit



def mapTo (F : Nat → Nat) (k : Nat) : List Nat := (List.range k).map F
theorem mapTo_succ (F : Nat → Nat) (k : Nat) : mapTo F (k + 1) = mapTo F k ++ [F k] := by simp [mapTo, List.range_succ]
theorem mapTo_len (F : Nat → Nat) (k : Nat) : (mapTo F k).length = k := by simp [mapTo]
/-- The heights. -/
def hts (g : Nat → Nat) (n : Nat) : List Nat := mapTo (ht g n) n



theorem numbersAre_any (c : Int) (l : List Nat) (v v' : Value) (w : World) (hl : l.length ≤ maxLen) (h1 : (c ≠ 0 ∧ v = .slice none 0 0 ∧ v' = .slice none 0 0) ∨ (c = 0 ∧ NSl w v l ∧ NSl w v' l)) :
    Calls Try.prog 20 #[v, .int .i64 c, .int .i64 c, v'] w fun e w' => e = .returned (.bool true) ∧ Below w.heap.size w w' := by
  rcases h1 with ⟨h0, rfl, rfl⟩ | ⟨rfl, ⟨a, ca, rfl, hr⟩, ⟨b, cb, rfl, hr'⟩⟩
  · have hne : (c != 0) = true := by simpa using h0
    go_enter Try.func20, Try.ntmps20
    go_wp2_with fail
    refine (same_any none none 0 0 0 0 (fun _ => 0) (fun _ => 0) _ (by unfold maxLen; omega) (by unfold maxLen; omega) (fun k hk => absurd hk (Nat.not_lt_zero _)) (fun k hk => absurd hk (Nat.not_lt_zero _))).mono ?_
    rintro e w1 ⟨⟨q, rfl, hq⟩, hB⟩
    obtain rfl : q = true := hq.2 ⟨rfl, fun _ _ => rfl⟩
    have HB : Hid (Below w.heap.size w w1) := hB
    clear hq hB
    go_wp2_with fail
    go_ret
    exact ⟨rfl, HB.out⟩
  · generalize l.length = m at *
    have HA : Hid (Row w a m (fun k => (nth l k : Nat))) := hr
    have HB' : Hid (Row w b m (fun k => (nth l k : Nat))) := hr'
    clear hr hr'
    go_enter Try.func20, Try.ntmps20
    go_wp2_with fail
    refine (same_any a b m ca m cb (fun k => (nth l k : Nat)) (fun k => (nth l k : Nat)) _ hl hl HA.out HB'.out).mono ?_
    rintro e w1 ⟨⟨q, rfl, hq⟩, hB⟩
    obtain rfl : q = true := hq.2 ⟨rfl, fun _ _ => rfl⟩
    have HB : Hid (Below w.heap.size w w1) := hB
    clear hq hB
    go_wp2_with fail
    go_ret
    exact ⟨rfl, HB.out⟩

theorem NSl.below {w w' : World} {v : Value} {l : List Nat} (h : NSl w v l) (hb : Below w.heap.size w w') : NSl w' v l := by
  obtain ⟨a, cap, rfl, hr⟩ := h
  exact ⟨a, cap, rfl, hr.below hb⟩
/-- What comes with a code: a list, or nothing. -/
def ListPost (L : (Nat → Nat) → Nat → List Nat) (n : Int) (len : Nat) (f : Nat → Int) (e : Ending) (w' : World) : Prop :=
  ∃ (c : Int) (v : Value), Chk n len f c ∧ e = .returned (.tuple #[v, .int .i64 c]) ∧ ((c ≠ 0 ∧ v = .slice none 0 0) ∨ (c = 0 ∧ NSl w' v (L (nat f) len)))

end Go.Proofs.Ytgdbldfbhiaepaa
