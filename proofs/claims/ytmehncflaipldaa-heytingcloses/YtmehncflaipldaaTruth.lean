/-
  What hasselaw.truthIs and hasselaw.numbersAre, of what is the same, answer: true. Conditions: the library's table lies in its variable; slices read as slices of rows.
-/
import Derived.Test.YtmehncflaipldaaIrr
namespace Go.Proofs.Ytmehncflaipldaa
set_option maxRecDepth 100000
open Go.RowKit

theorem bool_iff {a b : Bool} {P : Prop} (h : a = true ↔ P) (h' : b = true ↔ P) : a = b := by
  rcases a with _ | _ <;> rcases b with _ | _ <;> simp_all
theorem truthIs_any (c : Int) (b b' : Bool) (w : World) (h : (c ≠ 0 ∧ b = false) ∨ (c = 0 ∧ b = b')) :
    Calls Try.prog 16 #[.bool b, .int .i64 c, .int .i64 c, .bool b'] w fun e w' => e = .returned (.bool true) ∧ w = w' := by
  rcases h with ⟨h0, rfl⟩ | ⟨rfl, rfl⟩
  · have hne : (c == 0) = false := by simpa using h0
    cases b'
    · go_enter Try.func16, Try.ntmps16
      go_wp2
      go_ret
      exact ⟨rfl, rfl⟩
    · go_enter Try.func16, Try.ntmps16
      go_wp2
      go_ret
      exact ⟨rfl, rfl⟩
  · cases b
    · go_enter Try.func16, Try.ntmps16
      go_wp2
      go_ret
      exact ⟨rfl, rfl⟩
    · go_enter Try.func16, Try.ntmps16
      go_wp2
      go_ret
      exact ⟨rfl, rfl⟩

theorem numbersAre_any (c : Int) (l : List Nat) (v v' : Value) (w : World) (hl : l.length ≤ maxLen) (h1 : (c ≠ 0 ∧ v = .slice none 0 0 ∧ v' = .slice none 0 0) ∨ (c = 0 ∧ NSl w v l ∧ NSl w v' l)) :
    Calls Try.prog 15 #[v, .int .i64 c, .int .i64 c, v'] w fun e w' => e = .returned (.bool true) ∧ Below w.heap.size w w' := by
  rcases h1 with ⟨h0, rfl, rfl⟩ | ⟨rfl, ⟨a, ca, rfl, hr⟩, ⟨b, cb, rfl, hr'⟩⟩
  · have hne : (c != 0) = true := by simpa using h0
    go_enter Try.func15, Try.ntmps15
    go_wp2_with fail
    refine (same_any none none 0 0 0 0 (fun _ => 0) (fun _ => 0) _ (by unfold maxLen; omega) (by unfold maxLen; omega) (fun k hk => absurd hk (Nat.not_lt_zero _)) (fun k hk => absurd hk (Nat.not_lt_zero _))).mono ?_
    rintro e w1 ⟨⟨q, rfl, hq⟩, hB⟩
    obtain rfl : q = true := hq.2 ⟨rfl, fun _ _ => rfl⟩
    have HB : Hid (Below w.heap.size w w1) := hB
    clear hq hB
    go_wp2_with fail
    go_ret
    exact ⟨rfl, HB.out⟩
  · generalize l.length = m at *
    have HA : Hid (Row w a m (fun k => (nth l k : Nat))) := hr
    have HB' : Hid (Row w b m (fun k => (nth l k : Nat))) := hr'
    clear hr hr'
    go_enter Try.func15, Try.ntmps15
    go_wp2_with fail
    refine (same_any a b m ca m cb (fun k => (nth l k : Nat)) (fun k => (nth l k : Nat)) _ hl hl HA.out HB'.out).mono ?_
    rintro e w1 ⟨⟨q, rfl, hq⟩, hB⟩
    obtain rfl : q = true := hq.2 ⟨rfl, fun _ _ => rfl⟩
    have HB : Hid (Below w.heap.size w w1) := hB
    clear hq hB
    go_wp2_with fail
    go_ret
    exact ⟨rfl, HB.out⟩

theorem NSl.below {w w' : World} {v : Value} {l : List Nat} (h : NSl w v l) (hb : Below w.heap.size w w') : NSl w' v l := by
  obtain ⟨a, cap, rfl, hr⟩ := h
  exact ⟨a, cap, rfl, hr.below hb⟩

end Go.Proofs.Ytmehncflaipldaa
