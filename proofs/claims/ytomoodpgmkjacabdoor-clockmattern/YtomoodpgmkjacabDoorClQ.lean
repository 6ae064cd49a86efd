/-
  What clock.has, checkNext and Check answer, whatever they are handed. Condition: a slice reads as a slice of events.
-/
import Derived.Test.YtomoodpgmkjacabDoorClP
import Derived.Deep.RegionHeld3
namespace Go.Proofs.YtomoodpgmkjacabDoor
open Go.RowKit

theorem containsE_any (a : Option Addr) (len cap : Nat) (E : Nat → Int × Int × Int) (kd ms : Int) (B C : Nat) (w : World) (hl : len ≤ maxLen) (hr : ERow w a len E) (h1 : w.cell? ⟨B, 0, none⟩ = some (.int .i64 kd)) (h2 : w.cell? ⟨C, 0, none⟩ = some (.int .i64 ms)) :
    Calls Tryd.prog 29 #[.slice a len cap, .func (.func 30) #[] #[.pointer (some ⟨B, 0, none⟩), .pointer (some ⟨C, 0, none⟩)]] w fun e w' => Ans e (hasE E len kd ms) ∧ Below w.heap.size w w' := by
  have HC := indexE_any a len cap E kd ms B C w hl hr h1 h2
  clear hr h1 h2
  go_enter Tryd.func29, Tryd.ntmps29
  go_wp2_with fail
  refine HC.mono ?_
  rintro e w1 ⟨⟨x, rfl, hx⟩, hb⟩
  have HB : Hid (Below w.heap.size w w1) := hb
  clear HC hb
  rcases hx with ⟨rfl, hn⟩ | ⟨h0, hy⟩
  · have HN : Hid (¬ hasE E len kd ms) := hn
    clear hn
    go_wp2_with fail
    go_ret
    exact ⟨Ans.no HN.out, HB.out⟩
  · have HN : Hid (hasE E len kd ms) := hy
    clear hy
    go_wp2_with fail
    go_ret
    exact ⟨Ans.yes HN.out, HB.out⟩
theorem has2_any (a : Option Addr) (len cap : Nat) (E : Nat → Int × Int × Int) (kd ms : Int) (w : World) (hl : len ≤ maxLen) (hr : ERow w a len E) :
    Calls Tryd.prog 18 #[.slice a len cap, .int .i64 kd, .int .i64 ms] w fun e w' => Ans e (hasE E len kd ms) ∧ Below w.heap.size w w' := by
  obtain ⟨W, HW⟩ : ∃ W, Hid ((w.alloc (.cells #[.int .i64 kd] 3)).alloc (.cells #[.int .i64 ms] 3) = W) := ⟨_, rfl⟩
  have hB : Below w.heap.size w W := by rw [← HW.out]; exact ((Below.refl _ _).alloc (Nat.le_refl _) _).alloc (by simp) _
  have q1 : W.cell? ⟨w.heap.size, 0, none⟩ = some (.int .i64 kd) := by rw [← HW.out]; simp
  have q2 : W.cell? ⟨w.heap.size + 1, 0, none⟩ = some (.int .i64 ms) := by rw [← HW.out]; simp
  have HC := containsE_any a len cap E kd ms w.heap.size (w.heap.size + 1) W hl (hr.below hB) q1 q2
  have HB : Hid (Below w.heap.size w W) := hB
  clear hr q1 q2 hB
  go_enter Tryd.func18, Tryd.ntmps18
  go_wp2_with fail
  rw [HW.out]
  refine HC.mono ?_
  rintro e w1 ⟨⟨b, rfl, hb2⟩, hb⟩
  have HB1 : Hid (Below w.heap.size w w1) := Below.then HB.out hb
  have HA : Hid (b = true ↔ hasE E len kd ms) := hb2
  clear HC hb HB hb2
  go_wp2_with fail
  go_ret
  exact ⟨⟨b, rfl, HA.out⟩, HB1.out⟩
end Go.Proofs.YtomoodpgmkjacabDoor
