/-
  What clock.checkNext and Check answer, whatever they are handed. Condition: a slice reads as a slice of events.
-/
import Derived.Test.YtomoodpgmkjacabDoorClQ
namespace Go.Proofs.YtomoodpgmkjacabDoor
open Go.RowKit

/-- What is wrong with an event of this kind, worker and message, behind i others. -/
def EvF (W : Int) (E : Nat → Int × Int × Int) (i : Nat) (q1 q2 q3 : Int) (c : Int) : Prop :=
  (c = 7 ∧ (q1 < 1 ∨ 3 < q1)) ∨ ((1 ≤ q1 ∧ q1 ≤ 3) ∧
    ((c = 3 ∧ (q2 < 0 ∨ W ≤ q2 ∨ q3 < 0 ∨ (q1 = 1 ∧ q3 ≠ 0))) ∨
     ((0 ≤ q2 ∧ q2 < W ∧ 0 ≤ q3 ∧ (q1 = 1 → q3 = 0)) ∧
      ((c = 6 ∧ q1 ≠ 1 ∧ hasE E i q1 q3) ∨ ((q1 = 1 ∨ ¬ hasE E i q1 q3) ∧
        ((c = 5 ∧ q1 = 3 ∧ ¬ hasE E i 2 q3) ∨ (c = 0 ∧ (q1 = 3 → hasE E i 2 q3))))))))
set_option maxHeartbeats 2000000 in
theorem checkNext_any (W : Int) (a : Option Addr) (i cap : Nat) (E : Nat → Int × Int × Int) (q1 q2 q3 : Int) (w : World) (hl : i ≤ maxLen) (hr : ERow w a i E) :
    Calls Tryd.prog 20 #[.int .i64 W, .slice a i cap, .agg #[.int .i64 q1, .int .i64 q2, .int .i64 q3]] w fun e w' => (∃ c : Int, e = .returned (.int .i64 c) ∧ EvF W E i q1 q2 q3 c) ∧ Below w.heap.size w w' := by
  have HB0 : Hid (Below w.heap.size w (w.alloc (.cells #[.int .i64 q1, .int .i64 q2, .int .i64 q3] 38))) := (Below.refl _ _).alloc (Nat.le_refl _) _
  have HR : Hid (ERow (w.alloc (.cells #[.int .i64 q1, .int .i64 q2, .int .i64 q3] 38)) a i E) := hr.below HB0.out
  have HL : Hid (i ≤ maxLen) := hl
  clear hr hl
  by_cases k1 : q1 < 1
  · have k1' : decide (q1 < 1) = true := by simpa using k1
    have HE : Hid (EvF W E i q1 q2 q3 7) := .inl ⟨rfl, .inl k1⟩
    go_enter Tryd.func20, Tryd.ntmps20
    go_wp2
    go_ret
    exact ⟨⟨_, rfl, HE.out⟩, HB0.out⟩
  by_cases k2 : 3 < q1
  · have k1' : decide (q1 < 1) = false := by simpa using k1
    have HE : Hid (EvF W E i q1 q2 q3 7) := .inl ⟨rfl, .inr k2⟩
    go_enter Tryd.func20, Tryd.ntmps20
    go_wp2
    go_ret
    exact ⟨⟨_, rfl, HE.out⟩, HB0.out⟩
  have HK : Hid (1 ≤ q1 ∧ q1 ≤ 3) := ⟨by omega, by omega⟩
  have k1' : decide (q1 < 1) = false := by simpa using k1
  have k2' : decide (3 < q1) = false := by simpa using k2
  by_cases k3 : q2 < 0
  · have k3' : decide (q2 < 0) = true := by simpa using k3
    have HE : Hid (EvF W E i q1 q2 q3 3) := .inr ⟨HK.out, .inl ⟨rfl, .inl k3⟩⟩
    go_enter Tryd.func20, Tryd.ntmps20
    go_wp2
    go_ret
    exact ⟨⟨_, rfl, HE.out⟩, HB0.out⟩
  have k3' : decide (q2 < 0) = false := by simpa using k3
  by_cases k4 : W ≤ q2
  · have k4' : decide (W ≤ q2) = true := by simpa using k4
    have HE : Hid (EvF W E i q1 q2 q3 3) := .inr ⟨HK.out, .inl ⟨rfl, .inr (.inl k4)⟩⟩
    go_enter Tryd.func20, Tryd.ntmps20
    go_wp2
    go_ret
    exact ⟨⟨_, rfl, HE.out⟩, HB0.out⟩
  have k4' : decide (W ≤ q2) = false := by simpa using k4
  by_cases k5 : q3 < 0
  · have k5' : decide (q3 < 0) = true := by simpa using k5
    have HE : Hid (EvF W E i q1 q2 q3 3) := .inr ⟨HK.out, .inl ⟨rfl, .inr (.inr (.inl k5))⟩⟩
    go_enter Tryd.func20, Tryd.ntmps20
    go_wp2
    go_ret
    exact ⟨⟨_, rfl, HE.out⟩, HB0.out⟩
  have k5' : decide (q3 < 0) = false := by simpa using k5
  by_cases k6 : q1 = 1
  · have HE3 : Hid (q3 ≠ 0 → EvF W E i q1 q2 q3 3) := fun h => .inr ⟨HK.out, .inl ⟨rfl, .inr (.inr (.inr ⟨k6, h⟩))⟩⟩
    have HE0 : Hid (q3 = 0 → EvF W E i q1 q2 q3 0) := fun h => .inr ⟨HK.out, .inr ⟨⟨by omega, by omega, by omega, fun _ => h⟩, .inr ⟨.inl k6, .inr ⟨rfl, fun h => by omega⟩⟩⟩⟩
    have k6' : (q1 == 1) = true := by simpa using k6
    have k7' : (q1 == 3) = false := by simp; omega
    by_cases k8 : q3 = 0
    · have HE : Hid (EvF W E i q1 q2 q3 0) := HE0.out k8
      have k8' : (q3 != 0) = false := by simpa using k8
      clear HE3 HE0 k8 k6
      go_enter Tryd.func20, Tryd.ntmps20
      go_wp2
      go_ret
      exact ⟨⟨_, rfl, HE.out⟩, HB0.out⟩
    · have HE : Hid (EvF W E i q1 q2 q3 3) := HE3.out k8
      have k8' : (q3 != 0) = true := by simpa using k8
      clear HE3 HE0 k8 k6
      go_enter Tryd.func20, Tryd.ntmps20
      go_wp2
      go_ret
      exact ⟨⟨_, rfl, HE.out⟩, HB0.out⟩
  have k6' : (q1 == 1) = false := by simpa using k6
  have HQ : Hid (0 ≤ q2 ∧ q2 < W ∧ 0 ≤ q3 ∧ (q1 = 1 → q3 = 0)) := ⟨by omega, by omega, by omega, fun h => absurd h k6⟩
  have HE6 : Hid (hasE E i q1 q3 → EvF W E i q1 q2 q3 6) := fun h => .inr ⟨HK.out, .inr ⟨HQ.out, .inl ⟨rfl, k6, h⟩⟩⟩
  have HE5 : Hid (¬ hasE E i q1 q3 → q1 = 3 → ¬ hasE E i 2 q3 → EvF W E i q1 q2 q3 5) := fun h h3 h2 => .inr ⟨HK.out, .inr ⟨HQ.out, .inr ⟨.inr h, .inl ⟨rfl, h3, h2⟩⟩⟩⟩
  have HE0 : Hid (¬ hasE E i q1 q3 → (q1 = 3 → hasE E i 2 q3) → EvF W E i q1 q2 q3 0) := fun h h3 => .inr ⟨HK.out, .inr ⟨HQ.out, .inr ⟨.inr h, .inr ⟨rfl, h3⟩⟩⟩⟩
  clear HQ HK
  have k6h : Hid (¬ q1 = 1) := k6
  clear k6
  go_enter Tryd.func20, Tryd.ntmps20
  go_wp2_with fail
  refine (has2_any a i cap E q1 q3 _ HL.out HR.out).mono ?_
  rintro e w1 ⟨⟨b, rfl, hb2⟩, hb⟩
  have HB1 : Hid (Below w.heap.size w w1) := Below.then HB0.out hb
  have HR1 : Hid (ERow w1 a i E) := HR.out.below hb
  have hsz : w.heap.size < (w.alloc (.cells #[.int .i64 q1, .int .i64 q2, .int .i64 q3] 38)).heap.size := by simp
  have c0 := (hb.cell (p := ⟨w.heap.size, 0, none⟩) hsz).trans (by simp : _ = some (.int .i64 q1))
  have c1 := (hb.cell (p := ⟨w.heap.size, 1, none⟩) hsz).trans (by simp : _ = some (.int .i64 q2))
  have c2 := (hb.cell (p := ⟨w.heap.size, 2, none⟩) hsz).trans (by simp : _ = some (.int .i64 q3))
  have HA : Hid (b = true ↔ hasE E i q1 q3) := hb2
  clear hb hb2 HB0 HR hsz
  cases b
  · have HN : Hid (¬ hasE E i q1 q3) := fun h => by have := HA.out.2 h; cases this
    clear HA HE6
    by_cases k7 : q1 = 3
    · have k7' : (q1 == 3) = true := by simpa using k7
      have HE5' : Hid (¬ hasE E i 2 q3 → EvF W E i q1 q2 q3 5) := fun h => HE5.out HN.out k7 h
      have HE0' : Hid (hasE E i 2 q3 → EvF W E i q1 q2 q3 0) := fun h => HE0.out HN.out (fun _ => h)
      clear k7 HE5 HE0 HN
      go_wp2_with fail
      refine (has2_any a i cap E 2 q3 _ HL.out HR1.out).mono ?_
      rintro e w2 ⟨⟨b, rfl, hb2⟩, hb⟩
      have HB2 : Hid (Below w.heap.size w w2) := Below.then HB1.out hb
      have HA : Hid (b = true ↔ hasE E i 2 q3) := hb2
      clear hb hb2 HB1 HR1 c0 c1 c2
      cases b
      · have HE : Hid (EvF W E i q1 q2 q3 5) := HE5'.out fun h => by have := HA.out.2 h; cases this
        go_wp2_with fail
        go_ret
        exact ⟨⟨_, rfl, HE.out⟩, HB2.out⟩
      · have HE : Hid (EvF W E i q1 q2 q3 0) := HE0'.out (HA.out.1 rfl)
        go_wp2_with fail
        go_ret
        exact ⟨⟨_, rfl, HE.out⟩, HB2.out⟩
    · have k7' : (q1 == 3) = false := by simpa using k7
      have HE : Hid (EvF W E i q1 q2 q3 0) := HE0.out HN.out fun h => absurd h k7
      clear k7 HE5 HE0 HN
      go_wp2_with fail
      go_ret
      exact ⟨⟨_, rfl, HE.out⟩, HB1.out⟩
  · have HE : Hid (EvF W E i q1 q2 q3 6) := HE6.out (HA.out.1 rfl)
    clear HA HE6 HE5 HE0
    go_wp2_with fail
    go_ret
    exact ⟨⟨_, rfl, HE.out⟩, HB1.out⟩
end Go.Proofs.YtomoodpgmkjacabDoor
