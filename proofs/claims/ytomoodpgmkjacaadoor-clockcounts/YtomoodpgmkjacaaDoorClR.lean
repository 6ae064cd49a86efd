/-
  What clock.has, checkNext and Check answer, whatever they are handed. Condition: a slice reads as a slice of events.
  What clock.has, checkNext and Check answer, whatever they are handed. Condition: a slice reads as a slice of events.
  What clock.checkNext and Check answer, whatever they are handed. Condition: a slice reads as a slice of events.
-/
import Derived.Test.YtomoodpgmkjacaaDoorClM
import Derived.Deep.QuietTactic
import Derived.BigQuiet
import Derived.Deep.RegionHeld3
namespace Go.Proofs.YtomoodpgmkjacaaDoor
open Go.RowKit

/-- An event as a value. -/
def evV (q : Int × Int × Int) : Value := .agg #[.int .i64 q.1, .int .i64 q.2.1, .int .i64 q.2.2]
theorem has1_any (k v m kd ms : Int) (B C : Nat) (w : World) (h1 : w.cell? ⟨B, 0, none⟩ = some (.int .i64 kd)) (h2 : w.cell? ⟨C, 0, none⟩ = some (.int .i64 ms)) (b : Bool) (hb : decide (k = kd ∧ m = ms) = b) :
    Calls Tryd.prog 40 #[.agg #[.int .i64 k, .int .i64 v, .int .i64 m], .pointer (some ⟨B, 0, none⟩), .pointer (some ⟨C, 0, none⟩)] w fun e w' => e = .returned (.bool b) ∧ Below w.heap.size w w' := by
  have HB0 : Hid (Below w.heap.size w (w.alloc (.cells #[.int .i64 k, .int .i64 v, .int .i64 m] 40))) := (Below.refl _ _).alloc (Nat.le_refl _) _
  have hB := World.block_lt_of_cell? _ _ h1
  have hC := World.block_lt_of_cell? _ _ h2
  by_cases e1 : k = kd
  · have d1 : (k == kd) = true := by simp [e1]
    by_cases e2 : m = ms
    · have d2 : (m == ms) = true := by simp [e2]
      have HV : Hid (b = true) := hb.symm.trans (by simp [e1, e2])
      clear hb e1 e2
      go_enter Tryd.func40, Tryd.ntmps40
      go_wp2
      go_ret
      exact ⟨ret_bool HV.out.symm, HB0.out⟩
    · have d2 : (m == ms) = false := by simpa using e2
      have HV : Hid (b = false) := hb.symm.trans (by simp [e2])
      clear hb e1 e2
      go_enter Tryd.func40, Tryd.ntmps40
      go_wp2
      go_ret
      exact ⟨ret_bool HV.out.symm, HB0.out⟩
  · have d1 : (k == kd) = false := by simpa using e1
    have HV : Hid (b = false) := hb.symm.trans (by simp [e1])
    clear hb e1
    go_enter Tryd.func40, Tryd.ntmps40
    go_wp2
    go_ret
    exact ⟨ret_bool HV.out.symm, HB0.out⟩
/-- Where the first such event stands, or -1. -/
def IdxE (E : Nat → Int × Int × Int) (n : Nat) (kd ms : Int) (x : Int) : Prop := (x = -1 ∧ ¬ hasE E n kd ms) ∨ (0 ≤ x ∧ hasE E n kd ms)
set_option maxHeartbeats 1000000 in
theorem indexE_any (a : Option Addr) (len cap : Nat) (E : Nat → Int × Int × Int) (kd ms : Int) (B C : Nat) (w : World) (hl : len ≤ maxLen) (hr : ERow w a len E) (h1 : w.cell? ⟨B, 0, none⟩ = some (.int .i64 kd)) (h2 : w.cell? ⟨C, 0, none⟩ = some (.int .i64 ms)) :
    Calls Tryd.prog 50 #[.slice a len cap, .func (.func 40) #[] #[.pointer (some ⟨B, 0, none⟩), .pointer (some ⟨C, 0, none⟩)]] w fun e w' => (∃ x : Int, e = .returned (.int .i64 x) ∧ IdxE E len kd ms x) ∧ Below w.heap.size w w' := by
  unfold maxLen at hl
  have HR : Hid (ERow w a len E) := hr
  have H1 : Hid (w.cell? ⟨B, 0, none⟩ = some (.int .i64 kd)) := h1
  have H2 : Hid (w.cell? ⟨C, 0, none⟩ = some (.int .i64 ms)) := h2
  have HB0 : Hid (Below w.heap.size w w) := Below.refl _ _
  clear hr h1 h2
  go_enter Tryd.func50, Tryd.ntmps50
  go_wp2
  go_loopw [8] (fun t wx => ∃ k : Nat, k ≤ len ∧ t = .int .i64 k ∧ Hid (¬ hasE E k kd ms) ∧ Hid (Below w.heap.size w wx)) (fun t _ => len - (intOf t).toNat)
  case atStart => exact ⟨0, Nat.zero_le _, rfl, fun ⟨k, hk, _⟩ => absurd hk (Nat.not_lt_zero _), HB0.out⟩
  case round =>
    obtain ⟨k, hk, rfl, hno, hB⟩ := hrel
    clear HB0
    by_cases hlt : k < len
    · obtain ⟨b, off, rfl, c1, c2, c3⟩ := (HR.out.below hB.out) k hlt
      have q1 := (hB.out.cell (World.block_lt_of_cell? _ _ H1.out)).trans H1.out
      have q2 := (hB.out.cell (World.block_lt_of_cell? _ _ H2.out)).trans H2.out
      obtain ⟨v, hv⟩ : ∃ v, decide ((E k).1 = kd ∧ (E k).2.2 = ms) = v := ⟨_, rfl⟩
      have HN : Hid (v = false → ¬ hasE E (k + 1) kd ms) := fun e => by
        rintro ⟨j, hj, g1, g2⟩
        by_cases e2 : j = k
        · subst e2; rw [e] at hv; simp [g1, g2] at hv
        · exact hno.out ⟨j, by omega, g1, g2⟩
      have HY : Hid (v = true → hasE E len kd ms) := fun e => by
        rw [e] at hv
        simp at hv
        exact ⟨k, hlt, hv.1, hv.2⟩
      have HV : Hid (decide ((E k).1 = kd ∧ (E k).2.2 = ms) = v) := hv
      have Q1 : Hid (wr.cell? ⟨B, 0, none⟩ = some (.int .i64 kd)) := q1
      have Q2 : Hid (wr.cell? ⟨C, 0, none⟩ = some (.int .i64 ms)) := q2
      clear hv q1 q2
      go_wp2_with fail
      refine (has1_any _ _ _ kd ms B C _ Q1.out Q2.out v HV.out).mono ?_
      rintro e w1 ⟨rfl, hb⟩
      have HB1 : Hid (Below w.heap.size w w1) := Below.then hB.out hb
      clear hb hB Q1 Q2 c1 c2 c3
      cases v
      · have HN2 : Hid (¬ hasE E (k + 1) kd ms) := HN.out rfl
        clear HN HY HV
        go_wp2_with fail
        go_roundw
        case rel => exact ⟨k + 1, by omega, by go_num, HN2.out, HB1.out⟩
        case measure => simp [intOf]; omega
      · have HY2 : Hid (hasE E len kd ms) := HY.out rfl
        clear HN HY HV
        go_wp2_with fail
        go_ret
        exact ⟨⟨_, rfl, .inr ⟨by omega, HY2.out⟩⟩, HB1.out⟩
    · obtain rfl : k = len := by omega
      go_wp2
      go_ret
      exact ⟨⟨_, rfl, .inl ⟨rfl, hno.out⟩⟩, hB.out⟩
end Go.Proofs.YtomoodpgmkjacaaDoor
namespace Go.Proofs.YtomoodpgmkjacaaDoor
open Go.RowKit

theorem containsE_any (a : Option Addr) (len cap : Nat) (E : Nat → Int × Int × Int) (kd ms : Int) (B C : Nat) (w : World) (hl : len ≤ maxLen) (hr : ERow w a len E) (h1 : w.cell? ⟨B, 0, none⟩ = some (.int .i64 kd)) (h2 : w.cell? ⟨C, 0, none⟩ = some (.int .i64 ms)) :
    Calls Tryd.prog 39 #[.slice a len cap, .func (.func 40) #[] #[.pointer (some ⟨B, 0, none⟩), .pointer (some ⟨C, 0, none⟩)]] w fun e w' => Ans e (hasE E len kd ms) ∧ Below w.heap.size w w' := by
  have HC := indexE_any a len cap E kd ms B C w hl hr h1 h2
  clear hr h1 h2
  go_enter Tryd.func39, Tryd.ntmps39
  go_wp2_with fail
  refine HC.mono ?_
  rintro e w1 ⟨⟨x, rfl, hx⟩, hb⟩
  have HB : Hid (Below w.heap.size w w1) := hb
  clear HC hb
  rcases hx with ⟨rfl, hn⟩ | ⟨h0, hy⟩
  · have HN : Hid (¬ hasE E len kd ms) := hn
    clear hn
    go_wp2_with fail
    go_ret
    exact ⟨Ans.no HN.out, HB.out⟩
  · have HN : Hid (hasE E len kd ms) := hy
    clear hy
    go_wp2_with fail
    go_ret
    exact ⟨Ans.yes HN.out, HB.out⟩
theorem has2_any (a : Option Addr) (len cap : Nat) (E : Nat → Int × Int × Int) (kd ms : Int) (w : World) (hl : len ≤ maxLen) (hr : ERow w a len E) :
    Calls Tryd.prog 25 #[.slice a len cap, .int .i64 kd, .int .i64 ms] w fun e w' => Ans e (hasE E len kd ms) ∧ Below w.heap.size w w' := by
  obtain ⟨W, HW⟩ : ∃ W, Hid ((w.alloc (.cells #[.int .i64 kd] 3)).alloc (.cells #[.int .i64 ms] 3) = W) := ⟨_, rfl⟩
  have hB : Below w.heap.size w W := by rw [← HW.out]; exact ((Below.refl _ _).alloc (Nat.le_refl _) _).alloc (by simp) _
  have q1 : W.cell? ⟨w.heap.size, 0, none⟩ = some (.int .i64 kd) := by rw [← HW.out]; simp
  have q2 : W.cell? ⟨w.heap.size + 1, 0, none⟩ = some (.int .i64 ms) := by rw [← HW.out]; simp
  have HC := containsE_any a len cap E kd ms w.heap.size (w.heap.size + 1) W hl (hr.below hB) q1 q2
  have HB : Hid (Below w.heap.size w W) := hB
  clear hr q1 q2 hB
  go_enter Tryd.func25, Tryd.ntmps25
  go_wp2_with fail
  rw [HW.out]
  refine HC.mono ?_
  rintro e w1 ⟨⟨b, rfl, hb2⟩, hb⟩
  have HB1 : Hid (Below w.heap.size w w1) := Below.then HB.out hb
  have HA : Hid (b = true ↔ hasE E len kd ms) := hb2
  clear HC hb HB hb2
  go_wp2_with fail
  go_ret
  exact ⟨⟨b, rfl, HA.out⟩, HB1.out⟩
end Go.Proofs.YtomoodpgmkjacaaDoor
namespace Go.Proofs.YtomoodpgmkjacaaDoor
open Go.RowKit

/-- What is wrong with an event of this kind, worker and message, behind i others. -/
def EvF (W : Int) (E : Nat → Int × Int × Int) (i : Nat) (q1 q2 q3 : Int) (c : Int) : Prop :=
  (c = 7 ∧ (q1 < 1 ∨ 3 < q1)) ∨ ((1 ≤ q1 ∧ q1 ≤ 3) ∧
    ((c = 3 ∧ (q2 < 0 ∨ W ≤ q2 ∨ q3 < 0 ∨ (q1 = 1 ∧ q3 ≠ 0))) ∨
     ((0 ≤ q2 ∧ q2 < W ∧ 0 ≤ q3 ∧ (q1 = 1 → q3 = 0)) ∧
      ((c = 6 ∧ q1 ≠ 1 ∧ hasE E i q1 q3) ∨ ((q1 = 1 ∨ ¬ hasE E i q1 q3) ∧
        ((c = 5 ∧ q1 = 3 ∧ ¬ hasE E i 2 q3) ∨ (c = 0 ∧ (q1 = 3 → hasE E i 2 q3))))))))
set_option maxHeartbeats 2000000 in
theorem checkNext_any (W : Int) (a : Option Addr) (i cap : Nat) (E : Nat → Int × Int × Int) (q1 q2 q3 : Int) (w : World) (hl : i ≤ maxLen) (hr : ERow w a i E) :
    Calls Tryd.prog 27 #[.int .i64 W, .slice a i cap, .agg #[.int .i64 q1, .int .i64 q2, .int .i64 q3]] w fun e w' => (∃ c : Int, e = .returned (.int .i64 c) ∧ EvF W E i q1 q2 q3 c) ∧ Below w.heap.size w w' := by
  have HB0 : Hid (Below w.heap.size w (w.alloc (.cells #[.int .i64 q1, .int .i64 q2, .int .i64 q3] 40))) := (Below.refl _ _).alloc (Nat.le_refl _) _
  have HR : Hid (ERow (w.alloc (.cells #[.int .i64 q1, .int .i64 q2, .int .i64 q3] 40)) a i E) := hr.below HB0.out
  have HL : Hid (i ≤ maxLen) := hl
  clear hr hl
  by_cases k1 : q1 < 1
  · have k1' : decide (q1 < 1) = true := by simpa using k1
    have HE : Hid (EvF W E i q1 q2 q3 7) := .inl ⟨rfl, .inl k1⟩
    go_enter Tryd.func27, Tryd.ntmps27
    go_wp2
    go_ret
    exact ⟨⟨_, rfl, HE.out⟩, HB0.out⟩
  by_cases k2 : 3 < q1
  · have k1' : decide (q1 < 1) = false := by simpa using k1
    have HE : Hid (EvF W E i q1 q2 q3 7) := .inl ⟨rfl, .inr k2⟩
    go_enter Tryd.func27, Tryd.ntmps27
    go_wp2
    go_ret
    exact ⟨⟨_, rfl, HE.out⟩, HB0.out⟩
  have HK : Hid (1 ≤ q1 ∧ q1 ≤ 3) := ⟨by omega, by omega⟩
  have k1' : decide (q1 < 1) = false := by simpa using k1
  have k2' : decide (3 < q1) = false := by simpa using k2
  by_cases k3 : q2 < 0
  · have k3' : decide (q2 < 0) = true := by simpa using k3
    have HE : Hid (EvF W E i q1 q2 q3 3) := .inr ⟨HK.out, .inl ⟨rfl, .inl k3⟩⟩
    go_enter Tryd.func27, Tryd.ntmps27
    go_wp2
    go_ret
    exact ⟨⟨_, rfl, HE.out⟩, HB0.out⟩
  have k3' : decide (q2 < 0) = false := by simpa using k3
  by_cases k4 : W ≤ q2
  · have k4' : decide (W ≤ q2) = true := by simpa using k4
    have HE : Hid (EvF W E i q1 q2 q3 3) := .inr ⟨HK.out, .inl ⟨rfl, .inr (.inl k4)⟩⟩
    go_enter Tryd.func27, Tryd.ntmps27
    go_wp2
    go_ret
    exact ⟨⟨_, rfl, HE.out⟩, HB0.out⟩
  have k4' : decide (W ≤ q2) = false := by simpa using k4
  by_cases k5 : q3 < 0
  · have k5' : decide (q3 < 0) = true := by simpa using k5
    have HE : Hid (EvF W E i q1 q2 q3 3) := .inr ⟨HK.out, .inl ⟨rfl, .inr (.inr (.inl k5))⟩⟩
    go_enter Tryd.func27, Tryd.ntmps27
    go_wp2
    go_ret
    exact ⟨⟨_, rfl, HE.out⟩, HB0.out⟩
  have k5' : decide (q3 < 0) = false := by simpa using k5
  by_cases k6 : q1 = 1
  · have HE3 : Hid (q3 ≠ 0 → EvF W E i q1 q2 q3 3) := fun h => .inr ⟨HK.out, .inl ⟨rfl, .inr (.inr (.inr ⟨k6, h⟩))⟩⟩
    have HE0 : Hid (q3 = 0 → EvF W E i q1 q2 q3 0) := fun h => .inr ⟨HK.out, .inr ⟨⟨by omega, by omega, by omega, fun _ => h⟩, .inr ⟨.inl k6, .inr ⟨rfl, fun h => by omega⟩⟩⟩⟩
    have k6' : (q1 == 1) = true := by simpa using k6
    have k7' : (q1 == 3) = false := by simp; omega
    by_cases k8 : q3 = 0
    · have HE : Hid (EvF W E i q1 q2 q3 0) := HE0.out k8
      have k8' : (q3 != 0) = false := by simpa using k8
      clear HE3 HE0 k8 k6
      go_enter Tryd.func27, Tryd.ntmps27
      go_wp2
      go_ret
      exact ⟨⟨_, rfl, HE.out⟩, HB0.out⟩
    · have HE : Hid (EvF W E i q1 q2 q3 3) := HE3.out k8
      have k8' : (q3 != 0) = true := by simpa using k8
      clear HE3 HE0 k8 k6
      go_enter Tryd.func27, Tryd.ntmps27
      go_wp2
      go_ret
      exact ⟨⟨_, rfl, HE.out⟩, HB0.out⟩
  have k6' : (q1 == 1) = false := by simpa using k6
  have HQ : Hid (0 ≤ q2 ∧ q2 < W ∧ 0 ≤ q3 ∧ (q1 = 1 → q3 = 0)) := ⟨by omega, by omega, by omega, fun h => absurd h k6⟩
  have HE6 : Hid (hasE E i q1 q3 → EvF W E i q1 q2 q3 6) := fun h => .inr ⟨HK.out, .inr ⟨HQ.out, .inl ⟨rfl, k6, h⟩⟩⟩
  have HE5 : Hid (¬ hasE E i q1 q3 → q1 = 3 → ¬ hasE E i 2 q3 → EvF W E i q1 q2 q3 5) := fun h h3 h2 => .inr ⟨HK.out, .inr ⟨HQ.out, .inr ⟨.inr h, .inl ⟨rfl, h3, h2⟩⟩⟩⟩
  have HE0 : Hid (¬ hasE E i q1 q3 → (q1 = 3 → hasE E i 2 q3) → EvF W E i q1 q2 q3 0) := fun h h3 => .inr ⟨HK.out, .inr ⟨HQ.out, .inr ⟨.inr h, .inr ⟨rfl, h3⟩⟩⟩⟩
  clear HQ HK
  have k6h : Hid (¬ q1 = 1) := k6
  clear k6
  go_enter Tryd.func27, Tryd.ntmps27
  go_wp2_with fail
  refine (has2_any a i cap E q1 q3 _ HL.out HR.out).mono ?_
  rintro e w1 ⟨⟨b, rfl, hb2⟩, hb⟩
  have HB1 : Hid (Below w.heap.size w w1) := Below.then HB0.out hb
  have HR1 : Hid (ERow w1 a i E) := HR.out.below hb
  have hsz : w.heap.size < (w.alloc (.cells #[.int .i64 q1, .int .i64 q2, .int .i64 q3] 40)).heap.size := by simp
  have c0 := (hb.cell (p := ⟨w.heap.size, 0, none⟩) hsz).trans (by simp : _ = some (.int .i64 q1))
  have c1 := (hb.cell (p := ⟨w.heap.size, 1, none⟩) hsz).trans (by simp : _ = some (.int .i64 q2))
  have c2 := (hb.cell (p := ⟨w.heap.size, 2, none⟩) hsz).trans (by simp : _ = some (.int .i64 q3))
  have HA : Hid (b = true ↔ hasE E i q1 q3) := hb2
  clear hb hb2 HB0 HR hsz
  cases b
  · have HN : Hid (¬ hasE E i q1 q3) := fun h => by have := HA.out.2 h; cases this
    clear HA HE6
    by_cases k7 : q1 = 3
    · have k7' : (q1 == 3) = true := by simpa using k7
      have HE5' : Hid (¬ hasE E i 2 q3 → EvF W E i q1 q2 q3 5) := fun h => HE5.out HN.out k7 h
      have HE0' : Hid (hasE E i 2 q3 → EvF W E i q1 q2 q3 0) := fun h => HE0.out HN.out (fun _ => h)
      clear k7 HE5 HE0 HN
      go_wp2_with fail
      refine (has2_any a i cap E 2 q3 _ HL.out HR1.out).mono ?_
      rintro e w2 ⟨⟨b, rfl, hb2⟩, hb⟩
      have HB2 : Hid (Below w.heap.size w w2) := Below.then HB1.out hb
      have HA : Hid (b = true ↔ hasE E i 2 q3) := hb2
      clear hb hb2 HB1 HR1 c0 c1 c2
      cases b
      · have HE : Hid (EvF W E i q1 q2 q3 5) := HE5'.out fun h => by have := HA.out.2 h; cases this
        go_wp2_with fail
        go_ret
        exact ⟨⟨_, rfl, HE.out⟩, HB2.out⟩
      · have HE : Hid (EvF W E i q1 q2 q3 0) := HE0'.out (HA.out.1 rfl)
        go_wp2_with fail
        go_ret
        exact ⟨⟨_, rfl, HE.out⟩, HB2.out⟩
    · have k7' : (q1 == 3) = false := by simpa using k7
      have HE : Hid (EvF W E i q1 q2 q3 0) := HE0.out HN.out fun h => absurd h k7
      clear k7 HE5 HE0 HN
      go_wp2_with fail
      go_ret
      exact ⟨⟨_, rfl, HE.out⟩, HB1.out⟩
  · have HE : Hid (EvF W E i q1 q2 q3 6) := HE6.out (HA.out.1 rfl)
    clear HA HE6 HE5 HE0
    go_wp2_with fail
    go_ret
    exact ⟨⟨_, rfl, HE.out⟩, HB1.out⟩
end Go.Proofs.YtomoodpgmkjacaaDoor
