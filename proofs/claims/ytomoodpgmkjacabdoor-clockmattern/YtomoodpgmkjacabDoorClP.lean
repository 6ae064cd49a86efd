/-
  What clock.has, checkNext and Check answer, whatever they are handed. Condition: a slice reads as a slice of events.
-/
import Derived.Test.YtomoodpgmkjacabDoorClM
import Derived.Deep.QuietTactic
import Derived.BigQuiet
namespace Go.Proofs.YtomoodpgmkjacabDoor
open Go.RowKit

/-- An event as a value. -/
def evV (q : Int × Int × Int) : Value := .agg #[.int .i64 q.1, .int .i64 q.2.1, .int .i64 q.2.2]
theorem has1_any (k v m kd ms : Int) (B C : Nat) (w : World) (h1 : w.cell? ⟨B, 0, none⟩ = some (.int .i64 kd)) (h2 : w.cell? ⟨C, 0, none⟩ = some (.int .i64 ms)) (b : Bool) (hb : decide (k = kd ∧ m = ms) = b) :
    Calls Tryd.prog 30 #[.agg #[.int .i64 k, .int .i64 v, .int .i64 m], .pointer (some ⟨B, 0, none⟩), .pointer (some ⟨C, 0, none⟩)] w fun e w' => e = .returned (.bool b) ∧ Below w.heap.size w w' := by
  have HB0 : Hid (Below w.heap.size w (w.alloc (.cells #[.int .i64 k, .int .i64 v, .int .i64 m] 38))) := (Below.refl _ _).alloc (Nat.le_refl _) _
  have hB := World.block_lt_of_cell? _ _ h1
  have hC := World.block_lt_of_cell? _ _ h2
  by_cases e1 : k = kd
  · have d1 : (k == kd) = true := by simp [e1]
    by_cases e2 : m = ms
    · have d2 : (m == ms) = true := by simp [e2]
      have HV : Hid (b = true) := hb.symm.trans (by simp [e1, e2])
      clear hb e1 e2
      go_enter Tryd.func30, Tryd.ntmps30
      go_wp2
      go_ret
      exact ⟨ret_bool HV.out.symm, HB0.out⟩
    · have d2 : (m == ms) = false := by simpa using e2
      have HV : Hid (b = false) := hb.symm.trans (by simp [e2])
      clear hb e1 e2
      go_enter Tryd.func30, Tryd.ntmps30
      go_wp2
      go_ret
      exact ⟨ret_bool HV.out.symm, HB0.out⟩
  · have d1 : (k == kd) = false := by simpa using e1
    have HV : Hid (b = false) := hb.symm.trans (by simp [e1])
    clear hb e1
    go_enter Tryd.func30, Tryd.ntmps30
    go_wp2
    go_ret
    exact ⟨ret_bool HV.out.symm, HB0.out⟩
/-- Where the first such event stands, or -1. -/
def IdxE (E : Nat → Int × Int × Int) (n : Nat) (kd ms : Int) (x : Int) : Prop := (x = -1 ∧ ¬ hasE E n kd ms) ∨ (0 ≤ x ∧ hasE E n kd ms)
set_option maxHeartbeats 1000000 in
theorem indexE_any (a : Option Addr) (len cap : Nat) (E : Nat → Int × Int × Int) (kd ms : Int) (B C : Nat) (w : World) (hl : len ≤ maxLen) (hr : ERow w a len E) (h1 : w.cell? ⟨B, 0, none⟩ = some (.int .i64 kd)) (h2 : w.cell? ⟨C, 0, none⟩ = some (.int .i64 ms)) :
    Calls Tryd.prog 37 #[.slice a len cap, .func (.func 30) #[] #[.pointer (some ⟨B, 0, none⟩), .pointer (some ⟨C, 0, none⟩)]] w fun e w' => (∃ x : Int, e = .returned (.int .i64 x) ∧ IdxE E len kd ms x) ∧ Below w.heap.size w w' := by
  unfold maxLen at hl
  have HR : Hid (ERow w a len E) := hr
  have H1 : Hid (w.cell? ⟨B, 0, none⟩ = some (.int .i64 kd)) := h1
  have H2 : Hid (w.cell? ⟨C, 0, none⟩ = some (.int .i64 ms)) := h2
  have HB0 : Hid (Below w.heap.size w w) := Below.refl _ _
  clear hr h1 h2
  go_enter Tryd.func37, Tryd.ntmps37
  go_wp2
  go_loopw [8] (fun t wx => ∃ k : Nat, k ≤ len ∧ t = .int .i64 k ∧ Hid (¬ hasE E k kd ms) ∧ Hid (Below w.heap.size w wx)) (fun t _ => len - (intOf t).toNat)
  case atStart => exact ⟨0, Nat.zero_le _, rfl, fun ⟨k, hk, _⟩ => absurd hk (Nat.not_lt_zero _), HB0.out⟩
  case round =>
    obtain ⟨k, hk, rfl, hno, hB⟩ := hrel
    clear HB0
    by_cases hlt : k < len
    · obtain ⟨b, off, rfl, c1, c2, c3⟩ := (HR.out.below hB.out) k hlt
      have q1 := (hB.out.cell (World.block_lt_of_cell? _ _ H1.out)).trans H1.out
      have q2 := (hB.out.cell (World.block_lt_of_cell? _ _ H2.out)).trans H2.out
      obtain ⟨v, hv⟩ : ∃ v, decide ((E k).1 = kd ∧ (E k).2.2 = ms) = v := ⟨_, rfl⟩
      have HN : Hid (v = false → ¬ hasE E (k + 1) kd ms) := fun e => by
        rintro ⟨j, hj, g1, g2⟩
        by_cases e2 : j = k
        · subst e2; rw [e] at hv; simp [g1, g2] at hv
        · exact hno.out ⟨j, by omega, g1, g2⟩
      have HY : Hid (v = true → hasE E len kd ms) := fun e => by
        rw [e] at hv
        simp at hv
        exact ⟨k, hlt, hv.1, hv.2⟩
      have HV : Hid (decide ((E k).1 = kd ∧ (E k).2.2 = ms) = v) := hv
      have Q1 : Hid (wr.cell? ⟨B, 0, none⟩ = some (.int .i64 kd)) := q1
      have Q2 : Hid (wr.cell? ⟨C, 0, none⟩ = some (.int .i64 ms)) := q2
      clear hv q1 q2
      go_wp2_with fail
      refine (has1_any _ _ _ kd ms B C _ Q1.out Q2.out v HV.out).mono ?_
      rintro e w1 ⟨rfl, hb⟩
      have HB1 : Hid (Below w.heap.size w w1) := Below.then hB.out hb
      clear hb hB Q1 Q2 c1 c2 c3
      cases v
      · have HN2 : Hid (¬ hasE E (k + 1) kd ms) := HN.out rfl
        clear HN HY HV
        go_wp2_with fail
        go_roundw
        case rel => exact ⟨k + 1, by omega, by go_num, HN2.out, HB1.out⟩
        case measure => simp [intOf]; omega
      · have HY2 : Hid (hasE E len kd ms) := HY.out rfl
        clear HN HY HV
        go_wp2_with fail
        go_ret
        exact ⟨⟨_, rfl, .inr ⟨by omega, HY2.out⟩⟩, HB1.out⟩
    · obtain rfl : k = len := by omega
      go_wp2
      go_ret
      exact ⟨⟨_, rfl, .inl ⟨rfl, hno.out⟩⟩, hB.out⟩
end Go.Proofs.YtomoodpgmkjacabDoor
