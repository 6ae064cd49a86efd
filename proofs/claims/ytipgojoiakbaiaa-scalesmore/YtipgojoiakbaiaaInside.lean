/-
  What the reference's Inside, and hasselaw.numberIs answer. Conditions: sets of at most ten points.
-/
import Derived.Test.YtipgojoiakbaiaaExtM
namespace Go.Proofs.Ytipgojoiakbaiaa
open Go.RowKit

theorem has_as (s p : Nat) (w : World) (b : Bool) (h : s.testBit p = b) (hs : s < 9223372036854775808) (hp : p < 63) :
    Calls Try.prog 48 #[.int .i64 s, .int .i64 p] w fun e w' => e = .returned (.bool b) ∧ w' = w :=
  (has_any s p w hs hp).mono fun _ _ ⟨h1, h2⟩ => ⟨by rw [← h]; exact h1, h2.symm⟩
theorem in_as (s p : Nat) (w : World) (b : Bool) (h : s.testBit p = b) (hs : s < 9223372036854775808) (hp : p < 63) :
    Calls Try.prog 59 #[.int .i64 s, .int .i64 p] w fun e w' => e = .returned (.bool b) ∧ w' = w :=
  (in_any s p w hs hp).mono fun _ _ ⟨h1, h2⟩ => ⟨by rw [← h]; exact h1, h2.symm⟩

def Sub (a b : Nat) : Prop := ∀ j, a.testBit j = true → b.testBit j = true
theorem hv_zero_bits {s k : Nat} (h : hv s k = 0) : ∀ j, k ≤ j → s.testBit j = false := by
  intro j hj
  have hlt : s < 2 ^ k := by
    unfold hv at h
    rcases Nat.div_eq_zero_iff.1 h with h1 | h1
    · have := Nat.two_pow_pos k; omega
    · exact h1
  exact Nat.testBit_lt_two_pow (Nat.lt_of_lt_of_le hlt (Nat.pow_le_pow_right (by decide) hj))
theorem hv_big {s : Nat} (hs : s < 1024) {k : Nat} (hk : 10 ≤ k) : hv s k = 0 := by
  unfold hv
  exact Nat.div_eq_zero_iff.2 (.inr (Nat.lt_of_lt_of_le hs (Nat.le_trans (by decide : 1024 ≤ 2 ^ 10) (Nat.pow_le_pow_right (by decide) hk))))
theorem inside_any (a b : Nat) (v : Bool) (w : World) (ha : a < 1024) (hb : b < 1024) (hv : v = true ↔ Sub a b) :
    Calls Try.prog 60 #[.int .i64 a, .int .i64 b] w fun e w' => e = .returned (.bool v) ∧ w = w' := by
  have HV : Hid (v = true ↔ Sub a b) := hv
  clear hv
  go_enter Try.func60, Try.ntmps60
  go_wp2_with fail
  go_loop [0, 1] (fun x y => ∃ k : Nat, k ≤ 10 ∧ x = .int .i64 (hv a k : Nat) ∧ y = .int .i64 (hv b k : Nat) ∧ Hid (∀ j, j < k → a.testBit j = true → b.testBit j = true)) (fun x _ => (intOf x).toNat)
  case atStart => exact ⟨0, Nat.zero_le _, by rw [hv_zero], by rw [hv_zero], upto_zero⟩
  case round =>
    obtain ⟨k, hk, rfl, rfl, hok⟩ := hrel
    have h1 := hv_le a k
    have h2 := hv_le b k
    by_cases hz : hv a k = 0
    · have HY : Hid (v = true) := HV.out.2 (fun j hj => by
        rcases Nat.lt_or_ge j k with h3 | h3
        · exact hok.out j h3 hj
        · rw [hv_zero_bits hz j h3] at hj; cases hj)
      have hle : ((hv a k : Nat) : Int) ≤ 0 := by omega
      clear hz
      generalize hv a k = A at *
      generalize hv b k = B at *
      go_wp2_with fail
      go_ret
      exact ⟨ret_bool HY.out.symm, rfl⟩
    · have hpos : (0 : Int) < ((hv a k : Nat) : Int) := by omega
      have hk10 : k < 10 := by
        rcases Nat.lt_or_ge k 10 with h3 | h3
        · exact h3
        · exact absurd (hv_big ha h3) hz
      have HA : Hid (hv a (k + 1) = hv a k / 2) := hv_succ a k
      have HB : Hid (hv b (k + 1) = hv b k / 2) := hv_succ b k
      have ba := hv_bit a k
      have bb := hv_bit b k
      have HIN : Hid (∀ v', (v = true → v' = true) → (v' = true → v = true) → v = v') := fun v' h1 h2 => Bool.eq_iff_iff.2 ⟨h1, h2⟩
      rcases Nat.mod_two_eq_zero_or_one (hv a k) with ea | ea
      · have q1 : (((hv a k : Nat) : Int) % 2 == 1) = false := by simp; omega
        have HO1 : Hid (∀ j, j < k + 1 → a.testBit j = true → b.testBit j = true) := upto_succ hok.out (fun h => by rw [ba] at h; simp at h; omega)
        clear ba bb ea hz
        generalize hv a k = A at *
        generalize hv b k = B at *
        go_wp2_with fail
        go_round
        case rel => exact ⟨k + 1, by omega, by rw [HA.out]; simp, by rw [HB.out]; simp, HO1.out⟩
        case measure => simp [intOf]; omega
      · have q1 : (((hv a k : Nat) : Int) % 2 == 1) = true := by simp; omega
        rcases Nat.mod_two_eq_zero_or_one (hv b k) with eb | eb
        · have q2 : (((hv b k : Nat) : Int) % 2 == 0) = true := by simp; omega
          have HY : Hid (v = false) := by
            have e : v = false := by
              cases hv' : v
              · rfl
              · have := HV.out.1 hv' k (by rw [ba]; simp [ea])
                rw [bb] at this; simp [eb] at this
            exact e
          clear ba bb ea eb hz
          generalize hv a k = A at *
          generalize hv b k = B at *
          go_wp2_with fail
          go_ret
          exact ⟨ret_bool HY.out.symm, rfl⟩
        · have q2 : (((hv b k : Nat) : Int) % 2 == 0) = false := by simp; omega
          have HO1 : Hid (∀ j, j < k + 1 → a.testBit j = true → b.testBit j = true) := upto_succ hok.out (fun _ => by rw [bb]; simp [eb])
          clear ba bb ea eb hz
          generalize hv a k = A at *
          generalize hv b k = B at *
          go_wp2_with fail
          go_round
          case rel => exact ⟨k + 1, by omega, by rw [HA.out]; simp, by rw [HB.out]; simp, HO1.out⟩
          case measure => simp [intOf]; omega

theorem numberIs_any (c x y : Int) (w : World) (h : (c ≠ 0 ∧ x = 0) ∨ (c = 0 ∧ x = y)) :
    Calls Try.prog 13 #[.int .i64 x, .int .i64 c, .int .i64 c, .int .i64 y] w fun e w' => e = .returned (.bool true) ∧ w = w' := by
  rcases h with ⟨h0, rfl⟩ | ⟨rfl, rfl⟩
  · have hne : (c != 0) = true := by simpa using h0
    go_enter Try.func13, Try.ntmps13
    go_wp2
    go_ret
    exact ⟨rfl, rfl⟩
  · go_enter Try.func13, Try.ntmps13
    go_wp2
    go_ret
    exact ⟨rfl, rfl⟩
theorem sub_iff {a b : Nat} (ha : a < 1024) (hb : b < 1024) : lack a b = 0 ↔ Sub a b := lack_zero a b (by omega) (by omega)
end Go.Proofs.Ytipgojoiakbaiaa
