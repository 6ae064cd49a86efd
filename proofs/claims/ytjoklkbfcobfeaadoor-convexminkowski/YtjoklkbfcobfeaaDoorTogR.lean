/-
  What the reference's Together answers. Conditions: sets of at most ten points.
-/
import Derived.Test.YtjoklkbfcobfeaaDoorCoM
import Derived.Test.YtjoklkbfcobfeaaDoorSets
namespace Go.Proofs.YtjoklkbfcobfeaaDoor
open Go.RowKit

theorem hv_bits {a k : Nat} (h : hv a k = 0) (i : Nat) (hi : k ≤ i) : a.testBit i = false := by
  have h2 : hv a i = 0 := by
    obtain ⟨d, rfl⟩ : ∃ d, i = k + d := ⟨i - k, by omega⟩
    unfold hv at h ⊢
    rw [Nat.pow_add, ← Nat.div_div_eq_div_mul, h, Nat.zero_div]
  rw [hv_bit, h2]; rfl
theorem tog_end {a b k : Nat} (h1 : hv a k = 0) (h2 : hv b k = 0) : setBy (fun i => a.testBit i || b.testBit i) k = a ||| b := by
  apply Nat.eq_of_testBit_eq
  intro i
  rw [setBy_bit, Nat.testBit_or]
  by_cases hi : i < k
  · simp [hi]
  · rw [hv_bits h1 i (by omega), hv_bits h2 i (by omega)]; simp
theorem hv_ten {a k : Nat} (ha : a < 1024) (h : 0 < hv a k) : k < 10 := by
  unfold hv at h
  rcases Nat.lt_or_ge k 10 with h1 | h1
  · exact h1
  · have h2 : 2 ^ 10 ≤ 2 ^ k := Nat.pow_le_pow_right (by decide) h1
    have h3 : a / 2 ^ k = 0 := Nat.div_eq_of_lt (by omega)
    omega
theorem together_any (a b : Nat) (w : World) (ha : a < 1024) (hb : b < 1024) :
    Calls Tryd.prog 32 #[.int .i64 a, .int .i64 b] w fun e w' => e = .returned (.int .i64 ((a ||| b : Nat) : Int)) ∧ w = w' := by
  obtain ⟨P, HP⟩ : ∃ P, Hid (P = fun i => a.testBit i || b.testBit i) := ⟨_, rfl⟩
  obtain ⟨Q, HQ⟩ : ∃ Q, Hid (Q = (a ||| b)) := ⟨_, rfl⟩
  rw [← HQ.out]
  go_enter Tryd.func32, Tryd.ntmps32
  go_wp2
  go_loop [0, 1, 5, 6] (fun s t o u => ∃ k : Nat, k ≤ 10 ∧ s = .int .i64 (hv a k : Nat) ∧ t = .int .i64 (hv b k : Nat) ∧ o = .int .i64 (setBy P k : Nat) ∧ u = .int .i64 (pw k : Nat)) (fun s t _ _ => (intOf s).toNat + (intOf t).toNat)
  case atStart => exact ⟨0, by omega, by rw [hv_zero], by rw [hv_zero], rfl, rfl⟩
  case round =>
    obtain ⟨k, hk, rfl, rfl, rfl, rfl⟩ := hrel
    have hl := hv_le a k
    have hl2 := hv_le b k
    have hp1 := pw_le k hk
    have hs1 := setBy_lt P k
    have h1 : (((hv a k : Nat) : Int) % 2 == 1) = a.testBit k := by rw [hv_bit, Bool.eq_iff_iff]; simp; omega
    have h2 : (((hv b k : Nat) : Int) % 2 == 1) = b.testBit k := by rw [hv_bit, Bool.eq_iff_iff]; simp; omega
    have HA : Hid (hv a (k + 1) = hv a k / 2) := hv_succ a k
    have HB : Hid (hv b (k + 1) = hv b k / 2) := hv_succ b k
    have HW : Hid (pw (k + 1) = 2 * pw k) := pw_succ k
    have HTA : Hid (0 < hv a k → k < 10) := hv_ten ha
    have HTB : Hid (0 < hv b k → k < 10) := hv_ten hb
    have HPK : Hid (P k = (a.testBit k || b.testBit k)) := by rw [Hid, HP.out]
    by_cases hp : 0 < hv a k
    · have hk2 := HTA.out hp
      cases ba : a.testBit k
      · cases bb : b.testBit k
        · rw [ba] at h1
          rw [bb] at h2
          have HS : Hid (setBy P (k + 1) = setBy P k) := setBy_no (by rw [HPK.out, ba, bb]; rfl)
          go_wp2
          go_round
          case rel => exact ⟨k + 1, by omega, by rw [HA.out]; simp, by rw [HB.out]; simp, by rw [HS.out], by rw [HW.out]; simp; omega⟩
          case measure => simp [intOf]; omega
        · rw [ba] at h1
          rw [bb] at h2
          have HS : Hid (setBy P (k + 1) = setBy P k + pw k) := setBy_yes (by rw [HPK.out, ba, bb]; rfl)
          go_wp2
          go_round
          case rel => exact ⟨k + 1, by omega, by rw [HA.out]; simp, by rw [HB.out]; simp, by rw [HS.out]; simp, by rw [HW.out]; simp; omega⟩
          case measure => simp [intOf]; omega
      · rw [ba] at h1
        have HS : Hid (setBy P (k + 1) = setBy P k + pw k) := setBy_yes (by rw [HPK.out, ba]; rfl)
        clear h2
        go_wp2
        go_round
        case rel => exact ⟨k + 1, by omega, by rw [HA.out]; simp, by rw [HB.out]; simp, by rw [HS.out]; simp, by rw [HW.out]; simp; omega⟩
        case measure => simp [intOf]; omega
    · by_cases hq : 0 < hv b k
      · have hk2 := HTB.out hq
        cases ba : a.testBit k
        · cases bb : b.testBit k
          · rw [ba] at h1
            rw [bb] at h2
            have HS : Hid (setBy P (k + 1) = setBy P k) := setBy_no (by rw [HPK.out, ba, bb]; rfl)
            go_wp2
            go_round
            case rel => exact ⟨k + 1, by omega, by rw [HA.out]; simp, by rw [HB.out]; simp, by rw [HS.out], by rw [HW.out]; simp; omega⟩
            case measure => simp [intOf]; omega
          · rw [ba] at h1
            rw [bb] at h2
            have HS : Hid (setBy P (k + 1) = setBy P k + pw k) := setBy_yes (by rw [HPK.out, ba, bb]; rfl)
            go_wp2
            go_round
            case rel => exact ⟨k + 1, by omega, by rw [HA.out]; simp, by rw [HB.out]; simp, by rw [HS.out]; simp, by rw [HW.out]; simp; omega⟩
            case measure => simp [intOf]; omega
        · rw [ba] at h1
          have HS : Hid (setBy P (k + 1) = setBy P k + pw k) := setBy_yes (by rw [HPK.out, ba]; rfl)
          clear h2
          go_wp2
          go_round
          case rel => exact ⟨k + 1, by omega, by rw [HA.out]; simp, by rw [HB.out]; simp, by rw [HS.out]; simp, by rw [HW.out]; simp; omega⟩
          case measure => simp [intOf]; omega
      · have HE : Hid (setBy P k = Q) := by rw [Hid, HP.out, HQ.out]; exact tog_end (by omega) (by omega)
        clear h1 h2
        go_wp2
        go_ret
        exact ⟨ret_int (by rw [HE.out]), rfl⟩
end Go.Proofs.YtjoklkbfcobfeaaDoor
