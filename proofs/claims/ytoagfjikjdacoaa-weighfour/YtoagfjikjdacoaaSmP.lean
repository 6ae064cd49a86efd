/-
  Small functions of package sets and of the reference, sets by what they have, sums. Conditions: as each theorem says.
-/
import Derived.Test.YtoagfjikjdacoaaOrdered
import Derived.BigQuiet
namespace Go.Proofs.Ytoagfjikjdacoaa
open Go.RowKit

theorem Row.below {w w' : World} {a : Option Addr} {len : Nat} {f : Nat → Int} (h : Row w a len f) (hb : Below w.heap.size w w') : Row w' a len f := by
  intro k hk
  obtain ⟨b, off, rfl, hc⟩ := h k hk
  exact ⟨b, off, rfl, (hb.cell (World.block_lt_of_cell? _ _ hc)).trans hc⟩
theorem below_drewN {B : Nat} {a w : World} (h : Below B a w) (n : Nat) : Below B a (w.drewN n) := h.trans ⟨rfl, rfl, rfl, Nat.le_refl _, fun _ _ => rfl⟩
theorem Below.then {w w1 w2 : World} (h : Below w.heap.size w w1) (k : Below w1.heap.size w1 w2) : Below w.heap.size w w2 := h.trans (k.mono h.size)
theorem Row.drewN {w : World} {a : Option Addr} {len : Nat} {f : Nat → Int} (h : Row w a len f) (m : Nat) : Row (w.drewN m) a len f := h
/-- The set of those of the first k points that P lets by. -/
def setBy (P : Nat → Bool) : Nat → Nat
  | 0 => 0
  | k + 1 => if P k = true then setBy P k + pw k else setBy P k
theorem setBy_yes {P : Nat → Bool} {k : Nat} (h : P k = true) : setBy P (k + 1) = setBy P k + pw k := by simp [setBy, h]
theorem setBy_no {P : Nat → Bool} {k : Nat} (h : P k = false) : setBy P (k + 1) = setBy P k := by simp [setBy, h]
theorem setBy_lt (P : Nat → Bool) : ∀ k, setBy P k < pw k
  | 0 => by simp [setBy, pw]
  | k + 1 => by
    have := setBy_lt P k
    rw [pw_succ]
    cases h : P k
    · rw [setBy_no h]; omega
    · rw [setBy_yes h]; omega
theorem setBy_congr {P Q : Nat → Bool} : ∀ k, (∀ i, i < k → P i = Q i) → setBy P k = setBy Q k
  | 0, _ => rfl
  | k + 1, h => by
    have ih := setBy_congr k (fun i hi => h i (by omega))
    have hk := h k (by omega)
    simp only [setBy, hk, ih]
theorem or_pw_add {x k : Nat} (h : x < pw k) : x ||| pw k = x + pw k := by
  have e := Nat.two_pow_add_eq_or_of_lt (show x < 2 ^ k from h) 1
  rw [Nat.mul_one] at e
  show x ||| 2 ^ k = x + 2 ^ k
  rw [Nat.or_comm, ← e]; omega
theorem pw_bit (k i : Nat) : (pw k).testBit i = decide (k = i) := Nat.testBit_two_pow
theorem setBy_bit (P : Nat → Bool) : ∀ k i, (setBy P k).testBit i = (decide (i < k) && P i)
  | 0, i => by simp [setBy]
  | k + 1, i => by
    have ih := setBy_bit P k i
    cases h : P k
    · rw [setBy_no h, ih]
      by_cases e : i = k
      · subst e; simp [h]
      · have : decide (i < k + 1) = decide (i < k) := by simp; omega
        rw [this]
    · rw [setBy_yes h, ← or_pw_add (setBy_lt P k), Nat.testBit_or, ih, pw_bit]
      by_cases e : i = k
      · subst e; simp [h]
      · have : decide (i < k + 1) = decide (i < k) := by simp; omega
        rw [this]
        have : decide (k = i) = false := by simp; omega
        simp [this]
theorem hv_bits {a k : Nat} (h : hv a k = 0) (i : Nat) (hi : k ≤ i) : a.testBit i = false := by
  have h2 : hv a i = 0 := by
    obtain ⟨d, rfl⟩ : ∃ d, i = k + d := ⟨i - k, by omega⟩
    unfold hv at h ⊢
    rw [Nat.pow_add, ← Nat.div_div_eq_div_mul, h, Nat.zero_div]
  rw [hv_bit, h2]; rfl
theorem inside_any (a b : Nat) (w : World) (ha : a < 9223372036854775808) (hb : b < 9223372036854775808) :
    Calls Try.prog 25 #[.int .i64 a, .int .i64 b] w fun e w' => e = .returned (.bool (lack a b == 0)) ∧ w = w' := by
  have HZ : Hid (lack a b = 0 ↔ ∀ i, a.testBit i = true → b.testBit i = true) := lack_zero a b (by omega) (by omega)
  obtain ⟨Q, HQ⟩ : ∃ Q, Hid (Q = (lack a b == 0)) := ⟨_, rfl⟩
  rw [← HQ.out]
  go_enter Try.func25, Try.ntmps25
  go_wp2
  go_loop [0, 1] (fun s t => ∃ k : Nat, s = .int .i64 (hv a k : Nat) ∧ t = .int .i64 (hv b k : Nat) ∧ Hid (∀ i, i < k → a.testBit i = true → b.testBit i = true)) (fun s _ => (intOf s).toNat)
  case atStart => exact ⟨0, by rw [hv_zero], by rw [hv_zero], upto_zero⟩
  case round =>
    obtain ⟨k, rfl, rfl, hok⟩ := hrel
    have hl := hv_le a k
    have hl2 := hv_le b k
    have h1 : (((hv a k : Nat) : Int) % 2 == 1) = a.testBit k := by rw [hv_bit, Bool.eq_iff_iff]; simp; omega
    have h2 : (((hv b k : Nat) : Int) % 2 == 0) = !b.testBit k := by rw [hv_bit, Bool.eq_iff_iff]; simp; omega
    by_cases hp : 0 < hv a k
    · have HA : Hid (hv a (k + 1) = hv a k / 2) := hv_succ a k
      have HB : Hid (hv b (k + 1) = hv b k / 2) := hv_succ b k
      cases ba : a.testBit k
      · rw [ba] at h1
        clear h2
        go_wp2
        go_round
        case rel => exact ⟨k + 1, by rw [HA.out]; simp, by rw [HB.out]; simp, upto_succ hok.out (fun h => by rw [ba] at h; cases h)⟩
        case measure => simp [intOf]; omega
      · rw [ba] at h1
        cases bb : b.testBit k
        · rw [bb] at h2
          have hne : ¬ lack a b = 0 := fun h => by have := HZ.out.1 h k ba; rw [bb] at this; cases this
          have HN : Hid (Q = false) := HQ.out.trans (by simpa using hne)
          clear hne
          go_wp2
          go_ret
          exact ⟨ret_bool HN.out.symm, rfl⟩
        · rw [bb] at h2
          go_wp2
          go_round
          case rel => exact ⟨k + 1, by rw [HA.out]; simp, by rw [HB.out]; simp, upto_succ hok.out (fun _ => bb)⟩
          case measure => simp [intOf]; omega
    · have h0 : hv a k = 0 := by omega
      have hz : lack a b = 0 := HZ.out.2 fun i hi => by
        rcases Nat.lt_or_ge i k with h | h
        · exact hok.out i h hi
        · rw [hv_bits h0 i h] at hi; cases hi
      have HN : Hid (Q = true) := HQ.out.trans (by simp [hz])
      clear h1 h2 hz
      go_wp2
      go_ret
      exact ⟨ret_bool HN.out.symm, rfl⟩
theorem tog_end {a b k : Nat} (h1 : hv a k = 0) (h2 : hv b k = 0) : setBy (fun i => a.testBit i || b.testBit i) k = a ||| b := by
  apply Nat.eq_of_testBit_eq
  intro i
  rw [setBy_bit, Nat.testBit_or]
  by_cases hi : i < k
  · simp [hi]
  · rw [hv_bits h1 i (by omega), hv_bits h2 i (by omega)]; simp
theorem hv_ten {a k : Nat} (ha : a < 1024) (h : 0 < hv a k) : k < 10 := by
  unfold hv at h
  rcases Nat.lt_or_ge k 10 with h1 | h1
  · exact h1
  · have h2 : 2 ^ 10 ≤ 2 ^ k := Nat.pow_le_pow_right (by decide) h1
    have h3 : a / 2 ^ k = 0 := Nat.div_eq_of_lt (by omega)
    omega
theorem together_any (a b : Nat) (w : World) (ha : a < 1024) (hb : b < 1024) :
    Calls Try.prog 26 #[.int .i64 a, .int .i64 b] w fun e w' => e = .returned (.int .i64 ((a ||| b : Nat) : Int)) ∧ w = w' := by
  obtain ⟨P, HP⟩ : ∃ P, Hid (P = fun i => a.testBit i || b.testBit i) := ⟨_, rfl⟩
  obtain ⟨Q, HQ⟩ : ∃ Q, Hid (Q = (a ||| b)) := ⟨_, rfl⟩
  rw [← HQ.out]
  go_enter Try.func26, Try.ntmps26
  go_wp2
  go_loop [0, 1, 5, 6] (fun s t o u => ∃ k : Nat, k ≤ 10 ∧ s = .int .i64 (hv a k : Nat) ∧ t = .int .i64 (hv b k : Nat) ∧ o = .int .i64 (setBy P k : Nat) ∧ u = .int .i64 (pw k : Nat)) (fun s t _ _ => (intOf s).toNat + (intOf t).toNat)
  case atStart => exact ⟨0, by omega, by rw [hv_zero], by rw [hv_zero], rfl, rfl⟩
  case round =>
    obtain ⟨k, hk, rfl, rfl, rfl, rfl⟩ := hrel
    have hl := hv_le a k
    have hl2 := hv_le b k
    have hp1 := pw_le k hk
    have hs1 := setBy_lt P k
    have h1 : (((hv a k : Nat) : Int) % 2 == 1) = a.testBit k := by rw [hv_bit, Bool.eq_iff_iff]; simp; omega
    have h2 : (((hv b k : Nat) : Int) % 2 == 1) = b.testBit k := by rw [hv_bit, Bool.eq_iff_iff]; simp; omega
    have HA : Hid (hv a (k + 1) = hv a k / 2) := hv_succ a k
    have HB : Hid (hv b (k + 1) = hv b k / 2) := hv_succ b k
    have HW : Hid (pw (k + 1) = 2 * pw k) := pw_succ k
    have HTA : Hid (0 < hv a k → k < 10) := hv_ten ha
    have HTB : Hid (0 < hv b k → k < 10) := hv_ten hb
    have HPK : Hid (P k = (a.testBit k || b.testBit k)) := by rw [Hid, HP.out]
    by_cases hp : 0 < hv a k
    · have hk2 := HTA.out hp
      cases ba : a.testBit k
      · cases bb : b.testBit k
        · rw [ba] at h1
          rw [bb] at h2
          have HS : Hid (setBy P (k + 1) = setBy P k) := setBy_no (by rw [HPK.out, ba, bb]; rfl)
          go_wp2
          go_round
          case rel => exact ⟨k + 1, by omega, by rw [HA.out]; simp, by rw [HB.out]; simp, by rw [HS.out], by rw [HW.out]; simp; omega⟩
          case measure => simp [intOf]; omega
        · rw [ba] at h1
          rw [bb] at h2
          have HS : Hid (setBy P (k + 1) = setBy P k + pw k) := setBy_yes (by rw [HPK.out, ba, bb]; rfl)
          go_wp2
          go_round
          case rel => exact ⟨k + 1, by omega, by rw [HA.out]; simp, by rw [HB.out]; simp, by rw [HS.out]; simp, by rw [HW.out]; simp; omega⟩
          case measure => simp [intOf]; omega
      · rw [ba] at h1
        have HS : Hid (setBy P (k + 1) = setBy P k + pw k) := setBy_yes (by rw [HPK.out, ba]; rfl)
        clear h2
        go_wp2
        go_round
        case rel => exact ⟨k + 1, by omega, by rw [HA.out]; simp, by rw [HB.out]; simp, by rw [HS.out]; simp, by rw [HW.out]; simp; omega⟩
        case measure => simp [intOf]; omega
    · by_cases hq : 0 < hv b k
      · have hk2 := HTB.out hq
        cases ba : a.testBit k
        · cases bb : b.testBit k
          · rw [ba] at h1
            rw [bb] at h2
            have HS : Hid (setBy P (k + 1) = setBy P k) := setBy_no (by rw [HPK.out, ba, bb]; rfl)
            go_wp2
            go_round
            case rel => exact ⟨k + 1, by omega, by rw [HA.out]; simp, by rw [HB.out]; simp, by rw [HS.out], by rw [HW.out]; simp; omega⟩
            case measure => simp [intOf]; omega
          · rw [ba] at h1
            rw [bb] at h2
            have HS : Hid (setBy P (k + 1) = setBy P k + pw k) := setBy_yes (by rw [HPK.out, ba, bb]; rfl)
            go_wp2
            go_round
            case rel => exact ⟨k + 1, by omega, by rw [HA.out]; simp, by rw [HB.out]; simp, by rw [HS.out]; simp, by rw [HW.out]; simp; omega⟩
            case measure => simp [intOf]; omega
        · rw [ba] at h1
          have HS : Hid (setBy P (k + 1) = setBy P k + pw k) := setBy_yes (by rw [HPK.out, ba]; rfl)
          clear h2
          go_wp2
          go_round
          case rel => exact ⟨k + 1, by omega, by rw [HA.out]; simp, by rw [HB.out]; simp, by rw [HS.out]; simp, by rw [HW.out]; simp; omega⟩
          case measure => simp [intOf]; omega
      · have HE : Hid (setBy P k = Q) := by rw [Hid, HP.out, HQ.out]; exact tog_end (by omega) (by omega)
        clear h1 h2
        go_wp2
        go_ret
        exact ⟨ret_int (by rw [HE.out]), rfl⟩
theorem add_or_and : ∀ (k a b : Nat), a < 2 ^ k → b < 2 ^ k → a + b = (a ||| b) + (a &&& b)
  | 0, a, b, ha, hb => by
    obtain rfl : a = 0 := by omega
    obtain rfl : b = 0 := by omega
    rfl
  | k + 1, a, b, ha, hb => by
    have ih := add_or_and k (a / 2) (b / 2) (by rw [Nat.pow_succ] at ha; omega) (by rw [Nat.pow_succ] at hb; omega)
    have e1 : (a ||| b) / 2 = a / 2 ||| b / 2 := Nat.or_div_two
    have e2 : (a &&& b) / 2 = a / 2 &&& b / 2 := Nat.and_div_two
    have m1 : (a ||| b) % 2 = 1 ↔ a % 2 = 1 ∨ b % 2 = 1 := Nat.or_mod_two_eq_one
    have m2 : (a &&& b) % 2 = 1 ↔ a % 2 = 1 ∧ b % 2 = 1 := Nat.and_mod_two_eq_one
    omega
theorem common_any (a b : Nat) (w : World) (ha : a < 1024) (hb : b < 1024) :
    Calls Try.prog 27 #[.int .i64 a, .int .i64 b] w fun e w' => e = .returned (.int .i64 ((a &&& b : Nat) : Int)) ∧ w = w' := by
  have HE : Hid (a + b = (a ||| b) + (a &&& b)) := add_or_and 10 a b ha hb
  have hor : a ||| b < 1024 := Nat.or_lt_two_pow (n := 10) ha hb
  obtain ⟨Q, HQ⟩ : ∃ Q, Hid (Q = (a &&& b)) := ⟨_, rfl⟩
  rw [← HQ.out]
  go_enter Try.func27, Try.ntmps27
  go_wp2_with (go_at_call 26; refine (together_any a b _ ha hb).mono ?_; rintro e w' ⟨rfl, rfl⟩)
  go_ret
  exact ⟨ret_int (by have h1 := HE.out; have h2 := HQ.out; omega), rfl⟩
theorem hasAll_any (s p : Nat) (w : World) (hs : s < 9223372036854775808) (hp : p < 9223372036854775808) :
    Calls Try.prog 23 #[.int .i64 s, .int .i64 p] w fun e w' => e = .returned (.bool (lack p s == 0)) ∧ w = w' := by
  have h := i64_andNot p s hp hs
  go_enter Try.func23, Try.ntmps23
  go_wp2
  go_ret
  refine ⟨ret_bool ?_, rfl⟩
  rw [Bool.eq_iff_iff]
  simp
theorem truthIs_any (c : Int) (b b' : Bool) (w : World) (h : (c ≠ 0 ∧ b = false) ∨ (c = 0 ∧ b = b')) :
    Calls Try.prog 12 #[.bool b, .int .i64 c, .int .i64 c, .bool b'] w fun e w' => e = .returned (.bool true) ∧ w = w' := by
  rcases h with ⟨h0, rfl⟩ | ⟨rfl, rfl⟩
  · have hne : (c == 0) = false := by simpa using h0
    cases b'
    · go_enter Try.func12, Try.ntmps12
      go_wp2
      go_ret
      exact ⟨rfl, rfl⟩
    · go_enter Try.func12, Try.ntmps12
      go_wp2
      go_ret
      exact ⟨rfl, rfl⟩
  · cases b
    · go_enter Try.func12, Try.ntmps12
      go_wp2
      go_ret
      exact ⟨rfl, rfl⟩
    · go_enter Try.func12, Try.ntmps12
      go_wp2
      go_ret
      exact ⟨rfl, rfl⟩
theorem numberIs_any (n e w0 want : Int) (w : World) (h : e = w0) (hv : (w0 ≠ 0 ∧ n = 0) ∨ (w0 = 0 ∧ n = want)) :
    Calls Try.prog 19 #[.int .i64 n, .int .i64 e, .int .i64 w0, .int .i64 want] w fun e w' => e = .returned (.bool true) ∧ w = w' := by
  subst h
  rcases hv with ⟨h0, rfl⟩ | ⟨rfl, rfl⟩
  · have hne : (e != 0) = true := by simpa using h0
    go_enter Try.func19, Try.ntmps19
    go_wp2
    go_ret
    exact ⟨rfl, rfl⟩
  · go_enter Try.func19, Try.ntmps19
    go_wp2
    go_ret
    exact ⟨rfl, rfl⟩
def sumTo (φ : Nat → Nat) : Nat → Nat
  | 0 => 0
  | k + 1 => sumTo φ k + φ k
theorem sumTo_congr {φ ψ : Nat → Nat} : ∀ n, (∀ k, k < n → φ k = ψ k) → sumTo φ n = sumTo ψ n
  | 0, _ => rfl
  | n + 1, h => by rw [sumTo, sumTo, sumTo_congr n (fun k hk => h k (by omega)), h n (by omega)]
theorem sumTo_le {φ : Nat → Nat} {B : Nat} : ∀ n, (∀ k, k < n → φ k ≤ B) → sumTo φ n ≤ n * B
  | 0, _ => by simp [sumTo]
  | n + 1, h => by
    have := sumTo_le n (fun k hk => h k (by omega))
    have := h n (by omega)
    rw [sumTo, Nat.succ_mul]; omega
end Go.Proofs.Ytoagfjikjdacoaa
