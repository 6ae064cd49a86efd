/-
  What the reference's Together and hasselaw.choose answer; Closure, Inside and Turns of a good order and set. Conditions: as each theorem says.
-/
import Derived.Test.YtggngpnenbjidabDoorSBeg
import Derived.Test.YtggngpnenbjidabDoorKurM
namespace Go.Proofs.YtggngpnenbjidabDoor
open Go.RowKit

theorem tog_end {a b k : Nat} (h1 : hv a k = 0) (h2 : hv b k = 0) : setBy (fun i => a.testBit i || b.testBit i) k = a ||| b := by
  apply Nat.eq_of_testBit_eq
  intro i
  rw [setBy_bit, Nat.testBit_or]
  by_cases hi : i < k
  · simp [hi]
  · rw [hv_bits h1 i (by omega), hv_bits h2 i (by omega)]; simp
theorem hv_ten {a k : Nat} (ha : a < 1024) (h : 0 < hv a k) : k < 10 := by
  unfold hv at h
  rcases Nat.lt_or_ge k 10 with h1 | h1
  · exact h1
  · have h2 : 2 ^ 10 ≤ 2 ^ k := Nat.pow_le_pow_right (by decide) h1
    have h3 : a / 2 ^ k = 0 := Nat.div_eq_of_lt (by omega)
    omega
theorem together_any (a b : Nat) (w : World) (ha : a < 1024) (hb : b < 1024) :
    Calls Tryd.prog 15 #[.int .i64 a, .int .i64 b] w fun e w' => e = .returned (.int .i64 ((a ||| b : Nat) : Int)) ∧ w = w' := by
  obtain ⟨P, HP⟩ : ∃ P, Hid (P = fun i => a.testBit i || b.testBit i) := ⟨_, rfl⟩
  obtain ⟨Q, HQ⟩ : ∃ Q, Hid (Q = (a ||| b)) := ⟨_, rfl⟩
  rw [← HQ.out]
  go_enter Tryd.func15, Tryd.ntmps15
  go_wp2
  go_loop [0, 1, 5, 6] (fun s t o u => ∃ k : Nat, k ≤ 10 ∧ s = .int .i64 (hv a k : Nat) ∧ t = .int .i64 (hv b k : Nat) ∧ o = .int .i64 (setBy P k : Nat) ∧ u = .int .i64 (pw k : Nat)) (fun s t _ _ => (intOf s).toNat + (intOf t).toNat)
  case atStart => exact ⟨0, by omega, by rw [hv_zero], by rw [hv_zero], rfl, rfl⟩
  case round =>
    obtain ⟨k, hk, rfl, rfl, rfl, rfl⟩ := hrel
    have hl := hv_le a k
    have hl2 := hv_le b k
    have hp1 := pw_le k hk
    have hs1 := setBy_lt P k
    have h1 : (((hv a k : Nat) : Int) % 2 == 1) = a.testBit k := by rw [hv_bit, Bool.eq_iff_iff]; simp; omega
    have h2 : (((hv b k : Nat) : Int) % 2 == 1) = b.testBit k := by rw [hv_bit, Bool.eq_iff_iff]; simp; omega
    have HA : Hid (hv a (k + 1) = hv a k / 2) := hv_succ a k
    have HB : Hid (hv b (k + 1) = hv b k / 2) := hv_succ b k
    have HW : Hid (pw (k + 1) = 2 * pw k) := pw_succ k
    have HTA : Hid (0 < hv a k → k < 10) := hv_ten ha
    have HTB : Hid (0 < hv b k → k < 10) := hv_ten hb
    have HPK : Hid (P k = (a.testBit k || b.testBit k)) := by rw [Hid, HP.out]
    by_cases hp : 0 < hv a k
    · have hk2 := HTA.out hp
      cases ba : a.testBit k
      · cases bb : b.testBit k
        · rw [ba] at h1
          rw [bb] at h2
          have HS : Hid (setBy P (k + 1) = setBy P k) := setBy_no (by rw [HPK.out, ba, bb]; rfl)
          go_wp2
          go_round
          case rel => exact ⟨k + 1, by omega, by rw [HA.out]; simp, by rw [HB.out]; simp, by rw [HS.out], by rw [HW.out]; simp; omega⟩
          case measure => simp [intOf]; omega
        · rw [ba] at h1
          rw [bb] at h2
          have HS : Hid (setBy P (k + 1) = setBy P k + pw k) := setBy_yes (by rw [HPK.out, ba, bb]; rfl)
          go_wp2
          go_round
          case rel => exact ⟨k + 1, by omega, by rw [HA.out]; simp, by rw [HB.out]; simp, by rw [HS.out]; simp, by rw [HW.out]; simp; omega⟩
          case measure => simp [intOf]; omega
      · rw [ba] at h1
        have HS : Hid (setBy P (k + 1) = setBy P k + pw k) := setBy_yes (by rw [HPK.out, ba]; rfl)
        clear h2
        go_wp2
        go_round
        case rel => exact ⟨k + 1, by omega, by rw [HA.out]; simp, by rw [HB.out]; simp, by rw [HS.out]; simp, by rw [HW.out]; simp; omega⟩
        case measure => simp [intOf]; omega
    · by_cases hq : 0 < hv b k
      · have hk2 := HTB.out hq
        cases ba : a.testBit k
        · cases bb : b.testBit k
          · rw [ba] at h1
            rw [bb] at h2
            have HS : Hid (setBy P (k + 1) = setBy P k) := setBy_no (by rw [HPK.out, ba, bb]; rfl)
            go_wp2
            go_round
            case rel => exact ⟨k + 1, by omega, by rw [HA.out]; simp, by rw [HB.out]; simp, by rw [HS.out], by rw [HW.out]; simp; omega⟩
            case measure => simp [intOf]; omega
          · rw [ba] at h1
            rw [bb] at h2
            have HS : Hid (setBy P (k + 1) = setBy P k + pw k) := setBy_yes (by rw [HPK.out, ba, bb]; rfl)
            go_wp2
            go_round
            case rel => exact ⟨k + 1, by omega, by rw [HA.out]; simp, by rw [HB.out]; simp, by rw [HS.out]; simp, by rw [HW.out]; simp; omega⟩
            case measure => simp [intOf]; omega
        · rw [ba] at h1
          have HS : Hid (setBy P (k + 1) = setBy P k + pw k) := setBy_yes (by rw [HPK.out, ba]; rfl)
          clear h2
          go_wp2
          go_round
          case rel => exact ⟨k + 1, by omega, by rw [HA.out]; simp, by rw [HB.out]; simp, by rw [HS.out]; simp, by rw [HW.out]; simp; omega⟩
          case measure => simp [intOf]; omega
      · have HE : Hid (setBy P k = Q) := by rw [Hid, HP.out, HQ.out]; exact tog_end (by omega) (by omega)
        clear h1 h2
        go_wp2
        go_ret
        exact ⟨ret_int (by rw [HE.out]), rfl⟩
theorem choose_any (c : Int) (n : Nat) (w : World) (hn : 0 < n) (hn2 : n ≤ 10000000000) (h1 : -9223372036854775808 ≤ c) (h2 : c ≤ 9223372036854775807) :
    Calls Tryd.prog 12 #[.int .i64 c, .int .i64 (n : Nat)] w fun e w' => (∃ k : Nat, k < n ∧ e = .returned (.int .i64 (k : Nat))) ∧ w = w' := by
  have hz : ((n : Nat) : Int) ≠ 0 := by omega
  by_cases hc : c < 0
  · have HQ : Hid (∃ k : Nat, k < n ∧ -(c + 1).tmod n = (k : Nat)) := by
      have e : -(c + 1).tmod n = (-(c + 1)) % n := by rw [← Int.neg_tmod, Int.tmod_eq_emod_of_nonneg (by omega)]
      have g1 := Int.emod_nonneg (-(c + 1)) hz
      have g2 := Int.emod_lt_of_pos (-(c + 1)) (show (0 : Int) < n by omega)
      exact ⟨((-(c + 1)) % n).toNat, by omega, by omega⟩
    go_enter Tryd.func12, Tryd.ntmps12
    go_wp2_with fail
    go_ret
    obtain ⟨k, h3, h4⟩ := HQ.out
    exact ⟨⟨k, h3, ret_int h4⟩, rfl⟩
  · have HQ : Hid (∃ k : Nat, k < n ∧ c % n = (k : Nat)) := by
      have g1 := Int.emod_nonneg c hz
      have g2 := Int.emod_lt_of_pos c (show (0 : Int) < n by omega)
      exact ⟨(c % n).toNat, by omega, by omega⟩
    go_enter Tryd.func12, Tryd.ntmps12
    go_wp2_with fail
    go_ret
    obtain ⟨k, h3, h4⟩ := HQ.out
    exact ⟨⟨k, h3, ret_int h4⟩, rfl⟩
theorem add_or_and : ∀ (k a b : Nat), a < 2 ^ k → b < 2 ^ k → a + b = (a ||| b) + (a &&& b)
  | 0, a, b, ha, hb => by
    obtain rfl : a = 0 := by omega
    obtain rfl : b = 0 := by omega
    rfl
  | k + 1, a, b, ha, hb => by
    have ih := add_or_and k (a / 2) (b / 2) (by rw [Nat.pow_succ] at ha; omega) (by rw [Nat.pow_succ] at hb; omega)
    have e1 : (a ||| b) / 2 = a / 2 ||| b / 2 := Nat.or_div_two
    have e2 : (a &&& b) / 2 = a / 2 &&& b / 2 := Nat.and_div_two
    have m1 : (a ||| b) % 2 = 1 ↔ a % 2 = 1 ∨ b % 2 = 1 := Nat.or_mod_two_eq_one
    have m2 : (a &&& b) % 2 = 1 ↔ a % 2 = 1 ∧ b % 2 = 1 := Nat.and_mod_two_eq_one
    omega
theorem rst_sub {n s : Nat} (hn : n ≤ 10) (hs : s < pw n) : s + rst n s = pw n - 1 := by
  have h1 : s ||| rst n s = pw n - 1 := by
    apply Nat.eq_of_testBit_eq
    intro i
    rw [Nat.testBit_or, rst_bit hn hs, full_bit]
    cases e : s.testBit i
    · simp
    · have := bit_of_lt hs e
      simp [this]
  have h2 : s &&& rst n s = 0 := by
    apply Nat.eq_of_testBit_eq
    intro i
    rw [Nat.testBit_and, rst_bit hn hs]
    cases s.testBit i <;> simp
  have h3 := add_or_and n s (rst n s) hs rst_lt
  rw [h1, h2] at h3
  omega
theorem sck_good {len : Nat} {f : Nat → Int} {x : Nat} (h : Chk (len : Int) len f 0) (hx : x < pw len) : SCk (len : Int) len f (x : Nat) 0 := .inr ⟨h, .inr ⟨rfl, by omega, by omega⟩⟩
theorem NumPost.good {n : Int} {len : Nat} {f : Nat → Int} {s : Nat} {v : Nat → Nat} {e : Ending} (h : NumPost n len f (s : Nat) v e) (h0 : SCk n len f (s : Nat) 0) : e = .returned (.tuple #[.int .i64 ((v s : Nat) : Int), .int .i64 0]) := by
  obtain ⟨c, x, rfl, hc, hx⟩ := h
  obtain rfl := hc.unique h0
  rcases hx with ⟨h, _⟩ | ⟨_, h⟩
  · exact absurd rfl h
  · rw [h]; rfl
theorem closure_ok (a : Option Addr) (len cap : Nat) (f : Nat → Int) (s z : Nat) (w : World) (hz : clo (nat f) s = z) (hl : len ≤ maxLen) (hc : Chk (len : Int) len f 0) (hs : s < pw len) (hr : Row w a len f) (hT : Tab w) :
    Calls Tryd.prog 14 #[.agg #[.int .i64 (len : Int), .slice a len cap], .int .i64 (s : Nat)] w fun e w' => e = .returned (.tuple #[.int .i64 (z : Nat), .int .i64 0]) ∧ Below w.heap.size w w' :=
  (closure_call len a len cap f s w hl hr hT).mono fun _ _ ⟨h1, h2⟩ => ⟨by rw [← hz]; exact h1.good (sck_good hc hs), h2⟩
theorem inside_ok (a : Option Addr) (len cap : Nat) (f : Nat → Int) (s z : Nat) (w : World) (hz : rst len (clo (nat f) (rst len s)) = z) (hl : len ≤ maxLen) (hc : Chk (len : Int) len f 0) (hs : s < pw len) (hr : Row w a len f) (hT : Tab w) :
    Calls Tryd.prog 16 #[.agg #[.int .i64 (len : Int), .slice a len cap], .int .i64 (s : Nat)] w fun e w' => e = .returned (.tuple #[.int .i64 (z : Nat), .int .i64 0]) ∧ Below w.heap.size w w' :=
  (inside_call len a len cap f s w hl hr hT).mono fun _ _ ⟨h1, h2⟩ => ⟨by rw [← hz]; exact h1.good (sck_good hc hs), h2⟩
theorem turns_ok (a : Option Addr) (len cap : Nat) (f : Nat → Int) (s : Nat) (w : World) (hl : len ≤ maxLen) (hc : Chk (len : Int) len f 0) (hs : s < pw len) (hr : Row w a len f) (hT : Tab w) :
    Calls Tryd.prog 17 #[.agg #[.int .i64 (len : Int), .slice a len cap], .int .i64 (s : Nat)] w fun e w' => (∃ x : Int, e = .returned (.tuple #[.int .i64 x, .int .i64 0]) ∧ 1 ≤ x ∧ x ≤ 14) ∧ Below w.heap.size w w' :=
  (turns_any len a len cap f s w hl hr hT).mono fun _ _ ⟨⟨c, x, h1, h2, h3⟩, h4⟩ => ⟨by
    obtain rfl := h2.unique (sck_good hc hs)
    obtain ⟨_, h10, hrng, hord⟩ := hc.good
    rcases h3 with ⟨h, _⟩ | ⟨_, h⟩
    · exact absurd rfl h
    · exact ⟨x, h1, turns_few h10 hrng.small hord hs h⟩, h4⟩
end Go.Proofs.YtggngpnenbjidabDoor
