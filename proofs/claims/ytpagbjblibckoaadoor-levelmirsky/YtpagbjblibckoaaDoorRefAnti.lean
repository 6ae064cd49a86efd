/-
  What the reference's IsAnti and Together, and hasselaw.isSet answer. Conditions: an order of at most ten points that lies in a slice of numbers; sets of at most ten points.
-/
import Derived.Test.YtpagbjblibckoaaDoorMirskyM
import Derived.Test.YtpagbjblibckoaaDoorRefDepth
namespace Go.Proofs.YtpagbjblibckoaaDoor
open Go.RowKit

theorem in_as (s p : Nat) (w : World) (b : Bool) (h : s.testBit p = b) (hs : s < 9223372036854775808) (hp : p < 63) :
    Calls Tryd.prog 26 #[.int .i64 s, .int .i64 p] w fun e w' => e = .returned (.bool b) ∧ w' = w :=
  (in_any s p w hs hp).mono fun _ _ ⟨h1, h2⟩ => ⟨by rw [← h]; exact h1, h2.symm⟩
def anP (g : Nat → Nat) (S i k : Nat) : Prop := S.testBit i = true → S.testBit k = true → (g k).testBit i = false
theorem anP_no1 {g : Nat → Nat} {S i k : Nat} (h : S.testBit i = false) : anP g S i k := fun h1 => by rw [h] at h1; cases h1
theorem anP_no2 {g : Nat → Nat} {S i k : Nat} (h : S.testBit k = false) : anP g S i k := fun _ h1 => by rw [h] at h1; cases h1
theorem anP_ls {g : Nat → Nat} {S i k : Nat} (h : (g k).testBit i = false) : anP g S i k := fun _ _ => h
set_option maxHeartbeats 1000000 in
theorem isAnti_any (n : Nat) (a : Option Addr) (cap : Nat) (g : Nat → Nat) (S : Nat) (w : World) (h10 : n ≤ 10) (hg : ∀ j, j < n → g j < 1024) (hr : Row w a n (fun k => (g k : Nat))) (hS : S < 1024) :
    Calls Tryd.prog 12 #[.agg #[.int .i64 (n : Int), .slice a n cap], .int .i64 S] w fun e w' => e = .returned (.bool (antB g n S)) ∧ Below w.heap.size w w' := by
  have K0 : Held (w.alloc (.cells #[.int .i64 (n : Int), .slice a n cap] 24)) w.heap.size n a n cap (fun k => (g k : Nat)) := Held.box hr
  have HB0 : Hid (Below w.heap.size w (w.alloc (.cells #[.int .i64 (n : Int), .slice a n cap] 24))) := (Below.refl _ _).alloc (Nat.le_refl _) _
  have HG : Hid (∀ j, j < n → g j < 1024) := hg
  have HYES : Hid ((∀ i, i < n → ∀ k, k < n → anP g S i k) → antB g n S = true) := fun h => (antB_iff g n S).2 h
  have HNO : Hid (∀ i k, i < n → k < n → S.testBit i = true → S.testBit k = true → (g k).testBit i = true → antB g n S = false) := fun i k hi hk h1 h2 h3 => by
    cases h : antB g n S
    · rfl
    · have := (antB_iff g n S).1 h i hi k hk h1 h2
      rw [h3] at this; cases this
  clear hr hg
  generalize antB g n S = B at *
  go_enter Tryd.func12, Tryd.ntmps12
  go_wp2_with fail
  go_loopw [5] (fun x wx => ∃ i : Nat, i ≤ n ∧ x = .int .i64 i ∧ Hid (∀ j, j < i → ∀ k, k < n → anP g S j k) ∧ Held wx w.heap.size n a n cap (fun k => (g k : Nat)) ∧ Hid (Below w.heap.size w wx)) (fun x _ => n - (intOf x).toNat)
  case atStart => exact ⟨0, Nat.zero_le _, rfl, upto_zero, K0, HB0.out⟩
  case round =>
    clear K0 HB0
    obtain ⟨i, hi, rfl, hok, hH, hB⟩ := hrel
    have c0 := hH.c0
    by_cases hin : i < n
    · have hlt : (i : Int) < (n : Int) := by omega
      have HH : Hid (Held wr w.heap.size n a n cap (fun k => (g k : Nat))) := hH
      clear hH
      go_wp2_with fail
      clear c0
      go_loopw [6] (fun x wx => ∃ k : Nat, k ≤ n ∧ x = .int .i64 k ∧ Hid (∀ j, j < k → anP g S i j) ∧ Held wx w.heap.size n a n cap (fun k => (g k : Nat)) ∧ Hid (Below w.heap.size w wx)) (fun x _ => n - (intOf x).toNat)
      case atStart => exact ⟨0, Nat.zero_le _, rfl, upto_zero, HH.out, hB.out⟩
      case round =>
        clear HH hB
        obtain ⟨k, hk, rfl, hok2, hH, hB⟩ := hrel
        have c0 := hH.c0
        have c1 := hH.c1
        by_cases hki : k < n
        · have hlt2 : (k : Int) < (n : Int) := by omega
          rcases (Bool.eq_false_or_eq_true (S.testBit i)).symm with hb1 | hb1
          · have HY : Hid (anP g S i k) := anP_no1 hb1
            go_wp2_with (go_at_call 26; refine (in_as _ _ _ _ hb1 (by omega) (by omega)).mono ?_; rintro e w' ⟨rfl, rfl⟩)
            go_roundw
            case rel => exact ⟨k + 1, by omega, by go_num, upto_succ hok2.out HY.out, hH, hB.out⟩
            case measure => simp [intOf]; omega
          · rcases (Bool.eq_false_or_eq_true (S.testBit k)).symm with hb2 | hb2
            · have HY : Hid (anP g S i k) := anP_no2 hb2
              go_wp2_with (first
              | (go_at_call_of 26 (Value.int IntKind.i64 (i : Int)); refine (in_as _ _ _ _ hb1 (by omega) (by omega)).mono ?_; rintro e w' ⟨rfl, rfl⟩)
              | (go_at_call_of 26 (Value.int IntKind.i64 (k : Int)); refine (in_as _ _ _ _ hb2 (by omega) (by omega)).mono ?_; rintro e w' ⟨rfl, rfl⟩))
              go_roundw
              case rel => exact ⟨k + 1, by omega, by go_num, upto_succ hok2.out HY.out, hH, hB.out⟩
              case measure => simp [intOf]; omega
            · rcases (Bool.eq_false_or_eq_true ((g k).testBit i)).symm with hb3 | hb3
              · have HY : Hid (anP g S i k) := anP_ls hb3
                go_wp2_with (first
              | (go_at_call_of 26 (Value.int IntKind.i64 (i : Int)); refine (in_as _ _ _ _ hb1 (by omega) (by omega)).mono ?_; rintro e w' ⟨rfl, rfl⟩)
              | (go_at_call_of 26 (Value.int IntKind.i64 (k : Int)); refine (in_as _ _ _ _ hb2 (by omega) (by omega)).mono ?_; rintro e w' ⟨rfl, rfl⟩))
                refine (less_as n a n cap g i k false _ hb3 h10 HG.out hH.row (by omega) hki).mono ?_
                rintro e w1 ⟨rfl, h1⟩
                have H1 := hH.step h1
                have HB1 : Hid (Below w.heap.size w w1) := Below.then hB.out h1
                clear h1 hH hB c0 c1
                go_wp2_with fail
                go_roundw
                case rel => exact ⟨k + 1, by omega, by go_num, upto_succ hok2.out HY.out, H1, HB1.out⟩
                case measure => simp [intOf]; omega
              · have HY : Hid (B = false) := HNO.out i k hin hki hb1 hb2 hb3
                go_wp2_with (first
              | (go_at_call_of 26 (Value.int IntKind.i64 (i : Int)); refine (in_as _ _ _ _ hb1 (by omega) (by omega)).mono ?_; rintro e w' ⟨rfl, rfl⟩)
              | (go_at_call_of 26 (Value.int IntKind.i64 (k : Int)); refine (in_as _ _ _ _ hb2 (by omega) (by omega)).mono ?_; rintro e w' ⟨rfl, rfl⟩))
                refine (less_as n a n cap g i k true _ hb3 h10 HG.out hH.row (by omega) hki).mono ?_
                rintro e w1 ⟨rfl, h1⟩
                have HB1 : Hid (Below w.heap.size w w1) := Below.then hB.out h1
                clear h1 hH hB c0 c1
                go_wp2_with fail
                go_ret
                exact ⟨ret_bool HY.out.symm, HB1.out⟩
        · have hge : (n : Int) ≤ (k : Int) := by omega
          have HYY : Hid (∀ j, j < n → anP g S i j) := fun j hj => hok2.out j (by omega)
          clear c1
          go_wp2_with fail
          go_roundw
          case rel => exact ⟨i + 1, by omega, by go_num, upto_succ hok.out HYY.out, hH, hB.out⟩
          case measure => simp [intOf]; omega
    · have HYY : Hid (B = true) := HYES.out (fun j hj => hok.out j (by omega))
      have hge : (n : Int) ≤ (i : Int) := by omega
      go_wp2_with fail
      go_ret
      exact ⟨ret_bool HYY.out.symm, hB.out⟩
theorem isAnti_as (n : Nat) (a : Option Addr) (cap : Nat) (g : Nat → Nat) (S : Nat) (v : Bool) (w : World) (hv : antB g n S = v) (h10 : n ≤ 10) (hg : ∀ j, j < n → g j < 1024) (hr : Row w a n (fun k => (g k : Nat))) (hS : S < 1024) :
    Calls Tryd.prog 12 #[.agg #[.int .i64 (n : Int), .slice a n cap], .int .i64 S] w fun e w' => e = .returned (.bool v) ∧ Below w.heap.size w w' :=
  (isAnti_any n a cap g S w h10 hg hr hS).mono fun _ _ ⟨h1, h2⟩ => ⟨by rw [← hv]; exact h1, h2⟩
theorem isSet2_any (s : Int) (n : Nat) (w : World) (hn : n ≤ 10) :
    Calls Tryd.prog 14 #[.int .i64 s, .int .i64 n] w fun e w' => e = .returned (.bool (sts s n)) ∧ w = w' := by
  by_cases h0 : 0 ≤ s
  · by_cases h1 : s < ((pw n : Nat) : Int)
    · go_enter Tryd.func14, Tryd.ntmps14
      go_wp2_with (go_at_call 11; refine (bit_any n _ (by omega)).mono ?_; rintro e w' ⟨rfl, rfl⟩)
      go_ret
      exact ⟨ret_bool (by simp [sts, h0, h1]), rfl⟩
    · go_enter Tryd.func14, Tryd.ntmps14
      go_wp2_with (go_at_call 11; refine (bit_any n _ (by omega)).mono ?_; rintro e w' ⟨rfl, rfl⟩)
      go_ret
      exact ⟨ret_bool (by simp [sts, h0]), rfl⟩
  · have h0' : decide (0 ≤ s) = false := by simp; omega
    go_enter Tryd.func14, Tryd.ntmps14
    go_wp2
    go_ret
    exact ⟨ret_bool (by simp [sts]; omega), rfl⟩
theorem isSet_as (s : Int) (n : Nat) (w : World) (v : Bool) (hv : sts s n = v) (hn : n ≤ 10) :
    Calls Tryd.prog 14 #[.int .i64 s, .int .i64 n] w fun e w' => e = .returned (.bool v) ∧ w' = w :=
  (isSet2_any s n w hn).mono fun _ _ ⟨h1, h2⟩ => ⟨by rw [← hv]; exact h1, h2.symm⟩
theorem hv_end {s : Nat} (hs : s < 1024) : hv s 10 = 0 := by
  unfold hv
  exact Nat.div_eq_zero_iff.2 (.inr hs)
theorem hv_zero_up {s k : Nat} (h : hv s k = 0) : s < 2 ^ k := by
  unfold hv at h
  rcases Nat.div_eq_zero_iff.1 h with h1 | h1
  · have := Nat.two_pow_pos k; omega
  · exact h1
theorem mod_step (x k : Nat) : x % 2 ^ (k + 1) = x % 2 ^ k + (if x.testBit k = true then pw k else 0) := by
  rw [Nat.mod_pow_succ, Nat.testBit_eq_decide_div_mod_eq]
  rcases Nat.mod_two_eq_zero_or_one (x / 2 ^ k) with h | h
  · simp [h]
  · simp [h, pw]
theorem mod_lt2 (x k : Nat) : x % 2 ^ k < pw k := Nat.mod_lt _ (Nat.two_pow_pos k)

set_option maxHeartbeats 1000000 in
theorem together_any (a b : Nat) (w : World) (ha : a < 1024) (hb : b < 1024) :
    Calls Tryd.prog 15 #[.int .i64 a, .int .i64 b] w fun e w' => e = .returned (.int .i64 (a ||| b : Nat)) ∧ w = w' := by
  obtain ⟨c, HC⟩ : ∃ c, Hid (c = a ||| b) := ⟨_, rfl⟩
  rw [← HC.out]
  have HCB : Hid (∀ k, c.testBit k = (a.testBit k || b.testBit k)) := fun k => by rw [HC.out, Nat.testBit_or]
  have HCE : Hid (∀ k, hv a k = 0 → hv b k = 0 → c % 2 ^ k = c) := fun k h1 h2 => by
    refine Nat.mod_eq_of_lt ?_
    rw [HC.out]; exact Nat.or_lt_two_pow (hv_zero_up h1) (hv_zero_up h2)
  clear HC
  go_enter Tryd.func15, Tryd.ntmps15
  go_wp2_with fail
  go_loop [0, 1, 5, 6] (fun x y z q => ∃ k : Nat, k ≤ 10 ∧ x = .int .i64 (hv a k : Nat) ∧ y = .int .i64 (hv b k : Nat) ∧ z = .int .i64 (c % 2 ^ k : Nat) ∧ q = .int .i64 (pw k : Nat)) (fun x y _ _ => (intOf x).toNat + (intOf y).toNat)
  case atStart => exact ⟨0, Nat.zero_le _, by rw [hv_zero], by rw [hv_zero], by simp [Nat.mod_one], rfl⟩
  case round =>
    obtain ⟨k, hk, rfl, rfl, rfl, rfl⟩ := hrel
    have h1 := hv_le a k
    have h2 := hv_le b k
    have ba := hv_bit a k
    have bb := hv_bit b k
    have hcb := HCB.out k
    have hms := mod_step c k
    have hml := mod_lt2 c k
    have hpk := pw_small k (by omega)
    by_cases hz : hv a k = 0 ∧ hv b k = 0
    · have HE : Hid (c % 2 ^ k = c) := HCE.out k hz.1 hz.2
      have g1 : ((hv a k : Nat) : Int) ≤ 0 := by omega
      have g2 : ((hv b k : Nat) : Int) ≤ 0 := by omega
      rw [HE.out]
      clear hz hms hml ba bb hcb
      generalize hv a k = A at *
      generalize hv b k = B at *
      go_wp2_with fail
      go_ret
      exact ⟨rfl, rfl⟩
    · have hk10 : k < 10 := by
        rcases Nat.lt_or_ge k 10 with h3 | h3
        · exact h3
        · have e : k = 10 := by omega
          subst e
          exact absurd ⟨hv_end ha, hv_end hb⟩ hz
      have HA : Hid (hv a (k + 1) = hv a k / 2) := hv_succ a k
      have HB : Hid (hv b (k + 1) = hv b k / 2) := hv_succ b k
      have HPK : Hid (pw (k + 1) = 2 * pw k) := pw_succ k
      by_cases hA : 0 < hv a k
      · have gA : (0 : Int) < ((hv a k : Nat) : Int) := by omega
        clear hz
        rcases Nat.mod_two_eq_zero_or_one (hv a k) with ea | ea
        · have q1 : (((hv a k : Nat) : Int) % 2 == 1) = false := by simp; omega
          rcases Nat.mod_two_eq_zero_or_one (hv b k) with eb | eb
          · have q2 : (((hv b k : Nat) : Int) % 2 == 1) = false := by simp; omega
            rw [hcb, ba, bb, ea, eb] at hms
            simp only [Nat.zero_ne_one, decide_false, Bool.or_false, Bool.false_eq_true, if_false, Nat.add_zero] at hms
            have HMS : Hid (c % 2 ^ (k + 1) = c % 2 ^ k) := hms
            clear hms hcb ba bb
            generalize hv a k = A at *
            generalize hv b k = B at *
            generalize c % 2 ^ k = M at *
            generalize pw k = Pk at *
            go_wp2_with fail
            go_round
            case rel => exact ⟨k + 1, by omega, by rw [HA.out]; simp, by rw [HB.out]; simp, by rw [HMS.out], by rw [HPK.out]; go_num⟩
            case measure => simp [intOf]; omega
          · have q2 : (((hv b k : Nat) : Int) % 2 == 1) = true := by simp; omega
            rw [hcb, ba, bb, ea, eb] at hms
            simp only [decide_true, Bool.or_true, if_true] at hms
            have HMS : Hid (c % 2 ^ (k + 1) = c % 2 ^ k + pw k) := hms
            clear hms hcb ba bb
            generalize hv a k = A at *
            generalize hv b k = B at *
            generalize c % 2 ^ k = M at *
            generalize pw k = Pk at *
            go_wp2_with fail
            go_round
            case rel => exact ⟨k + 1, by omega, by rw [HA.out]; simp, by rw [HB.out]; simp, by rw [HMS.out]; go_num, by rw [HPK.out]; go_num⟩
            case measure => simp [intOf]; omega
        · have q1 : (((hv a k : Nat) : Int) % 2 == 1) = true := by simp; omega
          rw [hcb, ba, bb, ea] at hms
          simp only [decide_true, Bool.true_or, if_true] at hms
          have HMS : Hid (c % 2 ^ (k + 1) = c % 2 ^ k + pw k) := hms
          clear hms hcb ba bb
          generalize hv a k = A at *
          generalize hv b k = B at *
          generalize c % 2 ^ k = M at *
          generalize pw k = Pk at *
          go_wp2_with fail
          go_round
          case rel => exact ⟨k + 1, by omega, by rw [HA.out]; simp, by rw [HB.out]; simp, by rw [HMS.out]; go_num, by rw [HPK.out]; go_num⟩
          case measure => simp [intOf]; omega
      · have gA : ((hv a k : Nat) : Int) ≤ 0 := by omega
        have gB : (0 : Int) < ((hv b k : Nat) : Int) := by omega
        clear hz
        rcases Nat.mod_two_eq_zero_or_one (hv a k) with ea | ea
        · have q1 : (((hv a k : Nat) : Int) % 2 == 1) = false := by simp; omega
          rcases Nat.mod_two_eq_zero_or_one (hv b k) with eb | eb
          · have q2 : (((hv b k : Nat) : Int) % 2 == 1) = false := by simp; omega
            rw [hcb, ba, bb, ea, eb] at hms
            simp only [Nat.zero_ne_one, decide_false, Bool.or_false, Bool.false_eq_true, if_false, Nat.add_zero] at hms
            have HMS : Hid (c % 2 ^ (k + 1) = c % 2 ^ k) := hms
            clear hms hcb ba bb
            generalize hv a k = A at *
            generalize hv b k = B at *
            generalize c % 2 ^ k = M at *
            generalize pw k = Pk at *
            go_wp2_with fail
            go_round
            case rel => exact ⟨k + 1, by omega, by rw [HA.out]; simp, by rw [HB.out]; simp, by rw [HMS.out], by rw [HPK.out]; go_num⟩
            case measure => simp [intOf]; omega
          · have q2 : (((hv b k : Nat) : Int) % 2 == 1) = true := by simp; omega
            rw [hcb, ba, bb, ea, eb] at hms
            simp only [decide_true, Bool.or_true, if_true] at hms
            have HMS : Hid (c % 2 ^ (k + 1) = c % 2 ^ k + pw k) := hms
            clear hms hcb ba bb
            generalize hv a k = A at *
            generalize hv b k = B at *
            generalize c % 2 ^ k = M at *
            generalize pw k = Pk at *
            go_wp2_with fail
            go_round
            case rel => exact ⟨k + 1, by omega, by rw [HA.out]; simp, by rw [HB.out]; simp, by rw [HMS.out]; go_num, by rw [HPK.out]; go_num⟩
            case measure => simp [intOf]; omega
        · exfalso; omega
end Go.Proofs.YtpagbjblibckoaaDoor
