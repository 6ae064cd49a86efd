/-
  What the reference's Inside, MarksOf and ThingsOf answer. Conditions: a context of at most ten things and ten marks that lies in a slice of numbers.
-/
import Derived.Test.YtgjdpgjaaaeglaaDoorConN
namespace Go.Proofs.YtgjdpgjaaaeglaaDoor
open Go.RowKit

theorem hv_bitsQ {a k : Nat} (h : hv a k = 0) (i : Nat) (hi : k ≤ i) : a.testBit i = false := by
  have h2 : hv a i = 0 := by
    obtain ⟨d, rfl⟩ : ∃ d, i = k + d := ⟨i - k, by omega⟩
    unfold hv at h ⊢
    rw [Nat.pow_add, ← Nat.div_div_eq_div_mul, h, Nat.zero_div]
  rw [hv_bit, h2]; rfl
theorem inside_anyQ (a b : Nat) (w : World) (ha : a < 9223372036854775808) (hb : b < 9223372036854775808) :
    Calls Tryd.prog 32 #[.int .i64 a, .int .i64 b] w fun e w' => e = .returned (.bool (lack a b == 0)) ∧ w = w' := by
  have HZ : Hid (lack a b = 0 ↔ ∀ i, a.testBit i = true → b.testBit i = true) := lack_zero a b (by omega) (by omega)
  obtain ⟨Q, HQ⟩ : ∃ Q, Hid (Q = (lack a b == 0)) := ⟨_, rfl⟩
  rw [← HQ.out]
  go_enter Tryd.func32, Tryd.ntmps32
  go_wp2
  go_loop [0, 1] (fun s t => ∃ k : Nat, s = .int .i64 (hv a k : Nat) ∧ t = .int .i64 (hv b k : Nat) ∧ Hid (∀ i, i < k → a.testBit i = true → b.testBit i = true)) (fun s _ => (intOf s).toNat)
  case atStart => exact ⟨0, by rw [hv_zero], by rw [hv_zero], upto_zero⟩
  case round =>
    obtain ⟨k, rfl, rfl, hok⟩ := hrel
    have hl := hv_le a k
    have hl2 := hv_le b k
    have h1 : (((hv a k : Nat) : Int) % 2 == 1) = a.testBit k := by rw [hv_bit, Bool.eq_iff_iff]; simp; omega
    have h2 : (((hv b k : Nat) : Int) % 2 == 0) = !b.testBit k := by rw [hv_bit, Bool.eq_iff_iff]; simp; omega
    by_cases hp : 0 < hv a k
    · have HA : Hid (hv a (k + 1) = hv a k / 2) := hv_succ a k
      have HB : Hid (hv b (k + 1) = hv b k / 2) := hv_succ b k
      cases ba : a.testBit k
      · rw [ba] at h1
        clear h2
        go_wp2
        go_round
        case rel => exact ⟨k + 1, by rw [HA.out]; simp, by rw [HB.out]; simp, upto_succ hok.out (fun h => by rw [ba] at h; cases h)⟩
        case measure => simp [intOf]; omega
      · rw [ba] at h1
        cases bb : b.testBit k
        · rw [bb] at h2
          have hne : ¬ lack a b = 0 := fun h => by have := HZ.out.1 h k ba; rw [bb] at this; cases this
          have HN : Hid (Q = false) := HQ.out.trans (by simpa using hne)
          clear hne
          go_wp2
          go_ret
          exact ⟨ret_bool HN.out.symm, rfl⟩
        · rw [bb] at h2
          go_wp2
          go_round
          case rel => exact ⟨k + 1, by rw [HA.out]; simp, by rw [HB.out]; simp, upto_succ hok.out (fun _ => bb)⟩
          case measure => simp [intOf]; omega
    · have h0 : hv a k = 0 := by omega
      have hz : lack a b = 0 := HZ.out.2 fun i hi => by
        rcases Nat.lt_or_ge i k with h | h
        · exact hok.out i h hi
        · rw [hv_bitsQ h0 i h] at hi; cases hi
      have HN : Hid (Q = true) := HQ.out.trans (by simp [hz])
      clear h1 h2 hz
      go_wp2
      go_ret
      exact ⟨ret_bool HN.out.symm, rfl⟩
set_option maxHeartbeats 1000000 in
theorem refThings_any (a : Option Addr) (n m cap : Nat) (h : Nat → Nat) (M : Nat) (w : World) (h10 : n ≤ 10) (hh : ∀ k, k < n → h k < 1024) (hr : Row w a n (fun k => (h k : Nat))) (hM : M < 1024) :
    Calls Tryd.prog 21 #[.agg #[.int .i64 (n : Int), .int .i64 (m : Int), .slice a n cap], .int .i64 (M : Nat)] w fun e w' => e = .returned (.int .i64 (ths h n M : Nat)) ∧ Below w.heap.size w w' := by
  have HG : Hid (∀ k, k < n → h k < 1024) := hh
  have K0 : Hid (GHeld (w.alloc (.cells #[.int .i64 (n : Int), .int .i64 (m : Int), .slice a n cap] 39)) w.heap.size n m a n cap (fun k => (h k : Nat))) := GHeld.box hr
  have HB0 : Hid (Below w.heap.size w (w.alloc (.cells #[.int .i64 (n : Int), .int .i64 (m : Int), .slice a n cap] 39))) := (Below.refl _ _).alloc (Nat.le_refl _) _
  clear hr hh
  go_enter Tryd.func21, Tryd.ntmps21
  go_wp2_with fail
  go_loopw [5, 6] (fun p i wx => ∃ k : Nat, k ≤ n ∧ i = .int .i64 k ∧ p = .int .i64 (setBy (hasA h M) k : Nat) ∧ Hid (GHeld wx w.heap.size n m a n cap (fun k => (h k : Nat))) ∧ Hid (Below w.heap.size w wx)) (fun _ i _ => n - (intOf i).toNat)
  case atStart => exact ⟨0, Nat.zero_le _, rfl, rfl, K0, HB0⟩
  case round =>
    obtain ⟨k, hk, rfl, rfl, hH, hB⟩ := hrel
    clear K0 HB0
    have k0 := hH.out.c0
    have k2 := hH.out.c2
    by_cases hlt : k < n
    · obtain ⟨b, off, rfl, hc⟩ := hH.out.row k hlt
      have hlt' : (k : Int) < (n : Int) := by omega
      have hl2 : h k < 1024 := HG.out k hlt
      have hl1 : setBy (hasA h M) k < 1024 := Nat.lt_of_lt_of_le (setBy_lt _ k) (pw_le k (by omega))
      have hl3 := pw_le k (by omega)
      rcases (Bool.eq_false_or_eq_true (hasA h M k)).symm with hb | hb
      · have HE : Hid (setBy (hasA h M) (k + 1) = setBy (hasA h M) k) := setBy_no hb
        have hq : (lack M (h k) == 0) = false := hb
        go_wp2_with (go_at_call 32; refine (inside_anyQ _ _ _ (by omega) (by omega)).mono ?_; rintro e w' ⟨rfl, rfl⟩)
        go_roundw
        case rel => exact ⟨k + 1, by omega, by go_num, by rw [HE.out], hH, hB⟩
        case measure => simp [intOf]; omega
      · have HE : Hid (setBy (hasA h M) (k + 1) = setBy (hasA h M) k + pw k) := setBy_yes hb
        have hq : (lack M (h k) == 0) = true := hb
        go_wp2_with (first | (go_at_call 32; refine (inside_anyQ _ _ _ (by omega) (by omega)).mono ?_; rintro e w' ⟨rfl, rfl⟩) | (go_at_call 11; refine (bit_any k _ (by omega)).mono ?_; rintro e w' ⟨rfl, rfl⟩))
        go_roundw
        case rel => exact ⟨k + 1, by omega, by go_num, by rw [HE.out]; go_num, hH, hB⟩
        case measure => simp [intOf]; omega
    · have hkn : k = n := by omega
      subst hkn
      go_wp2
      go_ret
      exact ⟨rfl, hB.out⟩

set_option maxHeartbeats 2000000 in
theorem refMarks_any (a : Option Addr) (n m cap : Nat) (h : Nat → Nat) (s : Nat) (w : World) (h10 : n ≤ 10) (m10 : m ≤ 10) (hh : ∀ k, k < n → h k < 1024) (hr : Row w a n (fun k => (h k : Nat))) (hs : s < 1024) :
    Calls Tryd.prog 20 #[.agg #[.int .i64 (n : Int), .int .i64 (m : Int), .slice a n cap], .int .i64 (s : Nat)] w fun e w' => e = .returned (.int .i64 (mks h n m s : Nat)) ∧ Below w.heap.size w w' := by
  have HG : Hid (∀ k, k < n → h k < 1024) := hh
  have K0 : Hid (GHeld (w.alloc (.cells #[.int .i64 (n : Int), .int .i64 (m : Int), .slice a n cap] 39)) w.heap.size n m a n cap (fun k => (h k : Nat))) := GHeld.box hr
  have HB0 : Hid (Below w.heap.size w (w.alloc (.cells #[.int .i64 (n : Int), .int .i64 (m : Int), .slice a n cap] 39))) := (Below.refl _ _).alloc (Nat.le_refl _) _
  have HME : Hid (mks h n m s = setBy (hasI h n s) m) := mks_set h n m s
  clear hr hh
  rw [HME.out]
  go_enter Tryd.func20, Tryd.ntmps20
  go_wp2_with fail
  go_loopw [5, 6] (fun p i wx => ∃ k : Nat, k ≤ m ∧ i = .int .i64 k ∧ p = .int .i64 (setBy (hasI h n s) k : Nat) ∧ Hid (GHeld wx w.heap.size n m a n cap (fun k => (h k : Nat))) ∧ Hid (Below w.heap.size w wx)) (fun _ i _ => m - (intOf i).toNat)
  case atStart => exact ⟨0, Nat.zero_le _, rfl, rfl, K0, HB0⟩
  case round =>
    obtain ⟨k, hk, rfl, rfl, hH, hB⟩ := hrel
    clear K0 HB0
    have k0 := hH.out.c0
    have k1 := hH.out.c1
    by_cases hlt : k < m
    · have hlt' : (k : Int) < (m : Int) := by omega
      obtain ⟨P, HP⟩ : ∃ P : Nat → Bool, Hid (P = fun j => !s.testBit j || (h j).testBit k) := ⟨_, rfl⟩
      have HPA : Hid (∀ j, P j = (!s.testBit j || (h j).testBit k)) := fun j => by rw [HP.out]
      have HPH : Hid (hasI h n s k = allBQ P n) := by rw [HP.out]; rfl
      go_wp2_with fail
      have HH1 : Hid (GHeld wr w.heap.size n m a n cap (fun k => (h k : Nat))) := hH
      have HB1 : Hid (Below w.heap.size w wr) := hB
      clear hH hB k0 k1
      go_loopw [7, 8] (fun q i wy => ∃ j : Nat, j ≤ n ∧ i = .int .i64 j ∧ q = .bool (allBQ P j) ∧ Hid (GHeld wy w.heap.size n m a n cap (fun k => (h k : Nat))) ∧ Hid (Below w.heap.size w wy)) (fun _ i _ => n - (intOf i).toNat)
      case atStart => exact ⟨0, Nat.zero_le _, rfl, rfl, HH1, HB1⟩
      case round =>
        obtain ⟨j, hj, rfl, rfl, hH, hB⟩ := hrel
        clear HH1 HB1
        have k0 := hH.out.c0
        have k1 := hH.out.c1
        have k2 := hH.out.c2
        by_cases hjl : j < n
        · obtain ⟨b, off, rfl, hc⟩ := hH.out.row j hjl
          have hjl' : (j : Int) < (n : Int) := by omega
          have hl2 : h j < 1024 := HG.out j hjl
          have HS : Hid (allBQ P (j + 1) = (allBQ P j && P j)) := rfl
          rcases (Bool.eq_false_or_eq_true (allBQ P j)).symm with ha | ha
          · rw [ha]
            go_wp2_with fail
            go_roundw
            case rel => exact ⟨j + 1, by omega, by go_num, by rw [HS.out, ha]; rfl, hH, hB⟩
            case measure => simp [intOf]; omega
          · rw [ha]
            rcases (Bool.eq_false_or_eq_true (s.testBit j)).symm with hb | hb
            · have HQ : Hid (P j = true) := by rw [Hid, HPA.out, hb]; rfl
              go_wp2_with (go_at_call 12; refine (in_any s j _ (by omega) (by omega)).mono ?_; rintro e w' ⟨rfl, rfl⟩)
              go_roundw
              case rel => exact ⟨j + 1, by omega, by go_num, by rw [HS.out, ha, HQ.out]; rfl, hH, hB⟩
              case measure => simp [intOf]; omega
            · have HQ : Hid (P j = (h j).testBit k) := by rw [Hid, HPA.out, hb]; rfl
              go_wp2_with fail
              refine (in_any s j _ (by omega) (by omega)).mono ?_
              rintro e w' ⟨rfl, rfl⟩
              go_wp2_with fail
              refine (in_any (h j) k _ (by omega) (by omega)).mono ?_
              rintro e w' ⟨rfl, rfl⟩
              go_wp2_with fail
              go_roundw
              case rel => exact ⟨j + 1, by omega, by go_num, by rw [HS.out, ha, HQ.out]; simp, hH, hB⟩
              case measure => simp [intOf]; omega
        · obtain rfl : j = n := by omega
          have hl1 : setBy (hasI h j s) k < 1024 := Nat.lt_of_lt_of_le (setBy_lt _ k) (pw_le k (by omega))
          have hl3 := pw_le k (by omega)
          rcases (Bool.eq_false_or_eq_true (allBQ P j)).symm with ha | ha
          · have HE : Hid (setBy (hasI h j s) (k + 1) = setBy (hasI h j s) k) := setBy_no (by rw [HPH.out, ha])
            rw [ha]
            go_wp2_with fail
            go_roundw
            case rel => exact ⟨k + 1, by omega, by go_num, by rw [HE.out], hH, hB⟩
            case measure => simp [intOf]; omega
          · have HE : Hid (setBy (hasI h j s) (k + 1) = setBy (hasI h j s) k + pw k) := setBy_yes (by rw [HPH.out, ha])
            rw [ha]
            go_wp2_with (go_at_call 11; refine (bit_any k _ (by omega)).mono ?_; rintro e w' ⟨rfl, rfl⟩)
            go_roundw
            case rel => exact ⟨k + 1, by omega, by go_num, by rw [HE.out]; go_num, hH, hB⟩
            case measure => simp [intOf]; omega
    · have hkn : k = m := by omega
      subst hkn
      go_wp2
      go_ret
      exact ⟨rfl, hB.out⟩
end Go.Proofs.YtgjdpgjaaaeglaaDoor
