/-
  What the reference's Size, Apart and IsChain answer. Conditions: an order of at most ten points that lies in a slice of numbers; sets of so many points.
-/
import Derived.Test.YtncjlfhgenmheaaDoorChains
namespace Go.Proofs.YtncjlfhgenmheaaDoor
open Go.RowKit

theorem refSize_any (s : Nat) (w : World) (hs : s < 1024) :
    Calls Tryd.prog 51 #[.int .i64 s] w fun e w' => e = .returned (.int .i64 (pc s : Nat)) ∧ w = w' := by
  go_enter Tryd.func51, Tryd.ntmps51
  go_wp2
  go_loop [0, 3] (fun t x => ∃ k : Nat, k ≤ 10 ∧ t = .int .i64 (hv s k : Nat) ∧ x = .int .i64 (pcn s k : Nat)) (fun t _ => (intOf t).toNat)
  case atStart => exact ⟨0, Nat.zero_le _, by rw [hv_zero], rfl⟩
  case round =>
    obtain ⟨k, hk, rfl, rfl⟩ := hrel
    have hl := hv_le s k
    have hp := pcn_le s k
    by_cases hz : hv s k = 0
    · have HE : Hid (pc s = pcn s k) := by
        have e := pcn_stop (hv_zero_bits hz) (10 - k)
        rw [show k + (10 - k) = 10 by omega] at e
        exact e
      have hz' : ((hv s k : Nat) : Int) ≤ 0 := by omega
      clear hz
      generalize hv s k = V at *
      go_wp2
      go_ret
      exact ⟨ret_int (congrArg Int.ofNat HE.out.symm), rfl⟩
    · have hpos : (0 : Int) < ((hv s k : Nat) : Int) := by omega
      have hk10 : k < 10 := by
        rcases Nat.lt_or_ge k 10 with h1 | h1
        · exact h1
        · exact absurd (hv_big hs h1) hz
      have HS : Hid (hv s (k + 1) = hv s k / 2) := hv_succ s k
      have HP : Hid (pcn s (k + 1) = pcn s k + hv s k % 2) := pcn_step s k
      generalize hv s k = V at *
      generalize pcn s k = P at *
      go_wp2
      go_round
      case rel => exact ⟨k + 1, by omega, by rw [HS.out]; simp, by rw [HP.out]; go_num⟩
      case measure => simp [intOf]; omega
theorem in_as (s p : Nat) (w : World) (b : Bool) (h : s.testBit p = b) (hs : s < 9223372036854775808) (hp : p < 63) :
    Calls Tryd.prog 43 #[.int .i64 s, .int .i64 p] w fun e w' => e = .returned (.bool b) ∧ w = w' := by
  rw [← h]; exact in_any s p w hs hp
theorem less_as (n : Int) (a : Option Addr) (len cap : Nat) (g : Nat → Nat) (i j : Nat) (b : Bool) (w : World) (hb : (g j).testBit i = b) (hl : len ≤ 10) (hg : ∀ k, k < len → g k < 1024) (hr : Row w a len (fun k => (g k : Nat))) (hi : i < 63) (hj : j < len) :
    Calls Tryd.prog 27 #[.agg #[.int .i64 n, .slice a len cap], .int .i64 i, .int .i64 j] w fun e w' => e = .returned (.bool b) ∧ Below w.heap.size w w' := by
  rw [← hb]; exact less_any n a len cap g i j w hl hg hr hi hj
/-- Is neither of two points below the other one? -/
def apB (g : Nat → Nat) (i k : Nat) : Bool := !(g k).testBit i && !(g i).testBit k
set_option maxHeartbeats 1000000 in
theorem apart_any (n : Nat) (a : Option Addr) (cap : Nat) (g : Nat → Nat) (i k : Nat) (w : World) (h10 : n ≤ 10) (hg : ∀ j, j < n → g j < 1024) (hr : Row w a n (fun k => (g k : Nat))) (hi : i < n) (hk : k < n) (hne : i ≠ k) :
    Calls Tryd.prog 58 #[.agg #[.int .i64 (n : Int), .slice a n cap], .int .i64 i, .int .i64 k] w fun e w' => e = .returned (.bool (apB g i k)) ∧ Below w.heap.size w w' := by
  have K0 : Held (w.alloc (.cells #[.int .i64 (n : Int), .slice a n cap] 24)) w.heap.size n a n cap (fun k => (g k : Nat)) := Held.box hr
  have HB0 : Hid (Below w.heap.size w (w.alloc (.cells #[.int .i64 (n : Int), .slice a n cap] 24))) := (Below.refl _ _).alloc (Nat.le_refl _) _
  have HG : Hid (∀ j, j < n → g j < 1024) := hg
  have hq : ((i : Int) != (k : Int)) = true := by simp; omega
  clear hr hg
  rcases (Bool.eq_false_or_eq_true ((g k).testBit i)).symm with hb1 | hb1
  · rcases (Bool.eq_false_or_eq_true ((g i).testBit k)).symm with hb2 | hb2
    · have HE : Hid (apB g i k = true) := by simp [apB, hb1, hb2, Hid]
      go_enter Tryd.func58, Tryd.ntmps58
      go_wp2_with fail
      refine (less_as n a n cap g i k false _ hb1 h10 HG.out K0.row (by omega) hk).mono ?_
      rintro e w1 ⟨rfl, h1⟩
      have K1 := K0.step h1
      have d0 := K1.c0
      have d1 := K1.c1
      have HB1 : Hid (Below w.heap.size w w1) := Below.then HB0.out h1
      clear h1 K0 HB0
      go_wp2_with fail
      refine (less_as n a n cap g k i false _ hb2 h10 HG.out K1.row (by omega) hi).mono ?_
      rintro e w2 ⟨rfl, h2⟩
      have HB2 : Hid (Below w.heap.size w w2) := Below.then HB1.out h2
      clear h2 K1 HB1
      go_wp2_with fail
      go_ret
      exact ⟨ret_bool HE.out.symm, HB2.out⟩
    · have HE : Hid (apB g i k = false) := by simp [apB, hb2, Hid]
      go_enter Tryd.func58, Tryd.ntmps58
      go_wp2_with fail
      refine (less_as n a n cap g i k false _ hb1 h10 HG.out K0.row (by omega) hk).mono ?_
      rintro e w1 ⟨rfl, h1⟩
      have K1 := K0.step h1
      have d0 := K1.c0
      have d1 := K1.c1
      have HB1 : Hid (Below w.heap.size w w1) := Below.then HB0.out h1
      clear h1 K0 HB0
      go_wp2_with fail
      refine (less_as n a n cap g k i true _ hb2 h10 HG.out K1.row (by omega) hi).mono ?_
      rintro e w2 ⟨rfl, h2⟩
      have HB2 : Hid (Below w.heap.size w w2) := Below.then HB1.out h2
      clear h2 K1 HB1
      go_wp2_with fail
      go_ret
      exact ⟨ret_bool HE.out.symm, HB2.out⟩
  · have HE : Hid (apB g i k = false) := by simp [apB, hb1, Hid]
    go_enter Tryd.func58, Tryd.ntmps58
    go_wp2_with fail
    refine (less_as n a n cap g i k true _ hb1 h10 HG.out K0.row (by omega) hk).mono ?_
    rintro e w1 ⟨rfl, h1⟩
    have HB1 : Hid (Below w.heap.size w w1) := Below.then HB0.out h1
    clear h1 K0 HB0
    go_wp2_with fail
    go_ret
    exact ⟨ret_bool HE.out.symm, HB1.out⟩

/-- What holds of the pair i, k of a chain. -/
def okP (g : Nat → Nat) (S i k : Nat) : Prop := S.testBit i = true → S.testBit k = true → (g k).testBit i = true ∨ (g i).testBit k = true
theorem okP_no1 {g : Nat → Nat} {S i k : Nat} (h : S.testBit i = false) : okP g S i k := fun h1 => by rw [h] at h1; cases h1
theorem okP_no2 {g : Nat → Nat} {S i k : Nat} (h : S.testBit k = false) : okP g S i k := fun _ h1 => by rw [h] at h1; cases h1
theorem okP_ap {g : Nat → Nat} {S i k : Nat} (h : apB g i k = false) : okP g S i k := fun _ _ => by
  unfold apB at h
  cases h1 : (g k).testBit i
  · cases h2 : (g i).testBit k
    · rw [h1, h2] at h; cases h
    · exact .inr rfl
  · exact .inl rfl
theorem apart_as (n : Nat) (a : Option Addr) (cap : Nat) (g : Nat → Nat) (i k : Nat) (b : Bool) (w : World) (hb : apB g i k = b) (h10 : n ≤ 10) (hg : ∀ j, j < n → g j < 1024) (hr : Row w a n (fun k => (g k : Nat))) (hi : i < n) (hk : k < n) (hne : i ≠ k) :
    Calls Tryd.prog 58 #[.agg #[.int .i64 (n : Int), .slice a n cap], .int .i64 i, .int .i64 k] w fun e w' => e = .returned (.bool b) ∧ Below w.heap.size w w' := by
  rw [← hb]; exact apart_any n a cap g i k w h10 hg hr hi hk hne

set_option maxHeartbeats 1000000 in
theorem isChain_any (n : Nat) (a : Option Addr) (cap : Nat) (g : Nat → Nat) (S : Nat) (w : World) (h10 : n ≤ 10) (hg : ∀ j, j < n → g j < 1024) (hr : Row w a n (fun k => (g k : Nat))) (hS : S < 1024) :
    Calls Tryd.prog 50 #[.agg #[.int .i64 (n : Int), .slice a n cap], .int .i64 S] w fun e w' => e = .returned (.bool (chB g n S)) ∧ Below w.heap.size w w' := by
  have K0 : Held (w.alloc (.cells #[.int .i64 (n : Int), .slice a n cap] 24)) w.heap.size n a n cap (fun k => (g k : Nat)) := Held.box hr
  have HB0 : Hid (Below w.heap.size w (w.alloc (.cells #[.int .i64 (n : Int), .slice a n cap] 24))) := (Below.refl _ _).alloc (Nat.le_refl _) _
  have HG : Hid (∀ j, j < n → g j < 1024) := hg
  have HYES : Hid ((∀ i, i < n → ∀ k, k < i → okP g S i k) → chB g n S = true) := fun h => (chB_iff g n S).2 h
  have HNO : Hid (∀ i k, i < n → k < i → S.testBit i = true → S.testBit k = true → apB g i k = true → chB g n S = false) := fun i k hi hk h1 h2 h3 => by
    cases h : chB g n S
    · rfl
    · rcases (chB_iff g n S).1 h i hi k hk h1 h2 with h4 | h4 <;> simp [apB, h4] at h3
  clear hr hg
  generalize chB g n S = B at *
  go_enter Tryd.func50, Tryd.ntmps50
  go_wp2_with fail
  go_loopw [5] (fun x wx => ∃ i : Nat, i ≤ n ∧ x = .int .i64 i ∧ Hid (∀ j, j < i → ∀ k, k < j → okP g S j k) ∧ Held wx w.heap.size n a n cap (fun k => (g k : Nat)) ∧ Hid (Below w.heap.size w wx)) (fun x _ => n - (intOf x).toNat)
  case atStart => exact ⟨0, Nat.zero_le _, rfl, upto_zero, K0, HB0.out⟩
  case round =>
    clear K0 HB0
    obtain ⟨i, hi, rfl, hok, hH, hB⟩ := hrel
    have c0 := hH.c0
    by_cases hin : i < n
    · have hlt : (i : Int) < (n : Int) := by omega
      have HH : Hid (Held wr w.heap.size n a n cap (fun k => (g k : Nat))) := hH
      clear hH
      go_wp2_with fail
      clear c0
      go_loopw [6] (fun x wx => ∃ k : Nat, k ≤ i ∧ x = .int .i64 k ∧ Hid (∀ j, j < k → okP g S i j) ∧ Held wx w.heap.size n a n cap (fun k => (g k : Nat)) ∧ Hid (Below w.heap.size w wx)) (fun x _ => i - (intOf x).toNat)
      case atStart => exact ⟨0, Nat.zero_le _, rfl, upto_zero, HH.out, hB.out⟩
      case round =>
        clear HH hB
        obtain ⟨k, hk, rfl, hok2, hH, hB⟩ := hrel
        have c0 := hH.c0
        have c1 := hH.c1
        by_cases hki : k < i
        · have hlt2 : (k : Int) < (i : Int) := by omega
          rcases (Bool.eq_false_or_eq_true (S.testBit i)).symm with hb1 | hb1
          · have HY : Hid (okP g S i k) := okP_no1 hb1
            go_wp2_with (go_at_call 43; refine (in_as _ _ _ _ hb1 (by omega) (by omega)).mono ?_; rintro e w' ⟨rfl, rfl⟩)
            go_roundw
            case rel => exact ⟨k + 1, by omega, by go_num, upto_succ hok2.out HY.out, hH, hB.out⟩
            case measure => simp [intOf]; omega
          · rcases (Bool.eq_false_or_eq_true (S.testBit k)).symm with hb2 | hb2
            · have HY : Hid (okP g S i k) := okP_no2 hb2
              go_wp2_with (first
              | (go_at_call_of 43 (Value.int IntKind.i64 (i : Int)); refine (in_as _ _ _ _ hb1 (by omega) (by omega)).mono ?_; rintro e w' ⟨rfl, rfl⟩)
              | (go_at_call_of 43 (Value.int IntKind.i64 (k : Int)); refine (in_as _ _ _ _ hb2 (by omega) (by omega)).mono ?_; rintro e w' ⟨rfl, rfl⟩))
              go_roundw
              case rel => exact ⟨k + 1, by omega, by go_num, upto_succ hok2.out HY.out, hH, hB.out⟩
              case measure => simp [intOf]; omega
            · rcases (Bool.eq_false_or_eq_true (apB g i k)).symm with hb3 | hb3
              · have HY : Hid (okP g S i k) := okP_ap hb3
                go_wp2_with (first
              | (go_at_call_of 43 (Value.int IntKind.i64 (i : Int)); refine (in_as _ _ _ _ hb1 (by omega) (by omega)).mono ?_; rintro e w' ⟨rfl, rfl⟩)
              | (go_at_call_of 43 (Value.int IntKind.i64 (k : Int)); refine (in_as _ _ _ _ hb2 (by omega) (by omega)).mono ?_; rintro e w' ⟨rfl, rfl⟩))
                refine (apart_as n a cap g i k false _ hb3 h10 HG.out hH.row hin (by omega) (by omega)).mono ?_
                rintro e w1 ⟨rfl, h1⟩
                have H1 := hH.step h1
                have HB1 : Hid (Below w.heap.size w w1) := Below.then hB.out h1
                clear h1 hH hB c0 c1
                go_wp2_with fail
                go_roundw
                case rel => exact ⟨k + 1, by omega, by go_num, upto_succ hok2.out HY.out, H1, HB1.out⟩
                case measure => simp [intOf]; omega
              · have HY : Hid (B = false) := HNO.out i k hin hki hb1 hb2 hb3
                go_wp2_with (first
              | (go_at_call_of 43 (Value.int IntKind.i64 (i : Int)); refine (in_as _ _ _ _ hb1 (by omega) (by omega)).mono ?_; rintro e w' ⟨rfl, rfl⟩)
              | (go_at_call_of 43 (Value.int IntKind.i64 (k : Int)); refine (in_as _ _ _ _ hb2 (by omega) (by omega)).mono ?_; rintro e w' ⟨rfl, rfl⟩))
                refine (apart_as n a cap g i k true _ hb3 h10 HG.out hH.row hin (by omega) (by omega)).mono ?_
                rintro e w1 ⟨rfl, h1⟩
                have HB1 : Hid (Below w.heap.size w w1) := Below.then hB.out h1
                clear h1 hH hB c0 c1
                go_wp2_with fail
                go_ret
                exact ⟨ret_bool HY.out.symm, HB1.out⟩
        · have hge : (i : Int) ≤ (k : Int) := by omega
          have HYY : Hid (∀ j, j < i → okP g S i j) := fun j hj => hok2.out j (by omega)
          clear c0 c1
          go_wp2_with fail
          go_roundw
          case rel => exact ⟨i + 1, by omega, by go_num, upto_succ hok.out HYY.out, hH, hB.out⟩
          case measure => simp [intOf]; omega
    · have HYY : Hid (B = true) := HYES.out (fun j hj => hok.out j (by omega))
      have hge : (n : Int) ≤ (i : Int) := by omega
      go_wp2_with fail
      go_ret
      exact ⟨ret_bool HYY.out.symm, hB.out⟩
end Go.Proofs.YtncjlfhgenmheaaDoor
