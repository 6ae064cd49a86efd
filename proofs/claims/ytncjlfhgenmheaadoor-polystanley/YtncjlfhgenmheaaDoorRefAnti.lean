/-
  What the reference's IsAnti and poly.isApart answer. Conditions: an order of at most ten points that lies in a slice of numbers; sets of at most ten points; the table of the least bits.
-/
import Derived.Test.YtncjlfhgenmheaaDoorRefChain
import Derived.Test.YtncjlfhgenmheaaDoorMemN
namespace Go.Proofs.YtncjlfhgenmheaaDoor
open Go.RowKit

/-- Is no point of S below another one of it? -/
def antB (g : Nat → Nat) (n S : Nat) : Bool := decide (∀ i, i < n → ∀ k, k < n → S.testBit i = true → S.testBit k = true → (g k).testBit i = false)
theorem antB_iff (g : Nat → Nat) (n S : Nat) : antB g n S = true ↔ ∀ i, i < n → ∀ k, k < n → S.testBit i = true → S.testBit k = true → (g k).testBit i = false := by unfold antB; exact decide_eq_true_iff
def anP (g : Nat → Nat) (S i k : Nat) : Prop := S.testBit i = true → S.testBit k = true → (g k).testBit i = false
theorem anP_no1 {g : Nat → Nat} {S i k : Nat} (h : S.testBit i = false) : anP g S i k := fun h1 => by rw [h] at h1; cases h1
theorem anP_no2 {g : Nat → Nat} {S i k : Nat} (h : S.testBit k = false) : anP g S i k := fun _ h1 => by rw [h] at h1; cases h1
theorem anP_ls {g : Nat → Nat} {S i k : Nat} (h : (g k).testBit i = false) : anP g S i k := fun _ _ => h
set_option maxHeartbeats 1000000 in
theorem isAnti_any (n : Nat) (a : Option Addr) (cap : Nat) (g : Nat → Nat) (S : Nat) (w : World) (h10 : n ≤ 10) (hg : ∀ j, j < n → g j < 1024) (hr : Row w a n (fun k => (g k : Nat))) (hS : S < 1024) :
    Calls Tryd.prog 36 #[.agg #[.int .i64 (n : Int), .slice a n cap], .int .i64 S] w fun e w' => e = .returned (.bool (antB g n S)) ∧ Below w.heap.size w w' := by
  have K0 : Held (w.alloc (.cells #[.int .i64 (n : Int), .slice a n cap] 24)) w.heap.size n a n cap (fun k => (g k : Nat)) := Held.box hr
  have HB0 : Hid (Below w.heap.size w (w.alloc (.cells #[.int .i64 (n : Int), .slice a n cap] 24))) := (Below.refl _ _).alloc (Nat.le_refl _) _
  have HG : Hid (∀ j, j < n → g j < 1024) := hg
  have HYES : Hid ((∀ i, i < n → ∀ k, k < n → anP g S i k) → antB g n S = true) := fun h => (antB_iff g n S).2 h
  have HNO : Hid (∀ i k, i < n → k < n → S.testBit i = true → S.testBit k = true → (g k).testBit i = true → antB g n S = false) := fun i k hi hk h1 h2 h3 => by
    cases h : antB g n S
    · rfl
    · have := (antB_iff g n S).1 h i hi k hk h1 h2
      rw [h3] at this; cases this
  clear hr hg
  generalize antB g n S = B at *
  go_enter Tryd.func36, Tryd.ntmps36
  go_wp2_with fail
  go_loopw [5] (fun x wx => ∃ i : Nat, i ≤ n ∧ x = .int .i64 i ∧ Hid (∀ j, j < i → ∀ k, k < n → anP g S j k) ∧ Held wx w.heap.size n a n cap (fun k => (g k : Nat)) ∧ Hid (Below w.heap.size w wx)) (fun x _ => n - (intOf x).toNat)
  case atStart => exact ⟨0, Nat.zero_le _, rfl, upto_zero, K0, HB0.out⟩
  case round =>
    clear K0 HB0
    obtain ⟨i, hi, rfl, hok, hH, hB⟩ := hrel
    have c0 := hH.c0
    by_cases hin : i < n
    · have hlt : (i : Int) < (n : Int) := by omega
      have HH : Hid (Held wr w.heap.size n a n cap (fun k => (g k : Nat))) := hH
      clear hH
      go_wp2_with fail
      clear c0
      go_loopw [6] (fun x wx => ∃ k : Nat, k ≤ n ∧ x = .int .i64 k ∧ Hid (∀ j, j < k → anP g S i j) ∧ Held wx w.heap.size n a n cap (fun k => (g k : Nat)) ∧ Hid (Below w.heap.size w wx)) (fun x _ => n - (intOf x).toNat)
      case atStart => exact ⟨0, Nat.zero_le _, rfl, upto_zero, HH.out, hB.out⟩
      case round =>
        clear HH hB
        obtain ⟨k, hk, rfl, hok2, hH, hB⟩ := hrel
        have c0 := hH.c0
        have c1 := hH.c1
        by_cases hki : k < n
        · have hlt2 : (k : Int) < (n : Int) := by omega
          rcases (Bool.eq_false_or_eq_true (S.testBit i)).symm with hb1 | hb1
          · have HY : Hid (anP g S i k) := anP_no1 hb1
            go_wp2_with (go_at_call 43; refine (in_as _ _ _ _ hb1 (by omega) (by omega)).mono ?_; rintro e w' ⟨rfl, rfl⟩)
            go_roundw
            case rel => exact ⟨k + 1, by omega, by go_num, upto_succ hok2.out HY.out, hH, hB.out⟩
            case measure => simp [intOf]; omega
          · rcases (Bool.eq_false_or_eq_true (S.testBit k)).symm with hb2 | hb2
            · have HY : Hid (anP g S i k) := anP_no2 hb2
              go_wp2_with (first
              | (go_at_call_of 43 (Value.int IntKind.i64 (i : Int)); refine (in_as _ _ _ _ hb1 (by omega) (by omega)).mono ?_; rintro e w' ⟨rfl, rfl⟩)
              | (go_at_call_of 43 (Value.int IntKind.i64 (k : Int)); refine (in_as _ _ _ _ hb2 (by omega) (by omega)).mono ?_; rintro e w' ⟨rfl, rfl⟩))
              go_roundw
              case rel => exact ⟨k + 1, by omega, by go_num, upto_succ hok2.out HY.out, hH, hB.out⟩
              case measure => simp [intOf]; omega
            · rcases (Bool.eq_false_or_eq_true ((g k).testBit i)).symm with hb3 | hb3
              · have HY : Hid (anP g S i k) := anP_ls hb3
                go_wp2_with (first
              | (go_at_call_of 43 (Value.int IntKind.i64 (i : Int)); refine (in_as _ _ _ _ hb1 (by omega) (by omega)).mono ?_; rintro e w' ⟨rfl, rfl⟩)
              | (go_at_call_of 43 (Value.int IntKind.i64 (k : Int)); refine (in_as _ _ _ _ hb2 (by omega) (by omega)).mono ?_; rintro e w' ⟨rfl, rfl⟩))
                refine (less_as n a n cap g i k false _ hb3 h10 HG.out hH.row (by omega) hki).mono ?_
                rintro e w1 ⟨rfl, h1⟩
                have H1 := hH.step h1
                have HB1 : Hid (Below w.heap.size w w1) := Below.then hB.out h1
                clear h1 hH hB c0 c1
                go_wp2_with fail
                go_roundw
                case rel => exact ⟨k + 1, by omega, by go_num, upto_succ hok2.out HY.out, H1, HB1.out⟩
                case measure => simp [intOf]; omega
              · have HY : Hid (B = false) := HNO.out i k hin hki hb1 hb2 hb3
                go_wp2_with (first
              | (go_at_call_of 43 (Value.int IntKind.i64 (i : Int)); refine (in_as _ _ _ _ hb1 (by omega) (by omega)).mono ?_; rintro e w' ⟨rfl, rfl⟩)
              | (go_at_call_of 43 (Value.int IntKind.i64 (k : Int)); refine (in_as _ _ _ _ hb2 (by omega) (by omega)).mono ?_; rintro e w' ⟨rfl, rfl⟩))
                refine (less_as n a n cap g i k true _ hb3 h10 HG.out hH.row (by omega) hki).mono ?_
                rintro e w1 ⟨rfl, h1⟩
                have HB1 : Hid (Below w.heap.size w w1) := Below.then hB.out h1
                clear h1 hH hB c0 c1
                go_wp2_with fail
                go_ret
                exact ⟨ret_bool HY.out.symm, HB1.out⟩
        · have hge : (n : Int) ≤ (k : Int) := by omega
          have HYY : Hid (∀ j, j < n → anP g S i j) := fun j hj => hok2.out j (by omega)
          clear c1
          go_wp2_with fail
          go_roundw
          case rel => exact ⟨i + 1, by omega, by go_num, upto_succ hok.out HYY.out, hH, hB.out⟩
          case measure => simp [intOf]; omega
    · have HYY : Hid (B = true) := HYES.out (fun j hj => hok.out j (by omega))
      have hge : (n : Int) ≤ (i : Int) := by omega
      go_wp2_with fail
      go_ret
      exact ⟨ret_bool HYY.out.symm, hB.out⟩
theorem isAnti_as (n : Nat) (a : Option Addr) (cap : Nat) (g : Nat → Nat) (S : Nat) (v : Bool) (w : World) (hv : antB g n S = v) (h10 : n ≤ 10) (hg : ∀ j, j < n → g j < 1024) (hr : Row w a n (fun k => (g k : Nat))) (hS : S < 1024) :
    Calls Tryd.prog 36 #[.agg #[.int .i64 (n : Int), .slice a n cap], .int .i64 S] w fun e w' => e = .returned (.bool v) ∧ Below w.heap.size w w' :=
  (isAnti_any n a cap g S w h10 hg hr hS).mono fun _ _ ⟨h1, h2⟩ => ⟨by rw [← hv]; exact h1, h2⟩
end Go.Proofs.YtncjlfhgenmheaaDoor
