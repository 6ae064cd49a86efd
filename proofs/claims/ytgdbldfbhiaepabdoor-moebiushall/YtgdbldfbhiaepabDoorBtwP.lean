/-
  What hasselaw.between answers. Conditions: an order of at most ten points that lies in a slice of numbers.
-/
import Derived.Test.YtgdbldfbhiaepabDoorHalM
import Derived.Test.YtgdbldfbhiaepabDoorRefCheck
namespace Go.Proofs.YtgdbldfbhiaepabDoor
open Go.RowKit

theorem less_is (n : Int) (a : Option Addr) (len cap : Nat) (g : Nat → Nat) (i j : Nat) (b : Bool) (w : World) (hb : blw g i j = b) (hl : len ≤ 10) (hg : ∀ k, k < len → g k < 1024) (hr : Row w a len (fun k => (g k : Nat))) (hi : i < 63) (hj : j < len) :
    Calls Tryd.prog 7 #[.agg #[.int .i64 n, .slice a len cap], .int .i64 i, .int .i64 j] w fun e w' => e = .returned (.bool b) ∧ Below w.heap.size w w' := by
  rw [← hb]; exact less_any n a len cap g i j w hl hg hr hi hj
theorem sum_small {x k n : Nat} (hx : x < pw k) (hk : k < n) (hn : n ≤ 10) : x + pw k < 1024 := by
  have h1 : pw (k + 1) ≤ pw n := Nat.pow_le_pow_right (by decide) (by omega)
  have h2 := pw_le n hn
  have h3 := pw_succ k
  omega
set_option maxHeartbeats 2000000 in
theorem between_any (n : Nat) (a : Option Addr) (cap : Nat) (g : Nat → Nat) (x y : Nat) (w : World) (h10 : n ≤ 10) (hg : ∀ k, k < n → g k < 1024) (hr : Row w a n (fun k => (g k : Nat))) (hx : x < n) (hy : y < n) :
    Calls Tryd.prog 9 #[.agg #[.int .i64 (n : Nat), .slice a n cap], .int .i64 (x : Nat), .int .i64 (y : Nat)] w fun e w' => e = .returned (.int .i64 (btw g n x y : Nat)) ∧ Below w.heap.size w w' := by
  have K0 : Held (w.alloc (.cells #[.int .i64 (n : Int), .slice a n cap] 24)) w.heap.size n a n cap (fun k => (g k : Nat)) := Held.box hr
  have HB0 : Hid (Below w.heap.size w (w.alloc (.cells #[.int .i64 (n : Int), .slice a n cap] 24))) := (Below.refl _ _).alloc (Nat.le_refl _) _
  have HG : Hid (∀ k, k < n → g k < 1024) := hg
  clear hr hg
  go_enter Tryd.func9, Tryd.ntmps9
  go_wp2_with fail
  go_loopw [7, 8] (fun v i wx => ∃ k : Nat, k ≤ n ∧ i = .int .i64 k ∧ v = .int .i64 (setBy (fun c => blw g x c && blw g c y) k : Nat) ∧ Held wx w.heap.size n a n cap (fun k => (g k : Nat)) ∧ Hid (Below w.heap.size w wx)) (fun _ i _ => n - (intOf i).toNat)
  case atStart => exact ⟨0, Nat.zero_le _, rfl, rfl, K0, HB0.out⟩
  case round =>
    clear K0 HB0
    obtain ⟨k, hk, rfl, rfl, hH, hB⟩ := hrel
    have c0 := hH.c0
    have c1 := hH.c1
    by_cases hkn : k < n
    · have hlt : (k : Int) < (n : Int) := by omega
      cases h1 : blw g x k
      · have HY : Hid (setBy (fun c => blw g x c && blw g c y) (k + 1) = setBy (fun c => blw g x c && blw g c y) k) := setBy_no (P := fun c => blw g x c && blw g c y) (by simp [h1])
        go_wp2_with fail
        refine (less_is n a n cap g x k _ _ h1 h10 HG.out hH.row (by omega) hkn).mono ?_
        rintro e w2 ⟨rfl, hb2⟩
        have HH : Hid (Held w2 w.heap.size n a n cap (fun k => (g k : Nat))) := hH.step hb2
        have HB2 : Hid (Below w.heap.size w w2) := Below.then hB.out hb2
        clear hb2 hH hB c0 c1 h1
        go_wp2_with fail
        go_roundw
        case rel => exact ⟨k + 1, by omega, by go_num, by rw [HY.out], HH.out, HB2⟩
        case measure => simp [intOf]; omega
      · go_wp2_with fail
        refine (less_is n a n cap g x k _ _ h1 h10 HG.out hH.row (by omega) hkn).mono ?_
        rintro e w2 ⟨rfl, hb2⟩
        have hH2 := hH.step hb2
        have HB2 : Hid (Below w.heap.size w w2) := Below.then hB.out hb2
        have d0 := hH2.c0
        have d1 := hH2.c1
        have HX1 : Hid (blw g x k = true) := h1
        clear hb2 hH hB c0 c1 h1
        cases h2 : blw g k y
        · have HY : Hid (setBy (fun c => blw g x c && blw g c y) (k + 1) = setBy (fun c => blw g x c && blw g c y) k) := setBy_no (P := fun c => blw g x c && blw g c y) (by simp [h2])
          go_wp2_with fail
          refine (less_is n a n cap g k y _ _ h2 h10 HG.out hH2.row (by omega) hy).mono ?_
          rintro e w3 ⟨rfl, hb3⟩
          have HH : Hid (Held w3 w.heap.size n a n cap (fun k => (g k : Nat))) := hH2.step hb3
          have HB3 : Hid (Below w.heap.size w w3) := Below.then HB2.out hb3
          clear hb3 hH2 HB2 d0 d1 h2
          go_wp2_with fail
          go_roundw
          case rel => exact ⟨k + 1, by omega, by go_num, by rw [HY.out], HH.out, HB3⟩
          case measure => simp [intOf]; omega
        · have HY : Hid (setBy (fun c => blw g x c && blw g c y) (k + 1) = setBy (fun c => blw g x c && blw g c y) k + pw k) := setBy_yes (P := fun c => blw g x c && blw g c y) (by have := HX1.out; simp [h2, this])
          have hs := setBy_lt (fun c => blw g x c && blw g c y) k
          have hss := sum_small hs hkn h10
          go_wp2_with fail
          refine (less_is n a n cap g k y _ _ h2 h10 HG.out hH2.row (by omega) hy).mono ?_
          rintro e w3 ⟨rfl, hb3⟩
          have HH : Hid (Held w3 w.heap.size n a n cap (fun k => (g k : Nat))) := hH2.step hb3
          have HB3 : Hid (Below w.heap.size w w3) := Below.then HB2.out hb3
          clear hb3 hH2 HB2 d0 d1 h2
          generalize setBy (fun c => blw g x c && blw g c y) k = Z at *
          go_wp2_with (go_at_call 24; refine (bit_quiet k _ (by omega)).mono ?_; rintro e w' ⟨rfl, rfl⟩)
          go_roundw
          case rel => exact ⟨k + 1, by omega, by go_num, by rw [HY.out]; go_num, HH.out, HB3⟩
          case measure => simp [intOf]; omega
    · obtain rfl : k = n := by omega
      go_wp2_with fail
      go_ret
      exact ⟨rfl, hB.out⟩
end Go.Proofs.YtgdbldfbhiaepabDoor
