/-
  What the reference's Upto, Bound and CutsOf answer. Conditions: an order of at most ten points.
-/
import Derived.Deep.RegionHeld3
import Derived.Test.YtkcogfjlpbfckaaCutsP
import Derived.Test.YtkcogfjlpbfckaaRefCheck
namespace Go.Proofs.Ytkcogfjlpbfckaa
open Go.RowKit

theorem bnA_keep {g : Nat → Nat} {s : Nat} {up : Bool} {i k : Nat} (h : bnT g s up i k = false) : bnA g s up i (k + 1) = bnA g s up i k := by
  show (allB _ k && !(bnT g s up i k)) = allB _ k
  rw [h]; exact Bool.and_true _
theorem bnA_drop {g : Nat → Nat} {s : Nat} {up : Bool} {i k : Nat} (h : bnT g s up i k = true) : bnA g s up i (k + 1) = false := by
  show (allB _ k && !(bnT g s up i k)) = false
  rw [h]; exact Bool.and_false _
set_option maxHeartbeats 1000000 in
theorem rUpto_any (n : Int) (a : Option Addr) (len cap : Nat) (g : Nat → Nat) (i j : Nat) (w : World) (v : Bool) (hv : upt g i j = v) (hl : len ≤ 10) (hg : ∀ k, k < len → g k < 1024) (hr : Row w a len (fun k => (g k : Nat))) (hi : i < 63) (hj : j < len) :
    Calls Try.prog 23 #[.agg #[.int .i64 n, .slice a len cap], .int .i64 i, .int .i64 j] w fun e w' => e = .returned (.bool v) ∧ Below w.heap.size w w' := by
  have HG : Hid (∀ k, k < len → g k < 1024) := hg
  have HR : Hid (Row w a len (fun k => (g k : Nat))) := hr
  clear hg hr
  by_cases hij : i = j
  · subst hij
    have hvt : v = true := by rw [← hv]; simp [upt]
    subst hvt
    clear hv
    go_enter Try.func23, Try.ntmps23
    go_wp2_with fail
    go_ret
    exact ⟨rfl, (Below.refl _ _).alloc (Nat.le_refl _) _⟩
  · have hne : ((i : Int) == (j : Int)) = false := by simp; omega
    have HV : Hid ((g j).testBit i = v) := by
      have e : upt g i j = (g j).testBit i := by simp [upt, hij]
      exact e.symm.trans hv
    clear hv
    go_enter Try.func23, Try.ntmps23
    go_wp2_with fail
    refine (less_any n a len cap g i j _ hl HG.out (HR.out.below ((Below.refl _ _).alloc (Nat.le_refl _) _)) hi hj).mono ?_
    rintro e w1 ⟨rfl, hb⟩
    rw [HV.out]
    have HB : Hid (Below w.heap.size w w1) := Below.then ((Below.refl _ _).alloc (Nat.le_refl _) _) hb
    clear hb
    go_wp2_with fail
    go_ret
    exact ⟨rfl, HB.out⟩

set_option maxHeartbeats 4000000 in
theorem bound_any (a : Option Addr) (n cap : Nat) (g : Nat → Nat) (s : Nat) (up : Bool) (w : World) (h10 : n ≤ 10) (hg : ∀ k, k < n → g k < 1024) (hr : Row w a n (fun k => (g k : Nat))) (hs : s < 1024) :
    Calls Try.prog 11 #[.agg #[.int .i64 (n : Int), .slice a n cap], .int .i64 (s : Nat), .bool up] w fun e w' => e = .returned (.int .i64 (bnd g n s up : Nat)) ∧ Below w.heap.size w w' := by
  have HG : Hid (∀ k, k < n → g k < 1024) := hg
  have K0 : Hid (Held (w.alloc (.cells #[.int .i64 (n : Int), .slice a n cap] 24)) w.heap.size n a n cap (fun k => (g k : Nat))) := Held.box hr
  have HB0 : Hid (Below w.heap.size w (w.alloc (.cells #[.int .i64 (n : Int), .slice a n cap] 24))) := (Below.refl _ _).alloc (Nat.le_refl _) _
  clear hr hg
  go_enter Try.func11, Try.ntmps11
  go_wp2_with fail
  go_loopw [7, 8] (fun p i wx => ∃ k : Nat, k ≤ n ∧ i = .int .i64 k ∧ p = .int .i64 (setBy (fun i => bnA g s up i n) k : Nat) ∧ Hid (Held wx w.heap.size n a n cap (fun k => (g k : Nat))) ∧ Hid (Below w.heap.size w wx)) (fun _ i _ => n - (intOf i).toNat)
  case atStart => exact ⟨0, Nat.zero_le _, rfl, rfl, K0, HB0⟩
  case round =>
    obtain ⟨i, hi, rfl, rfl, hH, hB⟩ := hrel
    clear K0 HB0
    have k0 := hH.out.c0
    have k1 := hH.out.c1
    by_cases hlt : i < n
    · go_wp2_with fail
      clear k0 k1
      have hP : setBy (fun i => bnA g s up i n) i < 1024 := Nat.lt_of_lt_of_le (setBy_lt _ i) (pw_le i (by omega))
      have hpi := pw_le i (by omega)
      obtain ⟨P, HP⟩ : ∃ P, Hid (P = setBy (fun i => bnA g s up i n) i) := ⟨_, rfl⟩
      rw [← HP.out] at hP ⊢
      go_loopw [9, 10] (fun p i' wx => ∃ k : Nat, k ≤ n ∧ i' = .int .i64 k ∧ p = .bool (bnA g s up i k) ∧ Hid (Held wx w.heap.size n a n cap (fun k => (g k : Nat))) ∧ Hid (Below w.heap.size w wx)) (fun _ i _ => n - (intOf i).toNat)
      case atStart => exact ⟨0, Nat.zero_le _, rfl, rfl, hH, hB⟩
      case round =>
        clear hH hB
        obtain ⟨k, hk, rfl, rfl, hH, hBy⟩ := hrel
        have k0 := hH.out.c0
        have k1 := hH.out.c1
        by_cases hkl : k < n
        · rcases (Bool.eq_false_or_eq_true (s.testBit k)).symm with hb | hb
          · have HN : Hid (bnA g s up i (k + 1) = bnA g s up i k) := bnA_keep (by simp [bnT, hb])
            go_wp2_with (go_at_call 27; refine (in_any s k _ (by omega) (by omega)).mono ?_; rintro e w' ⟨rfl, rfl⟩; rw [hb])
            go_roundw
            case rel => exact ⟨k + 1, by omega, by go_num, by rw [HN.out], hH, hBy⟩
            case measure => simp [intOf]; omega
          · cases up
            · rcases (Bool.eq_false_or_eq_true (upt g i k)).symm with hu | hu
              · have HN : Hid (bnA g s false i (k + 1) = false) := bnA_drop (by simp [bnT, hb, hu])
                go_wp2_with (go_at_call 27; refine (in_any s k _ (by omega) (by omega)).mono ?_; rintro e w' ⟨rfl, rfl⟩; rw [hb])
                refine (rUpto_any n a n cap g i k _ false hu h10 HG.out hH.out.row (by omega) (by omega)).mono ?_
                rintro e w1 ⟨rfl, hb1⟩
                have HH1 : Hid (Held w1 w.heap.size n a n cap (fun k => (g k : Nat))) := hH.out.step hb1
                have HB1 : Hid (Below w.heap.size w w1) := Below.then hBy.out hb1
                clear hb1 hH hBy k0 k1
                go_wp2_with fail
                go_roundw
                case rel => exact ⟨k + 1, by omega, by go_num, by rw [HN.out], HH1, HB1⟩
                case measure => simp [intOf]; omega
              · have HN : Hid (bnA g s false i (k + 1) = bnA g s false i k) := bnA_keep (by simp [bnT, hb, hu])
                go_wp2_with (go_at_call 27; refine (in_any s k _ (by omega) (by omega)).mono ?_; rintro e w' ⟨rfl, rfl⟩; rw [hb])
                refine (rUpto_any n a n cap g i k _ true hu h10 HG.out hH.out.row (by omega) (by omega)).mono ?_
                rintro e w1 ⟨rfl, hb1⟩
                have HH1 : Hid (Held w1 w.heap.size n a n cap (fun k => (g k : Nat))) := hH.out.step hb1
                have HB1 : Hid (Below w.heap.size w w1) := Below.then hBy.out hb1
                clear hb1 hH hBy k0 k1
                go_wp2_with fail
                go_roundw
                case rel => exact ⟨k + 1, by omega, by go_num, by rw [HN.out], HH1, HB1⟩
                case measure => simp [intOf]; omega
            · rcases (Bool.eq_false_or_eq_true (upt g k i)).symm with hu | hu
              · have HN : Hid (bnA g s true i (k + 1) = false) := bnA_drop (by simp [bnT, hb, hu])
                go_wp2_with (go_at_call 27; refine (in_any s k _ (by omega) (by omega)).mono ?_; rintro e w' ⟨rfl, rfl⟩; rw [hb])
                refine (rUpto_any n a n cap g k i _ false hu h10 HG.out hH.out.row (by omega) (by omega)).mono ?_
                rintro e w1 ⟨rfl, hb1⟩
                have HH1 : Hid (Held w1 w.heap.size n a n cap (fun k => (g k : Nat))) := hH.out.step hb1
                have HB1 : Hid (Below w.heap.size w w1) := Below.then hBy.out hb1
                clear hb1 hH hBy k0 k1
                go_wp2_with fail
                go_roundw
                case rel => exact ⟨k + 1, by omega, by go_num, by rw [HN.out], HH1, HB1⟩
                case measure => simp [intOf]; omega
              · have HN : Hid (bnA g s true i (k + 1) = bnA g s true i k) := bnA_keep (by simp [bnT, hb, hu])
                go_wp2_with (go_at_call 27; refine (in_any s k _ (by omega) (by omega)).mono ?_; rintro e w' ⟨rfl, rfl⟩; rw [hb])
                refine (rUpto_any n a n cap g k i _ true hu h10 HG.out hH.out.row (by omega) (by omega)).mono ?_
                rintro e w1 ⟨rfl, hb1⟩
                have HH1 : Hid (Held w1 w.heap.size n a n cap (fun k => (g k : Nat))) := hH.out.step hb1
                have HB1 : Hid (Below w.heap.size w w1) := Below.then hBy.out hb1
                clear hb1 hH hBy k0 k1
                go_wp2_with fail
                go_roundw
                case rel => exact ⟨k + 1, by omega, by go_num, by rw [HN.out], HH1, HB1⟩
                case measure => simp [intOf]; omega
        · have hkn : k = n := by omega
          subst hkn
          rcases (Bool.eq_false_or_eq_true (bnA g s up i k)).symm with hb | hb
          · have HE : Hid (setBy (fun i => bnA g s up i k) (i + 1) = P) := by rw [HP.out]; exact setBy_no hb
            rw [hb]
            go_wp2_with fail
            go_roundw
            case rel => exact ⟨i + 1, by omega, by go_num, by rw [HE.out], hH, hBy⟩
            case measure => simp [intOf]; omega
          · have HE : Hid (setBy (fun i => bnA g s up i k) (i + 1) = P + pw i) := by rw [HP.out]; exact setBy_yes hb
            rw [hb]
            go_wp2_with (go_at_call 26; refine (bit_any i _ (by omega)).mono ?_; rintro e w' ⟨rfl, rfl⟩)
            go_roundw
            case rel => exact ⟨i + 1, by omega, by go_num, by rw [HE.out]; go_num, hH, hBy⟩
            case measure => simp [intOf]; omega
    · have hkn : i = n := by omega
      subst hkn
      go_wp2_with fail
      go_ret
      exact ⟨rfl, hB.out⟩
end Go.Proofs.Ytkcogfjlpbfckaa
