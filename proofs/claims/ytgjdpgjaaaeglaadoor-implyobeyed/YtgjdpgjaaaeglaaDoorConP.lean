/-
  What concept.marksOf, thingsWith and checkSet answer, and Marks and Things. Conditions: of the last two none but that a slice reads as a slice of numbers.
-/
import Derived.Test.YtgjdpgjaaaeglaaDoorConM
import Derived.Test.YtgjdpgjaaaeglaaDoorCCheck
namespace Go.Proofs.YtgjdpgjaaaeglaaDoor
open Go.RowKit

theorem hasAll_anyQ (s p : Nat) (w : World) (hs : s < 9223372036854775808) (hp : p < 9223372036854775808) :
    Calls Tryd.prog 46 #[.int .i64 s, .int .i64 p] w fun e w' => e = .returned (.bool (lack p s == 0)) ∧ w = w' := by
  have h := i64_andNot p s hp hs
  go_enter Tryd.func46, Tryd.ntmps46
  go_wp2
  go_ret
  refine ⟨ret_bool ?_, rfl⟩
  rw [Bool.eq_iff_iff]
  simp

theorem marksOf_any (a : Option Addr) (n m cap : Nat) (h : Nat → Nat) (s : Nat) (w : World) (h10 : n ≤ 10) (m10 : m ≤ 10) (hh : ∀ k, k < n → h k < 1024) (hr : Row w a n (fun k => (h k : Nat))) (hs : s < 1024) :
    Calls Tryd.prog 51 #[.agg #[.int .i64 (n : Int), .int .i64 (m : Int), .slice a n cap], .int .i64 (s : Nat)] w fun e w' => e = .returned (.int .i64 (mks h n m s : Nat)) ∧ Below w.heap.size w w' := by
  have HG : Hid (∀ k, k < n → h k < 1024) := hh
  have K0 : Hid (GHeld (w.alloc (.cells #[.int .i64 (n : Int), .int .i64 (m : Int), .slice a n cap] 39)) w.heap.size n m a n cap (fun k => (h k : Nat))) := GHeld.box hr
  have HB0 : Hid (Below w.heap.size w (w.alloc (.cells #[.int .i64 (n : Int), .int .i64 (m : Int), .slice a n cap] 39))) := (Below.refl _ _).alloc (Nat.le_refl _) _
  have hpos := pw_pos m
  have HL0 : Hid (((pw m : Nat) : Int) - 1 = ((mko h m s 0 : Nat) : Int)) := by show _ = ((pw m - 1 : Nat) : Int); omega
  clear hr hh hpos
  go_enter Tryd.func51, Tryd.ntmps51
  go_wp2_with (go_at_call 39; refine (all_any m _ m10).mono ?_; rintro e w' ⟨rfl, rfl⟩)
  go_loopw [5, 14] (fun p i wx => ∃ k : Nat, k ≤ n ∧ i = .int .i64 k ∧ p = .int .i64 (mko h m s k : Nat) ∧ Hid (GHeld wx w.heap.size n m a n cap (fun k => (h k : Nat))) ∧ Hid (Below w.heap.size w wx)) (fun _ i _ => n - (intOf i).toNat)
  case atStart => exact ⟨0, Nat.zero_le _, rfl, by rw [← HL0.out], K0, HB0⟩
  case round =>
    obtain ⟨k, hk, rfl, rfl, hH, hB⟩ := hrel
    clear K0 HB0
    have k0 := hH.out.c0
    have k1 := hH.out.c1
    by_cases hlt : k < n
    · obtain ⟨b, off, rfl, hc⟩ := hH.out.row k hlt
      have hlt' : (k : Int) < (n : Int) := by omega
      rcases (Bool.eq_false_or_eq_true (s.testBit k)).symm with hb | hb
      · have HE : Hid (mko h m s (k + 1) = mko h m s k) := mko_no hb
        go_wp2_with (go_at_call 54; refine (has_any _ _ _ (by omega) (by omega)).mono ?_; rintro e w' ⟨rfl, rfl⟩)
        go_roundw
        case rel => exact ⟨k + 1, by omega, by go_num, by rw [HE.out], hH, hB⟩
        case measure => simp [intOf]; omega
      · have HE : Hid (mko h m s (k + 1) = mko h m s k &&& h k) := mko_yes hb
        have hl1 : mko h m s k < 1024 := Nat.lt_of_lt_of_le (mko_lt h m s k) (pw_le m m10)
        have hl2 : h k < 1024 := HG.out k hlt
        have HV : Hid (bits .and .i64 ((mko h m s k : Nat) : Int) ((h k : Nat) : Int) = ((mko h m s k &&& h k : Nat) : Int)) := i64_and _ _ (by omega) (by omega)
        go_wp2_with (go_at_call 54; refine (has_any _ _ _ (by omega) (by omega)).mono ?_; rintro e w' ⟨rfl, rfl⟩)
        go_roundw
        case rel => exact ⟨k + 1, by omega, by go_num, by rw [HE.out, ← HV.out], hH, hB⟩
        case measure => simp [intOf]; omega
    · have hkn : k = n := by omega
      subst hkn
      clear k0 k1
      go_wp2
      go_ret
      exact ⟨rfl, hB.out⟩

theorem thingsWith_any (a : Option Addr) (n m cap : Nat) (h : Nat → Nat) (M : Nat) (w : World) (h10 : n ≤ 10) (hh : ∀ k, k < n → h k < 1024) (hr : Row w a n (fun k => (h k : Nat))) (hM : M < 1024) :
    Calls Tryd.prog 50 #[.agg #[.int .i64 (n : Int), .int .i64 (m : Int), .slice a n cap], .int .i64 (M : Nat)] w fun e w' => e = .returned (.int .i64 (ths h n M : Nat)) ∧ Below w.heap.size w w' := by
  have HG : Hid (∀ k, k < n → h k < 1024) := hh
  have K0 : Hid (GHeld (w.alloc (.cells #[.int .i64 (n : Int), .int .i64 (m : Int), .slice a n cap] 39)) w.heap.size n m a n cap (fun k => (h k : Nat))) := GHeld.box hr
  have HB0 : Hid (Below w.heap.size w (w.alloc (.cells #[.int .i64 (n : Int), .int .i64 (m : Int), .slice a n cap] 39))) := (Below.refl _ _).alloc (Nat.le_refl _) _
  clear hr hh
  go_enter Tryd.func50, Tryd.ntmps50
  go_wp2_with fail
  go_loopw [5, 11] (fun p i wx => ∃ k : Nat, k ≤ n ∧ i = .int .i64 k ∧ p = .int .i64 (setBy (hasA h M) k : Nat) ∧ Hid (GHeld wx w.heap.size n m a n cap (fun k => (h k : Nat))) ∧ Hid (Below w.heap.size w wx)) (fun _ i _ => n - (intOf i).toNat)
  case atStart => exact ⟨0, Nat.zero_le _, rfl, rfl, K0, HB0⟩
  case round =>
    obtain ⟨k, hk, rfl, rfl, hH, hB⟩ := hrel
    clear K0 HB0
    have k0 := hH.out.c0
    have k1 := hH.out.c1
    by_cases hlt : k < n
    · obtain ⟨b, off, rfl, hc⟩ := hH.out.row k hlt
      have hlt' : (k : Int) < (n : Int) := by omega
      have hl2 : h k < 1024 := HG.out k hlt
      rcases (Bool.eq_false_or_eq_true (hasA h M k)).symm with hb | hb
      · have HE : Hid (setBy (hasA h M) (k + 1) = setBy (hasA h M) k) := setBy_no hb
        have hq : (lack M (h k) == 0) = false := hb
        go_wp2_with (go_at_call 46; refine (hasAll_anyQ _ _ _ (by omega) (by omega)).mono ?_; rintro e w' ⟨rfl, rfl⟩)
        go_roundw
        case rel => exact ⟨k + 1, by omega, by go_num, by rw [HE.out], hH, hB⟩
        case measure => simp [intOf]; omega
      · have HE : Hid (setBy (hasA h M) (k + 1) = setBy (hasA h M) k ||| pw k) := (setBy_yes hb).trans (or_pw_add (setBy_lt _ _)).symm
        have hq : (lack M (h k) == 0) = true := hb
        have hl1 : setBy (hasA h M) k < 1024 := Nat.lt_of_lt_of_le (setBy_lt _ k) (pw_le k (by omega))
        have HV : Hid (bits .or .i64 ((setBy (hasA h M) k : Nat) : Int) (wrap64 (2 ^ k)) = ((setBy (hasA h M) k ||| pw k : Nat) : Int)) := by
          rw [wrap_pow k (by omega)]
          exact i64_or _ _ (by omega) (by have := pw_le k (by omega); omega)
        go_wp2_with (go_at_call 46; refine (hasAll_anyQ _ _ _ (by omega) (by omega)).mono ?_; rintro e w' ⟨rfl, rfl⟩)
        go_roundw
        case rel => exact ⟨k + 1, by omega, by go_num, by rw [HE.out, ← HV.out], hH, hB⟩
        case measure => simp [intOf]; omega
    · have hkn : k = n := by omega
      subst hkn
      clear k0 k1
      go_wp2
      go_ret
      exact ⟨rfl, hB.out⟩
end Go.Proofs.YtgjdpgjaaaeglaaDoor
