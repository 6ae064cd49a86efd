/-
  What the reference's WrongRule and CheckRules and hasselaw.implyBegun answer; for every number and rules that are handed in hasselaw.ImplyChecks returns true. Conditions: the table of the least bits.
-/
import Derived.Test.YtgjdpgjaaaeglaaDoorImpK
import Derived.Test.YtgjdpgjaaaeglaaDoorSameN
import Derived.Deep.QuietTactic
import Derived.BigQuiet
namespace Go.Proofs.YtgjdpgjaaaeglaaDoor
open Go.RowKit

set_option maxHeartbeats 1000000 in
theorem wrongRule_any (n : Nat) (x y : Int) (w : World) (hn : n ≤ 10) :
    Calls Tryd.prog 25 #[.int .i64 (n : Nat), .agg #[.int .i64 x, .int .i64 y]] w fun e w' => e = .returned (.bool (!riB x y n)) ∧ Below w.heap.size w w' := by
  have HB : Hid (∀ o d, Below w.heap.size w ((w.alloc o).drewN d)) := fun o d => below_drewN ((Below.refl _ _).alloc (Nat.le_refl _) o) d
  by_cases h1 : x < 0
  · have HE : Hid (riB x y n = false) := by
      cases e : riB x y n
      · rfl
      · have := riB_iff.1 e; omega
    have d1 : decide (x < 0) = true := by simpa using h1
    go_enter Tryd.func25, Tryd.ntmps25
    go_wp2
    go_quiet (fail)
    go_wp2
    go_ret
    exact ⟨by rw [HE.out]; rfl, HB.out _ _⟩
  have d1 : decide (x < 0) = false := by simpa using h1
  by_cases h2 : (pw n : Nat) ≤ x
  · have HE : Hid (riB x y n = false) := by
      cases e : riB x y n
      · rfl
      · have := riB_iff.1 e; omega
    have d2 : decide (((pw n : Nat) : Int) ≤ x) = true := by simpa using h2
    go_enter Tryd.func25, Tryd.ntmps25
    go_wp2
    go_quiet ((go_at_call 11; exact Calls.quiet_of_same (bit_quiet _ _ (by omega))))
    go_wp2
    go_ret
    exact ⟨by rw [HE.out]; rfl, HB.out _ _⟩
  have d2 : decide (((pw n : Nat) : Int) ≤ x) = false := by simpa using h2
  by_cases h3 : y < 0
  · have HE : Hid (riB x y n = false) := by
      cases e : riB x y n
      · rfl
      · have := riB_iff.1 e; omega
    have d3 : decide (y < 0) = true := by simpa using h3
    go_enter Tryd.func25, Tryd.ntmps25
    go_wp2
    go_quiet ((go_at_call 11; exact Calls.quiet_of_same (bit_quiet _ _ (by omega))))
    go_wp2
    go_ret
    exact ⟨by rw [HE.out]; rfl, HB.out _ _⟩
  have d3 : decide (y < 0) = false := by simpa using h3
  by_cases h4 : (pw n : Nat) ≤ y
  · have HE : Hid (riB x y n = false) := by
      cases e : riB x y n
      · rfl
      · have := riB_iff.1 e; omega
    have d4 : decide (((pw n : Nat) : Int) ≤ y) = true := by simpa using h4
    go_enter Tryd.func25, Tryd.ntmps25
    go_wp2
    go_quiet ((go_at_call 11; exact Calls.quiet_of_same (bit_quiet _ _ (by omega))))
    go_wp2
    go_ret
    exact ⟨by rw [HE.out]; rfl, HB.out _ _⟩
  · have HE : Hid (riB x y n = true) := riB_iff.2 ⟨⟨by omega, by omega⟩, by omega, by omega⟩
    have d4 : decide (((pw n : Nat) : Int) ≤ y) = false := by simpa using h4
    go_enter Tryd.func25, Tryd.ntmps25
    go_wp2
    go_quiet ((go_at_call 11; exact Calls.quiet_of_same (bit_quiet _ _ (by omega))))
    go_wp2
    go_ret
    exact ⟨by rw [HE.out]; rfl, HB.out _ _⟩

set_option maxHeartbeats 1000000 in
theorem checkRules_any (N : Int) (a : Option Addr) (len cap : Nat) (p : Nat → Int × Int) (w : World) (hl : len ≤ maxLen) (hr : PRow w a len p) :
    Calls Tryd.prog 9 #[.int .i64 N, .slice a len cap] w fun e w' => (∃ c : Int, e = .returned (.int .i64 c) ∧ RChk N len p c) ∧ Below w.heap.size w w' := by
  unfold maxLen at hl
  have HR : Hid (∀ w', Below w.heap.size w w' → PRow w' a len p) := fun w' h => hr.below h
  clear hr
  by_cases h1 : N < 0
  · have d1 : decide (N < 0) = true := by simpa using h1
    go_enter Tryd.func9, Tryd.ntmps9
    go_wp2_with fail
    go_ret
    exact ⟨⟨_, rfl, .inl ⟨rfl, fun h => by omega⟩⟩, Below.refl _ _⟩
  have d1 : decide (N < 0) = false := by simpa using h1
  by_cases h2 : 10 < N
  · go_enter Tryd.func9, Tryd.ntmps9
    go_wp2_with fail
    go_ret
    exact ⟨⟨_, rfl, .inl ⟨rfl, fun h => by omega⟩⟩, Below.refl _ _⟩
  by_cases h60 : 60 < len
  · have h60' : (60 : Int) < (len : Int) := by omega
    go_enter Tryd.func9, Tryd.ntmps9
    go_wp2_with fail
    go_ret
    exact ⟨⟨_, rfl, .inl ⟨rfl, fun h => by omega⟩⟩, Below.refl _ _⟩
  obtain ⟨n, rfl⟩ := Int.eq_ofNat_of_zero_le (show 0 ≤ N by omega)
  have hn10 : n ≤ 10 := by omega
  have hl60 : len ≤ 60 := by omega
  have h60' : ¬ ((60 : Int) < (len : Int)) := by omega
  go_enter Tryd.func9, Tryd.ntmps9
  go_wp2_with fail
  go_loopw [5] (fun i wx => ∃ k : Nat, k ≤ len ∧ i = .int .i64 k ∧ Hid (∀ j, j < k → (0 ≤ (p j).1 ∧ (p j).1 < (pw n : Nat)) ∧ (0 ≤ (p j).2 ∧ (p j).2 < (pw n : Nat))) ∧ Hid (Below w.heap.size w wx)) (fun i _ => len - (intOf i).toNat)
  case atStart => exact ⟨0, Nat.zero_le _, rfl, upto_zero, Below.refl _ _⟩
  case round =>
    obtain ⟨k, hk, rfl, hok, hB⟩ := hrel
    by_cases hlt : k < len
    · obtain ⟨b, off, rfl, c0, c1⟩ := HR.out _ hB.out k hlt
      have hlt' : (k : Int) < (len : Int) := by omega
      obtain ⟨x, y, HXY⟩ : ∃ x y, Hid (p k = (x, y)) := ⟨_, _, rfl⟩
      rw [HXY.out] at c0 c1
      rcases (Bool.eq_false_or_eq_true (riB x y n)).symm with hs | hs
      · have HS : Hid (¬ ((0 ≤ (p k).1 ∧ (p k).1 < (pw n : Nat)) ∧ (0 ≤ (p k).2 ∧ (p k).2 < (pw n : Nat)))) := fun h => by
          rw [HXY.out] at h
          rw [riB_iff.2 h] at hs; cases hs
        go_wp2_with fail
        refine (wrongRule_any n x y _ hn10).mono ?_
        rintro e w2 ⟨rfl, hb2⟩
        rw [hs, Bool.not_false]
        have HB2 : Hid (Below w.heap.size w w2) := Below.then hB.out hb2
        clear hb2 c0 c1
        go_wp2_with fail
        go_ret
        exact ⟨⟨_, rfl, .inr ⟨n, rfl, hn10, hl60, .inl ⟨rfl, fun h => HS.out (h k hlt)⟩⟩⟩, HB2.out⟩
      · have HS : Hid ((0 ≤ (p k).1 ∧ (p k).1 < (pw n : Nat)) ∧ (0 ≤ (p k).2 ∧ (p k).2 < (pw n : Nat))) := by rw [Hid, HXY.out]; exact riB_iff.1 hs
        go_wp2_with fail
        refine (wrongRule_any n x y _ hn10).mono ?_
        rintro e w2 ⟨rfl, hb2⟩
        rw [hs, Bool.not_true]
        have HB2 : Hid (Below w.heap.size w w2) := Below.then hB.out hb2
        clear hb2 c0 c1
        go_wp2_with fail
        go_roundw
        case rel => exact ⟨k + 1, by omega, by go_num, upto_succ hok.out HS.out, HB2⟩
        case measure => simp [intOf]; omega
    · obtain rfl : k = len := by omega
      go_wp2_with fail
      go_ret
      exact ⟨⟨_, rfl, .inr ⟨n, rfl, hn10, hl60, .inr ⟨rfl, hok.out⟩⟩⟩, hB.out⟩

/-- The rule of implyBegun. -/
def pB : Nat → Int × Int := fun _ => (1, 2)
theorem pB_is : RIs 2 1 pB := fun _ _ => show ((0 : Int) ≤ 1 ∧ (1 : Int) < ((pw 2 : Nat) : Int)) ∧ ((0 : Int) ≤ 2 ∧ (2 : Int) < ((pw 2 : Nat) : Int)) by decide
theorem pB_chk {c : Int} (h : RChk 2 1 pB c) : c = 0 := h.unique (.inr ⟨2, rfl, by decide, by decide, .inr ⟨rfl, pB_is⟩⟩)
theorem nil_chk {c : Int} (h : RChk 1 0 pB c) : c = 0 := h.unique (.inr ⟨1, rfl, by decide, by decide, .inr ⟨rfl, fun k hk => absurd hk (Nat.not_lt_zero _)⟩⟩)
theorem begun_clo : clo (rls pB 1) 2 1 = 3 := by decide +kernel
theorem begun_bas : (bas (clo (rls pB 1) 2) 4).length = 1 := by decide +kernel
theorem begun_key : keysL (clo (rls pB 0) 1) 1 = [1] := by decide +kernel
theorem row_pB (w : World) : PRow (w.alloc (.cells #[.int .i64 1, .int .i64 2] 47)) (some ⟨w.heap.size, 0, none⟩) 1 pB := fun k hk => by
  obtain rfl : k = 0 := by omega
  exact ⟨w.heap.size, 0, rfl, by simp [pB], by simp [pB]⟩
theorem row_one (w : World) : Row (w.alloc (.cells #[.int .i64 1] 3)) (some ⟨w.heap.size, 0, none⟩) 1 (fun _ => 1) := fun k hk => by
  obtain rfl : k = 0 := by omega
  exact ⟨w.heap.size, 0, rfl, by simp⟩

set_option maxHeartbeats 2000000 in
theorem implyBegun_any (w : World) (hT : Tab w) : Calls Tryd.prog 13 #[] w fun e w' => e = .returned (.bool true) ∧ Below w.heap.size w w' := by
  have HT : Hid (Tab w) := hT
  obtain ⟨w0, HW0⟩ : ∃ w0, Hid (w0 = w.alloc (.cells #[.int .i64 1, .int .i64 2] 47)) := ⟨_, rfl⟩
  have HB0 : Hid (Below w.heap.size w w0) := by rw [Hid, HW0.out]; exact (Below.refl _ _).alloc (Nat.le_refl _) _
  have HR0 : Hid (PRow w0 (some ⟨w.heap.size, 0, none⟩) 1 pB) := by rw [Hid, HW0.out]; exact row_pB w
  clear hT
  go_enter Tryd.func13, Tryd.ntmps13
  go_wp2_with fail
  rw [← HW0.out]
  refine (close_any 2 (some ⟨w.heap.size, 0, none⟩) 1 1 pB 1 w0 (by unfold maxLen; omega) HR0.out).mono ?_
  rintro e w1 ⟨h, hb1⟩
  have HB1 : Hid (Below w.heap.size w w1) := Below.then HB0.out hb1
  have HE1 : Hid (e = .returned (.tuple #[.int .i64 3, .int .i64 0])) := by
    rcases h with ⟨c, h0, hc, _⟩ | ⟨n, hn, _, _, _, _, ⟨hs, _⟩ | ⟨s, hs, _, he⟩⟩
    · exact absurd (pB_chk hc) h0
    · obtain rfl : n = 2 := by omega
      exact absurd ⟨by decide, by decide⟩ hs
    · obtain rfl : n = 2 := by omega
      obtain rfl : s = 1 := by omega
      rw [begun_clo] at he; exact he
  obtain rfl := HE1.out
  clear h hb1 HW0 HB0 HR0 HE1
  obtain ⟨w2, HW2⟩ : ∃ w2, Hid (w2 = w1.alloc (.cells #[.int .i64 1, .int .i64 2] 47)) := ⟨_, rfl⟩
  have HB2 : Hid (Below w.heap.size w w2) := by rw [Hid, HW2.out]; exact HB1.out.alloc HB1.out.size _
  have HR2 : Hid (PRow w2 (some ⟨w1.heap.size, 0, none⟩) 1 pB) := by rw [Hid, HW2.out]; exact row_pB w1
  go_wp2_with fail
  rw [← HW2.out]
  refine (baseX_any 2 (some ⟨w1.heap.size, 0, none⟩) 1 1 pB w2 (by unfold maxLen; omega) HR2.out).mono ?_
  rintro e w3 ⟨h, hb3⟩
  have HB3 : Hid (Below w.heap.size w w3) := Below.then HB2.out hb3
  obtain ⟨pa, pc, HE3⟩ : ∃ pa pc, Hid (e = .returned (.tuple #[.slice pa 1 pc, .int .i64 0])) := by
    rcases h with ⟨c, h0, hc, _⟩ | ⟨n, hn, _, _, _, _, ⟨h6, _⟩ | ⟨_, v, he, a, cap, rfl, _⟩⟩
    · exact absurd (pB_chk hc) h0
    · obtain rfl : n = 2 := by omega
      have : (bas (clo (rls pB 1) 2) (pw 2)).length = 1 := begun_bas
      omega
    · obtain rfl : n = 2 := by omega
      have h1 : (bas (clo (rls pB 1) 2) (pw 2)).length = 1 := begun_bas
      rw [h1] at he
      exact ⟨a, cap, he⟩
  obtain rfl := HE3.out
  clear h hb3 HW2 HB2 HR2 HE3 HB1
  go_wp2_with fail
  refine (keysX_any 1 none 0 0 pB w3 (by unfold maxLen; omega) (fun k hk => absurd hk (Nat.not_lt_zero _)) (HT.out.step HB3.out)).mono ?_
  rintro e w4 ⟨h, hb4⟩
  have HB4 : Hid (Below w.heap.size w w4) := Below.then HB3.out hb4
  obtain ⟨ka, kc, HE4, HK4⟩ : ∃ ka kc, Hid (e = .returned (.tuple #[.slice ka 1 kc, .int .i64 0])) ∧ Hid (Row w4 ka 1 (fun _ => 1)) := by
    rcases h with ⟨c, h0, hc, _⟩ | ⟨n, v, hn, _, _, _, _, he, hv⟩
    · exact absurd (nil_chk hc) h0
    · obtain rfl : n = 1 := by omega
      rw [begun_key] at hv
      obtain ⟨a, cap, rfl, hr⟩ := hv
      refine ⟨a, cap, he, fun k hk => ?_⟩
      have := hr k hk
      obtain rfl : k = 0 := by omega
      exact this
  obtain rfl := HE4.out
  clear h hb4 HB3 HE4
  obtain ⟨w5, HW5⟩ : ∃ w5, Hid (w5 = w4.alloc (.cells #[.int .i64 1] 3)) := ⟨_, rfl⟩
  have HB45 : Hid (Below w4.heap.size w4 w5) := by rw [Hid, HW5.out]; exact (Below.refl _ _).alloc (Nat.le_refl _) _
  have HR5 : Hid (Row w5 (some ⟨w4.heap.size, 0, none⟩) 1 (fun _ => 1)) := by rw [Hid, HW5.out]; exact row_one w4
  go_wp2_with fail
  rw [← HW5.out]
  refine (same_any ka (some ⟨w4.heap.size, 0, none⟩) 1 kc 1 1 (fun _ => 1) (fun _ => 1) w5 (by unfold maxLen; omega) (by unfold maxLen; omega) (HK4.out.below HB45.out) HR5.out).mono ?_
  rintro e w6 ⟨⟨b, rfl, hb⟩, hb6⟩
  obtain rfl : b = true := hb.2 ⟨rfl, fun _ _ => rfl⟩
  have HB6 : Hid (Below w.heap.size w w6) := Below.then HB4.out (Below.then HB45.out hb6)
  clear hb hb6 HW5 HB45 HR5 HK4 HB4
  go_wp2_with fail
  go_ret
  exact ⟨rfl, HB6.out⟩

end Go.Proofs.YtgjdpgjaaaeglaaDoor
