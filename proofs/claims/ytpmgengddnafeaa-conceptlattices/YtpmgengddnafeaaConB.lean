/-
  hasselaw.conceptBegun, inContext and numberIs; for every context that is handed in hasselaw.ConceptChecks and ConceptConcepts return true. No condition.
-/
import Derived.Test.YtpmgengddnafeaaConK
namespace Go.Proofs.Ytpmgengddnafeaa
open Go.RowKit

theorem begun_cons : cons (nat fun _ => 0) 1 1 = [(0, 1), (1, 0)] := by decide +kernel
theorem begun_nxt : nxt (clm (nat fun _ => 0) 1 1) 0 1 = some 1 := by decide +kernel
theorem begun_chk {c : Int} (h : GChk 1 1 1 (fun _ => 0) c) : c = 0 := by
  refine GChk.unique h (.inr ⟨1, 1, rfl, rfl, by decide, by decide, .inr ⟨rfl, .inr ⟨rfl, fun k hk => ?_⟩⟩⟩)
  exact ⟨Int.le_refl _, show (0 : Int) < ((pw 1 : Nat) : Int) by decide⟩
theorem begun_schk {c : Int} (h : SChk 1 1 1 1 (fun _ => 0) 0 c) : c = 0 := by
  refine SChk.unique h (.inr ⟨?_, 1, rfl, by decide, .inr ⟨rfl, Int.le_refl _, by decide⟩⟩)
  refine .inr ⟨1, 1, rfl, rfl, by decide, by decide, .inr ⟨rfl, .inr ⟨rfl, fun k hk => ?_⟩⟩⟩
  exact ⟨Int.le_refl _, show (0 : Int) < ((pw 1 : Nat) : Int) by decide⟩
theorem row_zero1 (w : World) : Row (w.alloc (.cells #[.int .i64 0] 3)) (some ⟨w.heap.size, 0, none⟩) 1 (fun _ => 0) := fun k hk => by
  obtain rfl : k = 0 := by omega
  exact ⟨w.heap.size, 0, rfl, by simp⟩
theorem begun_pairs (w : World) : PSl (w.alloc (.cells #[.int .i64 0, .int .i64 1, .int .i64 1, .int .i64 0] 51)) (.slice (some ⟨w.heap.size, 0, none⟩) 2 2) [(0, 1), (1, 0)] := by
  refine ⟨_, 2, rfl, fun k hk => ⟨w.heap.size, 0, rfl, ?_⟩⟩
  have hk2 : k < 2 := hk
  rcases k with _ | _ | k
  · simp [pairAt]
  · simp [pairAt]
  · omega

set_option maxHeartbeats 1000000 in
theorem conceptBegun_any (w : World) : Calls Try.prog 9 #[] w fun e w' => e = .returned (.bool true) ∧ Below w.heap.size w w' := by
  obtain ⟨w0, HW0⟩ : ∃ w0, Hid (w0 = w.alloc (.cells #[.int .i64 0] 3)) := ⟨_, rfl⟩
  have HB0 : Hid (Below w.heap.size w w0) := by rw [Hid, HW0.out]; exact (Below.refl _ _).alloc (Nat.le_refl _) _
  have HR0 : Hid (Row w0 (some ⟨w.heap.size, 0, none⟩) 1 (fun _ => 0)) := by rw [Hid, HW0.out]; exact row_zero1 w
  go_enter Try.func9, Try.ntmps9
  go_wp2_with fail
  rw [← HW0.out]
  refine (concepts_any 1 1 (some ⟨w.heap.size, 0, none⟩) 1 1 (fun _ => 0) w0 (by unfold maxLen; omega) HR0.out).mono ?_
  rintro e w1 ⟨h, hb1⟩
  have HB1 : Hid (Below w.heap.size w w1) := Below.then HB0.out hb1
  clear hb1 HW0 HB0 HR0
  obtain ⟨pa, pc, HE1, HP1⟩ : ∃ pa pc, Hid (e = .returned (.tuple #[.slice pa 2 pc, .int .i64 0])) ∧ Hid (PSl w1 (.slice pa 2 pc) [(0, 1), (1, 0)]) := by
    rcases h with ⟨c, h0, hc, _⟩ | ⟨r, v, _, _, hr, _, _, _, rfl, hv⟩
    · exact absurd (begun_chk hc) h0
    obtain rfl : r = 1 := by omega
    rw [begun_cons] at hv
    obtain ⟨pa, pc, rfl, hpr⟩ := hv
    exact ⟨pa, pc, rfl, pa, pc, rfl, hpr⟩
  obtain rfl := HE1.out
  clear h HE1
  obtain ⟨w2, HW2⟩ : ∃ w2, Hid (w2 = w1.alloc (.cells #[.int .i64 0] 3)) := ⟨_, rfl⟩
  have HB2 : Hid (Below w1.heap.size w1 w2) := by rw [Hid, HW2.out]; exact (Below.refl _ _).alloc (Nat.le_refl _) _
  have HR2 : Hid (Row w2 (some ⟨w1.heap.size, 0, none⟩) 1 (fun _ => 0)) := by rw [Hid, HW2.out]; exact row_zero1 w1
  go_wp2_with fail
  rw [← HW2.out]
  refine (next_any 1 1 (some ⟨w1.heap.size, 0, none⟩) 1 1 (fun _ => 0) 0 w2 (by unfold maxLen; omega) HR2.out).mono ?_
  rintro e w3 ⟨h, hb3⟩
  have HB3 : Hid (Below w.heap.size w w3) := Below.then (Below.then HB1.out HB2.out) hb3
  have HP3 : Hid (PSl w3 (.slice pa 2 pc) [(0, 1), (1, 0)]) := (HP1.out.below HB2.out).below hb3
  clear hb3 HW2 HB2 HR2 HP1 HB1
  have HN : Hid (e = .returned (.tuple #[.int .i64 1, .int .i64 0])) := by
    rcases h with ⟨c, h0, hc, _⟩ | ⟨r, s, _, hr, _, _, _, hs, _, _, ⟨hn, _⟩ | ⟨x, hx, he⟩⟩
    · exact absurd (begun_schk hc) h0
    · obtain rfl : r = 1 := by omega
      obtain rfl : s = 0 := by omega
      rw [begun_nxt] at hn; cases hn
    · obtain rfl : r = 1 := by omega
      obtain rfl : s = 0 := by omega
      rw [begun_nxt] at hx; cases hx; exact he
  obtain rfl := HN.out
  clear h HN
  obtain ⟨w4, HW4⟩ : ∃ w4, Hid (w4 = w3.alloc (.cells #[.int .i64 0, .int .i64 1, .int .i64 1, .int .i64 0] 51)) := ⟨_, rfl⟩
  have HB4 : Hid (Below w3.heap.size w3 w4) := by rw [Hid, HW4.out]; exact (Below.refl _ _).alloc (Nat.le_refl _) _
  have HQ4 : Hid (PSl w4 (.slice (some ⟨w3.heap.size, 0, none⟩) 2 2) [(0, 1), (1, 0)]) := by rw [Hid, HW4.out]; exact begun_pairs w3
  go_wp2_with fail
  rw [← HW4.out]
  refine (samePairs_any _ _ [(0, 1), (1, 0)] w4 (by decide) (HP3.out.below HB4.out) HQ4.out).mono ?_
  rintro e w5 ⟨rfl, hb5⟩
  have HB5 : Hid (Below w.heap.size w w5) := Below.then (Below.then HB3.out HB4.out) hb5
  clear hb5 HW4 HB4 HQ4 HP3 HB3
  go_wp2_with fail
  go_ret
  exact ⟨rfl, HB5.out⟩

theorem numberIs_any (n e w0 want : Int) (w : World) (h : e = w0) (hv : (w0 ≠ 0 ∧ n = 0) ∨ (w0 = 0 ∧ n = want)) :
    Calls Try.prog 17 #[.int .i64 n, .int .i64 e, .int .i64 w0, .int .i64 want] w fun e w' => e = .returned (.bool true) ∧ w = w' := by
  subst h
  rcases hv with ⟨h0, rfl⟩ | ⟨rfl, rfl⟩
  · have hne : (e != 0) = true := by simpa using h0
    go_enter Try.func17, Try.ntmps17
    go_wp2
    go_ret
    exact ⟨rfl, rfl⟩
  · go_enter Try.func17, Try.ntmps17
    go_wp2
    go_ret
    exact ⟨rfl, rfl⟩

theorem isSetL_any (s : Int) (n : Nat) (w : World) (hn : n ≤ 10) :
    Calls Try.prog 36 #[.int .i64 s, .int .i64 n] w fun e w' => e = .returned (.bool (sts s n)) ∧ w = w' := by
  by_cases h0 : 0 ≤ s
  · by_cases h1 : s < (pw n : Nat)
    · go_enter Try.func36, Try.ntmps36
      go_wp2_with (go_at_call 27; refine (bit_any n _ (by omega)).mono ?_; rintro e w' ⟨rfl, rfl⟩)
      go_ret
      exact ⟨ret_bool (by simp [sts, h0, h1]), rfl⟩
    · go_enter Try.func36, Try.ntmps36
      go_wp2_with (go_at_call 27; refine (bit_any n _ (by omega)).mono ?_; rintro e w' ⟨rfl, rfl⟩)
      go_ret
      exact ⟨ret_bool (by simp [sts]; omega), rfl⟩
  · have h0' : decide (0 ≤ s) = false := by simp; omega
    go_enter Try.func36, Try.ntmps36
    go_wp2
    go_ret
    exact ⟨ret_bool (by simp [sts]; omega), rfl⟩

theorem inContext_any (L R : Int) (a : Option Addr) (len cap : Nat) (f : Nat → Int) (S : Int) (mb : Bool) (w : World) (hl : len ≤ maxLen) (hr : Row w a len f) :
    Calls Try.prog 14 #[.agg #[.int .i64 L, .int .i64 R, .slice a len cap], .int .i64 S, .bool mb] w fun e w' => (∃ c : Int, e = .returned (.int .i64 c) ∧ SChk L R (if mb then R else L) len f S c) ∧ Below w.heap.size w w' := by
  have K0 : GHeld (w.alloc (.cells #[.int .i64 L, .int .i64 R, .slice a len cap] 24)) w.heap.size L R a len cap f := GHeld.box hr
  have HB0 : Hid (Below w.heap.size w (w.alloc (.cells #[.int .i64 L, .int .i64 R, .slice a len cap] 24))) := (Below.refl _ _).alloc (Nat.le_refl _) _
  clear hr
  go_enter Try.func14, Try.ntmps14
  go_wp2_with fail
  refine (checkContext_any L R a len cap f _ hl K0.row).mono ?_
  rintro e w1 ⟨⟨c, rfl, hc⟩, hb⟩
  have K1 := K0.step hb
  have HB1 : Hid (Below w.heap.size w w1) := Below.then HB0.out hb
  have k0 := K1.c0
  have k1 := K1.c1
  clear hb K0 HB0
  by_cases h0 : c = 0
  · subst h0
    have HC : Hid (GChk L R len f 0) := hc
    obtain ⟨k, hk, hk10⟩ : ∃ k : Nat, (if mb then R else L) = k ∧ k ≤ 10 := by
      cases mb
      · exact good_L hc
      · exact good_R hc
    clear hc K1
    by_cases hs : 0 ≤ S ∧ S < (pw k : Nat)
    · have hsd : sts S k = true := by simpa [sts] using hs
      have HS : Hid (0 ≤ S ∧ S < (pw k : Nat)) := hs; clear hs
      cases mb
      · obtain rfl : L = k := hk
        go_wp2_with (go_at_call 36; refine (isSetL_any _ _ _ hk10).mono ?_; rintro e w' ⟨rfl, rfl⟩)
        go_ret
        exact ⟨⟨_, rfl, .inr ⟨HC.out, k, rfl, hk10, .inr ⟨rfl, HS.out⟩⟩⟩, HB1.out⟩
      · obtain rfl : R = k := hk
        go_wp2_with (go_at_call 36; refine (isSetL_any _ _ _ hk10).mono ?_; rintro e w' ⟨rfl, rfl⟩)
        go_ret
        exact ⟨⟨_, rfl, .inr ⟨HC.out, k, rfl, hk10, .inr ⟨rfl, HS.out⟩⟩⟩, HB1.out⟩
    · have hsd : sts S k = false := by simpa [sts] using hs
      have HS : Hid (¬ (0 ≤ S ∧ S < (pw k : Nat))) := hs; clear hs
      cases mb
      · obtain rfl : L = k := hk
        go_wp2_with (go_at_call 36; refine (isSetL_any _ _ _ hk10).mono ?_; rintro e w' ⟨rfl, rfl⟩)
        go_ret
        exact ⟨⟨_, rfl, .inr ⟨HC.out, k, rfl, hk10, .inl ⟨rfl, HS.out⟩⟩⟩, HB1.out⟩
      · obtain rfl : R = k := hk
        go_wp2_with (go_at_call 36; refine (isSetL_any _ _ _ hk10).mono ?_; rintro e w' ⟨rfl, rfl⟩)
        go_ret
        exact ⟨⟨_, rfl, .inr ⟨HC.out, k, rfl, hk10, .inl ⟨rfl, HS.out⟩⟩⟩, HB1.out⟩
  · have hne : (c == 0) = false := by simpa using h0
    have HC : Hid (GChk L R len f c) := hc
    clear hc K1
    cases mb
    · go_wp2_with fail
      go_ret
      exact ⟨⟨_, rfl, .inl ⟨h0, HC.out⟩⟩, HB1.out⟩
    · go_wp2_with fail
      go_ret
      exact ⟨⟨_, rfl, .inl ⟨h0, HC.out⟩⟩, HB1.out⟩
end Go.Proofs.Ytpmgengddnafeaa
