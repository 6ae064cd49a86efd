/-
  hasselaw.conceptBegun, inContext and numberIs; for every context that is handed in hasselaw.ConceptChecks and ConceptConcepts return true. No condition.
-/
import Derived.Test.YtpmgengddnafeabConK
namespace Go.Proofs.Ytpmgengddnafeab
open Go.RowKit

theorem begun_cons : cons (nat fun _ => 0) 1 1 = [(0, 1), (1, 0)] := by decide +kernel
theorem begun_nxt : nxt (clm (nat fun _ => 0) 1 1) 0 1 = some 1 := by decide +kernel
theorem begun_chk {c : Int} (h : GChk 1 1 1 (fun _ => 0) c) : c = 0 := by
  refine GChk.unique h (.inr ⟨1, 1, rfl, rfl, by decide, by decide, .inr ⟨rfl, .inr ⟨rfl, fun k hk => ?_⟩⟩⟩)
  exact ⟨Int.le_refl _, show (0 : Int) < ((pw 1 : Nat) : Int) by decide⟩
theorem begun_schk {c : Int} (h : SChk 1 1 1 1 (fun _ => 0) 0 c) : c = 0 := by
  refine SChk.unique h (.inr ⟨?_, 1, rfl, by decide, .inr ⟨rfl, Int.le_refl _, by decide⟩⟩)
  refine .inr ⟨1, 1, rfl, rfl, by decide, by decide, .inr ⟨rfl, .inr ⟨rfl, fun k hk => ?_⟩⟩⟩
  exact ⟨Int.le_refl _, show (0 : Int) < ((pw 1 : Nat) : Int) by decide⟩
theorem row_zero1 (w : World) : Row (w.alloc (.cells #[.int .i64 0] 3)) (some ⟨w.heap.size, 0, none⟩) 1 (fun _ => 0) := fun k hk => by
  obtain rfl : k = 0 := by omega
  exact ⟨w.heap.size, 0, rfl, by simp⟩
theorem begun_pairs (w : World) : PSl (w.alloc (.cells #[.int .i64 0, .int .i64 1, .int .i64 1, .int .i64 0] 34)) (.slice (some ⟨w.heap.size, 0, none⟩) 2 2) [(0, 1), (1, 0)] := by
  refine ⟨_, 2, rfl, fun k hk => ⟨w.heap.size, 0, rfl, ?_⟩⟩
  have hk2 : k < 2 := hk
  rcases k with _ | _ | k
  · simp [pairAt]
  · simp [pairAt]
  · omega

set_option maxHeartbeats 1000000 in
theorem conceptBegun_any (w : World) : Calls Try.prog 6 #[] w fun e w' => e = .returned (.bool true) ∧ Below w.heap.size w w' := by
  obtain ⟨w0, HW0⟩ : ∃ w0, Hid (w0 = w.alloc (.cells #[.int .i64 0] 3)) := ⟨_, rfl⟩
  have HB0 : Hid (Below w.heap.size w w0) := by rw [Hid, HW0.out]; exact (Below.refl _ _).alloc (Nat.le_refl _) _
  have HR0 : Hid (Row w0 (some ⟨w.heap.size, 0, none⟩) 1 (fun _ => 0)) := by rw [Hid, HW0.out]; exact row_zero1 w
  go_enter Try.func6, Try.ntmps6
  go_wp2_with fail
  rw [← HW0.out]
  refine (concepts_any 1 1 (some ⟨w.heap.size, 0, none⟩) 1 1 (fun _ => 0) w0 (by unfold maxLen; omega) HR0.out).mono ?_
  rintro e w1 ⟨h, hb1⟩
  have HB1 : Hid (Below w.heap.size w w1) := Below.then HB0.out hb1
  clear hb1 HW0 HB0 HR0
  obtain ⟨pa, pc, HE1, HP1⟩ : ∃ pa pc, Hid (e = .returned (.tuple #[.slice pa 2 pc, .int .i64 0])) ∧ Hid (PSl w1 (.slice pa 2 pc) [(0, 1), (1, 0)]) := by
    rcases h with ⟨c, h0, hc, _⟩ | ⟨r, v, _, _, hr, _, _, _, rfl, hv⟩
    · exact absurd (begun_chk hc) h0
    obtain rfl : r = 1 := by omega
    rw [begun_cons] at hv
    obtain ⟨pa, pc, rfl, hpr⟩ := hv
    exact ⟨pa, pc, rfl, pa, pc, rfl, hpr⟩
  obtain rfl := HE1.out
  clear h HE1
  obtain ⟨w2, HW2⟩ : ∃ w2, Hid (w2 = w1.alloc (.cells #[.int .i64 0] 3)) := ⟨_, rfl⟩
  have HB2 : Hid (Below w1.heap.size w1 w2) := by rw [Hid, HW2.out]; exact (Below.refl _ _).alloc (Nat.le_refl _) _
  have HR2 : Hid (Row w2 (some ⟨w1.heap.size, 0, none⟩) 1 (fun _ => 0)) := by rw [Hid, HW2.out]; exact row_zero1 w1
  go_wp2_with fail
  rw [← HW2.out]
  refine (next_any 1 1 (some ⟨w1.heap.size, 0, none⟩) 1 1 (fun _ => 0) 0 w2 (by unfold maxLen; omega) HR2.out).mono ?_
  rintro e w3 ⟨h, hb3⟩
  have HB3 : Hid (Below w.heap.size w w3) := Below.then (Below.then HB1.out HB2.out) hb3
  have HP3 : Hid (PSl w3 (.slice pa 2 pc) [(0, 1), (1, 0)]) := (HP1.out.below HB2.out).below hb3
  clear hb3 HW2 HB2 HR2 HP1 HB1
  have HN : Hid (e = .returned (.tuple #[.int .i64 1, .int .i64 0])) := by
    rcases h with ⟨c, h0, hc, _⟩ | ⟨r, s, _, hr, _, _, _, hs, _, _, ⟨hn, _⟩ | ⟨x, hx, he⟩⟩
    · exact absurd (begun_schk hc) h0
    · obtain rfl : r = 1 := by omega
      obtain rfl : s = 0 := by omega
      rw [begun_nxt] at hn; cases hn
    · obtain rfl : r = 1 := by omega
      obtain rfl : s = 0 := by omega
      rw [begun_nxt] at hx; cases hx; exact he
  obtain rfl := HN.out
  clear h HN
  obtain ⟨w4, HW4⟩ : ∃ w4, Hid (w4 = w3.alloc (.cells #[.int .i64 0, .int .i64 1, .int .i64 1, .int .i64 0] 34)) := ⟨_, rfl⟩
  have HB4 : Hid (Below w3.heap.size w3 w4) := by rw [Hid, HW4.out]; exact (Below.refl _ _).alloc (Nat.le_refl _) _
  have HQ4 : Hid (PSl w4 (.slice (some ⟨w3.heap.size, 0, none⟩) 2 2) [(0, 1), (1, 0)]) := by rw [Hid, HW4.out]; exact begun_pairs w3
  go_wp2_with fail
  rw [← HW4.out]
  refine (samePairs_any _ _ [(0, 1), (1, 0)] w4 (by decide) (HP3.out.below HB4.out) HQ4.out).mono ?_
  rintro e w5 ⟨rfl, hb5⟩
  have HB5 : Hid (Below w.heap.size w w5) := Below.then (Below.then HB3.out HB4.out) hb5
  clear hb5 HW4 HB4 HQ4 HP3 HB3
  go_wp2_with fail
  go_ret
  exact ⟨rfl, HB5.out⟩

end Go.Proofs.Ytpmgengddnafeab
