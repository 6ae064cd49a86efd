/-
  What hasselaw.clockBegun answers: true. No condition.
-/
import Derived.Test.YtomoodpgmkjacabDoorClV
namespace Go.Proofs.YtomoodpgmkjacabDoor
open Go.RowKit

def eB1 (k : Nat) : Int × Int × Int := if k = 0 then (2, 0, 0) else (3, 1, 0)
def eB2 (_ : Nat) : Int × Int × Int := (2, 0, 7)
theorem eB1_ck : CkE 2 2 eB1 0 := by
  refine .inr ⟨by decide, .inr ⟨rfl, fun j hj => ?_⟩⟩
  have hj2 : j = 0 ∨ j = 1 := by omega
  rcases hj2 with rfl | rfl
  · refine .inr ⟨by decide, .inr ⟨by decide, .inr ⟨.inr ?_, .inr ⟨rfl, fun h => absurd h (by decide)⟩⟩⟩⟩
    exact fun ⟨_, h, _⟩ => absurd h (Nat.not_lt_zero _)
  · refine .inr ⟨by decide, .inr ⟨by decide, .inr ⟨.inr ?_, .inr ⟨rfl, fun _ => ⟨0, by decide, by decide, by decide⟩⟩⟩⟩⟩
    rintro ⟨k, hk, h1, _⟩
    obtain rfl : k = 0 := by omega
    revert h1
    decide
theorem eB2_ck : CkE 1 1 eB2 0 := by
  refine .inr ⟨by decide, .inr ⟨rfl, fun j hj => ?_⟩⟩
  obtain rfl : j = 0 := by omega
  refine .inr ⟨by decide, .inr ⟨by decide, .inr ⟨.inr ?_, .inr ⟨rfl, fun h => absurd h (by decide)⟩⟩⟩⟩
  exact fun ⟨_, h, _⟩ => absurd h (Nat.not_lt_zero _)
theorem eB1_tck : mapTo (tck eB1 2) 2 = [1, 2] := by decide +kernel
theorem eB2_srt : srt eB2 1 1 = [7] := by decide +kernel
set_option maxRecDepth 100000 in
set_option maxHeartbeats 4000000 in
theorem clockBegun_any (w : World) : Calls Tryd.prog 4 #[] w fun e w' => e = .returned (.bool true) ∧ Below w.heap.size w w' := by
  have HB0 : Hid (Below w.heap.size w (w.alloc (.cells #[.int .i64 2, .int .i64 0, .int .i64 0, .int .i64 3, .int .i64 1, .int .i64 0] 38))) := (Below.refl _ _).alloc (Nat.le_refl _) _
  have HR0 : Hid (ERow (w.alloc (.cells #[.int .i64 2, .int .i64 0, .int .i64 0, .int .i64 3, .int .i64 1, .int .i64 0] 38)) (some ⟨w.heap.size, 0, none⟩) 2 eB1) := fun k hk => by
    have hj2 : k = 0 ∨ k = 1 := by omega
    rcases hj2 with rfl | rfl
    · exact ⟨w.heap.size, 0, rfl, by simp [eB1], by simp [eB1], by simp [eB1]⟩
    · exact ⟨w.heap.size, 0, rfl, by simp [eB1], by simp [eB1], by simp [eB1]⟩
  go_enter Tryd.func4, Tryd.ntmps4
  go_wp2_with fail
  refine (ticks_any 2 _ 2 2 eB1 _ (by unfold maxLen; omega) (Nat.le_refl _) HR0.out).mono ?_
  rintro e w1 ⟨⟨c, v, hck, rfl, hv⟩, hb⟩
  obtain rfl : c = 0 := hck.unique eB1_ck
  have HB1 : Hid (Below w.heap.size w w1) := Below.then HB0.out hb
  rcases hv with ⟨h, _⟩ | ⟨_, hv⟩
  · exact absurd rfl h
  rw [eB1_tck] at hv
  have bA := (Below.refl w1.heap.size w1).alloc (Nat.le_refl _) (.cells #[.int .i64 2, .int .i64 0, .int .i64 7] 38)
  have HV1 : Hid (NSl (w1.alloc (.cells #[.int .i64 2, .int .i64 0, .int .i64 7] 38)) v [1, 2]) := hv.below bA
  have HB2 : Hid (Below w.heap.size w (w1.alloc (.cells #[.int .i64 2, .int .i64 0, .int .i64 7] 38))) := Below.then HB1.out bA
  have HR1 : Hid (ERow (w1.alloc (.cells #[.int .i64 2, .int .i64 0, .int .i64 7] 38)) (some ⟨w1.heap.size, 0, none⟩) 1 eB2) := fun k hk => by
    obtain rfl : k = 0 := by omega
    exact ⟨w1.heap.size, 0, rfl, by simp [eB2], by simp [eB2], by simp [eB2]⟩
  clear hck hb hv bA HR0 HB0 HB1
  go_wp2_with fail
  refine (lost_any 1 _ 1 1 eB2 _ (by unfold maxLen; omega) (Nat.le_refl _) HR1.out).mono ?_
  rintro e w2 ⟨⟨c, v2, hck, rfl, hv2⟩, hb⟩
  obtain rfl : c = 0 := hck.unique eB2_ck
  have HB3 : Hid (Below w.heap.size w w2) := Below.then HB2.out hb
  have HV3 : Hid (NSl w2 v [1, 2]) := HV1.out.below hb
  rcases hv2 with ⟨h, _⟩ | ⟨_, hv2⟩
  · exact absurd rfl h
  rw [eB2_srt] at hv2
  have HV4 : Hid (NSl w2 v2 [7]) := hv2
  clear hck hb hv2 HR1 HB2 HV1
  obtain ⟨a1, k1, rfl, r1⟩ := HV3.out
  obtain ⟨a2, k2, rfl, r2⟩ := HV4.out
  have HBA : Hid (Below w2.heap.size w2 (w2.alloc (.cells #[.int .i64 1, .int .i64 2] 3))) := (Below.refl _ _).alloc (Nat.le_refl _) _
  have R1 : Hid (Row (w2.alloc (.cells #[.int .i64 1, .int .i64 2] 3)) a1 2 (fun k => (nth [1, 2] k : Nat))) := r1.below HBA.out
  have R2 : Hid (Row (w2.alloc (.cells #[.int .i64 1, .int .i64 2] 3)) (some ⟨w2.heap.size, 0, none⟩) 2 (fun k => (nth [1, 2] k : Nat))) := fun k hk => by
    have hj2 : k = 0 ∨ k = 1 := by omega
    rcases hj2 with rfl | rfl
    · exact ⟨w2.heap.size, 0, rfl, by simp [nth]⟩
    · exact ⟨w2.heap.size, 0, rfl, by simp [nth]⟩
  have R3 : Hid (Row (w2.alloc (.cells #[.int .i64 1, .int .i64 2] 3)) a2 1 (fun k => (nth [7] k : Nat))) := r2.below HBA.out
  have HB4 : Hid (Below w.heap.size w (w2.alloc (.cells #[.int .i64 1, .int .i64 2] 3))) := Below.then HB3.out HBA.out
  clear r1 r2 HV3 HV4 HB3
  go_wp2_with fail
  refine (same_any a1 (some ⟨w2.heap.size, 0, none⟩) 2 k1 2 2 _ _ _ (by unfold maxLen; omega) (by unfold maxLen; omega) R1.out R2.out).mono ?_
  rintro e w3 ⟨⟨b, rfl, hb2⟩, hb⟩
  obtain rfl : b = true := hb2.2 ⟨rfl, fun _ _ => rfl⟩
  have bA := (Below.refl w3.heap.size w3).alloc (Nat.le_refl _) (.cells #[.int .i64 7] 3)
  have R4 : Hid (Row (w3.alloc (.cells #[.int .i64 7] 3)) a2 1 (fun k => (nth [7] k : Nat))) := (R3.out.below hb).below bA
  have R5 : Hid (Row (w3.alloc (.cells #[.int .i64 7] 3)) (some ⟨w3.heap.size, 0, none⟩) 1 (fun k => (nth [7] k : Nat))) := fun k hk => by
    obtain rfl : k = 0 := by omega
    exact ⟨w3.heap.size, 0, rfl, by simp [nth]⟩
  have HB5 : Hid (Below w.heap.size w (w3.alloc (.cells #[.int .i64 7] 3))) := Below.then (Below.then HB4.out hb) bA
  clear hb hb2 bA R1 R2 R3 HB4 HBA
  go_wp2_with fail
  refine (same_any a2 (some ⟨w3.heap.size, 0, none⟩) 1 k2 1 1 _ _ _ (by unfold maxLen; omega) (by unfold maxLen; omega) R4.out R5.out).mono ?_
  rintro e w4 ⟨⟨b, rfl, hb2⟩, hb⟩
  obtain rfl : b = true := hb2.2 ⟨rfl, fun _ _ => rfl⟩
  have HB6 : Hid (Below w.heap.size w w4) := Below.then HB5.out hb
  clear hb hb2 R4 R5 HB5
  go_wp2_with fail
  go_ret
  exact ⟨rfl, HB6.out⟩
end Go.Proofs.YtomoodpgmkjacabDoor
