/-
  hasselaw.moebiusBegun answers true. No condition.
-/
import Derived.Test.YtgdbldfbhiaepabDoorMuP
import Derived.Test.YtgdbldfbhiaepabDoorSumQ
import Derived.Test.YtgdbldfbhiaepabDoorEulP
namespace Go.Proofs.YtgdbldfbhiaepabDoor
open Go.RowKit

def gLad (k : Nat) : Nat := if k = 0 then 0 else if k = 1 then 1 else 3
def fLad (k : Nat) : Int := (gLad k : Nat)
theorem ladder_any (w : World) : Calls Tryd.prog 13 #[] w fun e w' => (∃ a, e = .returned (.agg #[.int .i64 3, .slice a 3 3]) ∧ Row w' a 3 fLad) ∧ Below w.heap.size w w' := by
  go_enter Tryd.func13, Tryd.ntmps13
  go_wp2_with fail
  refine bodyPost_ret (v := .agg #[.int .i64 3, .slice (some ⟨w.heap.size + 1, 0, none⟩) 3 3]) (by simp [results, Tryd.results13, go_sem]) rfl ⟨⟨_, rfl, ?_⟩, ?_⟩
  · intro k hk
    refine ⟨w.heap.size + 1, 0, rfl, ?_⟩
    match k, hk with
    | 0, _ => simp [fLad, gLad]
    | 1, _ => simp [fLad, gLad]
    | 2, _ => simp [fLad, gLad]
  · exact ((Below.refl _ _).alloc (Nat.le_refl _) _).alloc (by simp) _
theorem natLad : nat fLad = gLad := by funext k; simp [nat, fLad]
theorem lad_chk : Chk 3 3 fLad 0 := by
  refine .inr ⟨3, rfl, by omega, .inr ⟨rfl, .inr ⟨?_, .inr ⟨rfl, ?_⟩⟩⟩⟩
  · unfold Rng fLad; decide +kernel
  · rw [natLad]; unfold Ord OrdAt; decide +kernel
theorem mu_lad {e : Ending} (h : MuPost 3 3 fLad 0 1 e) : e = .returned (.tuple #[.int .i64 (-1), .int .i64 0]) := by
  obtain ⟨c, v, hc, rfl, hv⟩ := h
  obtain rfl : c = 0 := hc.unique (.inr ⟨lad_chk, .inr ⟨rfl, rfl, rfl⟩⟩)
  rcases hv with ⟨h, _⟩ | ⟨_, x, y, hx, hy, _, _, rfl⟩
  · exact absurd rfl h
  · obtain rfl : x = 0 := by omega
    obtain rfl : y = 1 := by omega
    have e : wz (muO gLad 3 0 1) = -1 := by decide +kernel
    rw [natLad, e]
def f111 (_ : Nat) : Int := 1
def f123 (k : Nat) : Int := (k : Int) + 1
theorem sums_lad {e : Ending} {w : World} (h : SmPost 3 3 fLad 3 f111 smI e w) : ∃ a cap, e = .returned (.tuple #[.slice a 3 cap, .int .i64 0]) ∧ Row w a 3 f123 := by
  obtain ⟨c, v, hc, rfl, hv⟩ := h
  obtain rfl : c = 0 := hc.unique (.inr ⟨lad_chk, .inr ⟨rfl, .inr ⟨rfl, fun k _ => ⟨show (-1000000 : Int) ≤ 1 by decide, show (1 : Int) ≤ 1000000 by decide⟩⟩⟩⟩)
  rcases hv with ⟨h, _⟩ | ⟨_, a, cap, rfl, hr⟩
  · exact absurd rfl h
  · refine ⟨a, cap, rfl, hr.congr fun k hk => ?_⟩
    rw [natLad]
    match k, hk with
    | 0, _ => decide +kernel
    | 1, _ => decide +kernel
    | 2, _ => decide +kernel
theorem eul_lad {e : Ending} (h : EuPost 3 3 fLad e) : e = .returned (.tuple #[.int .i64 0, .int .i64 0]) := by
  obtain ⟨c, v, hc, rfl, hv⟩ := h
  obtain rfl : c = 0 := Chk.unique hc lad_chk
  rcases hv with ⟨h, _⟩ | ⟨_, rfl⟩
  · exact absurd rfl h
  · have e : wz (eul gLad 3) = 0 := by decide +kernel
    rw [natLad, e]
theorem row111 (w : World) : Row (w.alloc (.cells #[.int .i64 1, .int .i64 1, .int .i64 1] 3)) (some ⟨w.heap.size, 0, none⟩) 3 f111 := fun k hk => ⟨_, _, rfl, by
  rcases (by omega : k = 0 ∨ k = 1 ∨ k = 2) with rfl | rfl | rfl <;> simp [f111]⟩
theorem row123 (w : World) : Row (w.alloc (.cells #[.int .i64 1, .int .i64 2, .int .i64 3] 3)) (some ⟨w.heap.size, 0, none⟩) 3 f123 := fun k hk => ⟨_, _, rfl, by
  rcases (by omega : k = 0 ∨ k = 1 ∨ k = 2) with rfl | rfl | rfl <;> simp [f123]⟩

set_option maxHeartbeats 2000000 in
theorem moebiusBegun_any (w : World) : Calls Tryd.prog 5 #[] w fun e w' => e = .returned (.bool true) ∧ Below w.heap.size w w' := by
  go_enter Tryd.func5, Tryd.ntmps5
  go_wp2_with fail
  refine (ladder_any _).mono ?_
  rintro e w1 ⟨⟨a, rfl, hr1⟩, hb1⟩
  have HB1 : Hid (Below w.heap.size w w1) := hb1
  have HC : Hid (Calls Tryd.prog 6 #[.agg #[.int .i64 3, .slice a 3 3], .int .i64 0, .int .i64 1] w1 fun e w' => e = .returned (.tuple #[.int .i64 (-1), .int .i64 0]) ∧ Below w1.heap.size w1 w') := (muX_any 3 a 3 3 fLad 0 1 w1 (by unfold maxLen; omega) hr1).mono fun e w' h => ⟨mu_lad h.1, h.2⟩
  clear hb1 hr1
  go_wp2_with fail
  refine (Calls.mono HC.out) ?_
  rintro e w2 ⟨rfl, hb2⟩
  have HB2 : Hid (Below w.heap.size w w2) := Below.then HB1.out hb2
  clear hb2 HC HB1
  go_wp2_with fail
  refine (ladder_any _).mono ?_
  rintro e w3 ⟨⟨a3, rfl, hr3⟩, hb3⟩
  have hba : Below w3.heap.size w3 (w3.alloc (.cells #[.int .i64 1, .int .i64 1, .int .i64 1] 3)) := (Below.refl _ _).alloc (Nat.le_refl _) _
  have HB3 : Hid (Below w.heap.size w (w3.alloc (.cells #[.int .i64 1, .int .i64 1, .int .i64 1] 3))) := Below.then (Below.then HB2.out hb3) hba
  have HS : Hid (Calls Tryd.prog 14 #[.agg #[.int .i64 3, .slice a3 3 3], .slice (some ⟨w3.heap.size, 0, none⟩) 3 3] (w3.alloc (.cells #[.int .i64 1, .int .i64 1, .int .i64 1] 3)) fun e w' => (∃ a cap, e = .returned (.tuple #[.slice a 3 cap, .int .i64 0]) ∧ Row w' a 3 f123) ∧ Below (w3.alloc (.cells #[.int .i64 1, .int .i64 1, .int .i64 1] 3)).heap.size (w3.alloc (.cells #[.int .i64 1, .int .i64 1, .int .i64 1] 3)) w') :=
    (sums_any 3 a3 3 3 fLad (some ⟨w3.heap.size, 0, none⟩) 3 3 f111 _ (by unfold maxLen; omega) (by unfold maxLen; omega) (hr3.below hba) (row111 w3)).mono fun e w' h => ⟨sums_lad h.1, h.2⟩
  clear hb3 hba hr3 HB2
  go_wp2_with fail
  refine (Calls.mono HS.out) ?_
  rintro e w4 ⟨⟨a4, cap4, rfl, hr4⟩, hb4⟩
  have HB4 : Hid (Below w.heap.size w w4) := Below.then HB3.out hb4
  have HR4 : Hid (Row w4 a4 3 f123) := hr4
  clear hb4 hr4 HS HB3
  go_wp2_with fail
  refine (ladder_any _).mono ?_
  rintro e w5 ⟨⟨a5, rfl, hr5⟩, hb5⟩
  have HB5 : Hid (Below w.heap.size w w5) := Below.then HB4.out hb5
  have HR5 : Hid (Row w5 a4 3 f123) := HR4.out.below hb5
  have HC : Hid (Calls Tryd.prog 10 #[.agg #[.int .i64 3, .slice a5 3 3]] w5 fun e w' => e = .returned (.tuple #[.int .i64 0, .int .i64 0]) ∧ Below w5.heap.size w5 w') := (euler_any 3 a5 3 3 fLad w5 (by unfold maxLen; omega) hr5).mono fun e w' h => ⟨eul_lad h.1, h.2⟩
  clear hb5 hr5 HB4 HR4
  go_wp2_with fail
  refine (Calls.mono HC.out) ?_
  rintro e w6 ⟨rfl, hb6⟩
  have hbb : Below w6.heap.size w6 (w6.alloc (.cells #[.int .i64 1, .int .i64 2, .int .i64 3] 3)) := (Below.refl _ _).alloc (Nat.le_refl _) _
  have HB6 : Hid (Below w.heap.size w (w6.alloc (.cells #[.int .i64 1, .int .i64 2, .int .i64 3] 3))) := Below.then (Below.then HB5.out hb6) hbb
  have HR6 : Hid (Row (w6.alloc (.cells #[.int .i64 1, .int .i64 2, .int .i64 3] 3)) a4 3 f123) := (HR5.out.below hb6).below hbb
  clear hb6 hbb HC HB5 HR5
  go_wp2_with fail
  refine (same_any a4 (some ⟨w6.heap.size, 0, none⟩) 3 cap4 3 3 f123 f123 _ (by unfold maxLen; omega) (by unfold maxLen; omega) HR6.out (row123 w6)).mono ?_
  rintro e w7 ⟨⟨q, rfl, hq⟩, hb7⟩
  obtain rfl : q = true := hq.2 ⟨rfl, fun _ _ => rfl⟩
  have HB7 : Hid (Below w.heap.size w w7) := Below.then HB6.out hb7
  clear hb7 hq HB6 HR6
  go_wp2_with fail
  go_ret
  exact ⟨rfl, HB7.out⟩
end Go.Proofs.YtgdbldfbhiaepabDoor
