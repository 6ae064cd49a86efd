/-
  hasselaw.polyBegun answers true. Condition: the table of the least bits.
-/
import Derived.Test.YtncjlfhgenmheabDoorZetP
namespace Go.Proofs.YtncjlfhgenmheabDoor
open Go.RowKit Go.Maps

def gLad (k : Nat) : Nat := if k = 0 then 0 else if k = 1 then 1 else 3
def fLad (k : Nat) : Int := (gLad k : Nat)
theorem ladder_any (w : World) : Calls Tryd.prog 13 #[] w fun e w' => (∃ a, e = .returned (.agg #[.int .i64 3, .slice a 3 3]) ∧ Row w' a 3 fLad) ∧ Below w.heap.size w w' := by
  go_enter Tryd.func13, Tryd.ntmps13
  go_wp2_with fail
  refine bodyPost_ret (v := .agg #[.int .i64 3, .slice (some ⟨w.heap.size + 1, 0, none⟩) 3 3]) (by simp [results, Tryd.results13, go_sem]) rfl ⟨⟨_, rfl, ?_⟩, ?_⟩
  · intro k hk
    refine ⟨w.heap.size + 1, 0, rfl, ?_⟩
    match k, hk with
    | 0, _ => simp [fLad, gLad]
    | 1, _ => simp [fLad, gLad]
    | 2, _ => simp [fLad, gLad]
  · exact ((Below.refl _ _).alloc (Nat.le_refl _) _).alloc (by simp) _
theorem natLad : nat fLad = gLad := by funext k; simp [nat, fLad]
theorem lad_chk : Chk 3 3 fLad 0 := by
  refine .inr ⟨3, rfl, by omega, .inr ⟨rfl, .inr ⟨?_, .inr ⟨rfl, ?_⟩⟩⟩⟩
  · unfold Rng fLad; decide +kernel
  · rw [natLad]; unfold Ord OrdAt; decide +kernel
def f0121 (k : Nat) : Int := if k = 0 then 0 else if k = 1 then 1 else if k = 2 then 2 else 1
theorem onto_lad {e : Ending} {w : World} (h : OnPost 3 3 fLad e w) : ∃ b : Nat, e = .returned (.tuple #[.slice (some ⟨b, 0, none⟩) 4 4, .int .i64 0]) ∧ Row w (some ⟨b, 0, none⟩) 4 f0121 := by
  obtain ⟨c, v, hc, rfl, hv⟩ := h
  obtain rfl : c = 0 := Chk.unique hc lad_chk
  rcases hv with ⟨h, _⟩ | ⟨_, b, rfl, hr⟩
  · exact absurd rfl h
  · refine ⟨b, rfl, hr.congr fun k hk => ?_⟩
    rw [natLad]
    match k, hk with
    | 0, _ => decide +kernel
    | 1, _ => decide +kernel
    | 2, _ => decide +kernel
    | 3, _ => decide +kernel
theorem v_lad {e : Ending} {n least : Int} {V : (Nat → Nat) → Nat → Int → Int} (h : VPost 3 3 fLad n least V e) (h1 : least ≤ n) (h2 : n ≤ 20) : e = .returned (.tuple #[.int .i64 (wz (V gLad 3 n)), .int .i64 0]) := by
  obtain ⟨c, v, hc, rfl, hv⟩ := h
  obtain rfl : c = 0 := hc.unique (.inr ⟨lad_chk, .inr ⟨rfl, h1, h2⟩⟩)
  rcases hv with ⟨h, _⟩ | ⟨_, rfl⟩
  · exact absurd rfl h
  · rw [natLad]
theorem val_lad : wz (valV gLad 3 3) = 10 := by decide +kernel
theorem zet_lad : wz (zetV gLad 3 2) = 3 := by decide +kernel
theorem str_lad : wz (strV gLad 3 3) = 1 := by decide +kernel
theorem row0121 (w : World) : Row (w.alloc (.cells #[.int .i64 0, .int .i64 1, .int .i64 2, .int .i64 1] 3)) (some ⟨w.heap.size, 0, none⟩) 4 f0121 := fun k hk => ⟨_, _, rfl, by
  rcases (by omega : k = 0 ∨ k = 1 ∨ k = 2 ∨ k = 3) with rfl | rfl | rfl | rfl <;> simp [f0121]⟩

set_option maxHeartbeats 2000000 in
theorem polyBegun_any (w : World) (hT : Tab w) : Calls Tryd.prog 6 #[] w fun e w' => e = .returned (.bool true) ∧ Below w.heap.size w w' := by
  have HT : Hid (Tab w) := hT
  clear hT
  go_enter Tryd.func6, Tryd.ntmps6
  go_wp2_with fail
  refine (ladder_any _).mono ?_
  rintro e w1 ⟨⟨a1, rfl, hr1⟩, hb1⟩
  have HB1 : Hid (Below w.heap.size w w1) := hb1
  have HC : Hid (Calls Tryd.prog 7 #[.agg #[.int .i64 3, .slice a1 3 3]] w1 fun e w' => (∃ b : Nat, e = .returned (.tuple #[.slice (some ⟨b, 0, none⟩) 4 4, .int .i64 0]) ∧ Row w' (some ⟨b, 0, none⟩) 4 f0121) ∧ Below w1.heap.size w1 w') := (onto_any 3 a1 3 3 fLad w1 (by unfold maxLen; omega) hr1).mono fun e w' h => ⟨onto_lad h.1, h.2⟩
  clear hb1 hr1
  go_wp2_with fail
  refine (Calls.mono HC.out) ?_
  rintro e w2 ⟨⟨b, rfl, hrb⟩, hb2⟩
  have HB2 : Hid (Below w.heap.size w w2) := Below.then HB1.out hb2
  have HR2 : Hid (Row w2 (some ⟨b, 0, none⟩) 4 f0121) := hrb
  clear hb2 hrb HC HB1
  go_wp2_with fail
  refine (ladder_any _).mono ?_
  rintro e w3 ⟨⟨a3, rfl, hr3⟩, hb3⟩
  have HB3 : Hid (Below w.heap.size w w3) := Below.then HB2.out hb3
  have HR3 : Hid (Row w3 (some ⟨b, 0, none⟩) 4 f0121) := HR2.out.below hb3
  have HC : Hid (Calls Tryd.prog 14 #[.agg #[.int .i64 3, .slice a3 3 3], .int .i64 3] w3 fun e w' => e = .returned (.tuple #[.int .i64 10, .int .i64 0]) ∧ Below w3.heap.size w3 w') := (value_any 3 a3 3 3 fLad 3 w3 (by unfold maxLen; omega) hr3).mono fun e w' h => ⟨by rw [← val_lad]; exact v_lad h.1 (by decide) (by decide), h.2⟩
  clear hb3 hr3 HB2 HR2
  go_wp2_with fail
  refine (Calls.mono HC.out) ?_
  rintro e w4 ⟨rfl, hb4⟩
  have HB4 : Hid (Below w.heap.size w w4) := Below.then HB3.out hb4
  have HR4 : Hid (Row w4 (some ⟨b, 0, none⟩) 4 f0121) := HR3.out.below hb4
  clear hb4 HC HB3 HR3
  go_wp2_with fail
  refine (ladder_any _).mono ?_
  rintro e w5 ⟨⟨a5, rfl, hr5⟩, hb5⟩
  have HB5 : Hid (Below w.heap.size w w5) := Below.then HB4.out hb5
  have HR5 : Hid (Row w5 (some ⟨b, 0, none⟩) 4 f0121) := HR4.out.below hb5
  have HC : Hid (Calls Tryd.prog 10 #[.agg #[.int .i64 3, .slice a5 3 3], .int .i64 2] w5 fun e w' => e = .returned (.tuple #[.int .i64 3, .int .i64 0]) ∧ Below w5.heap.size w5 w') := (zeta_any 3 a5 3 3 fLad 2 w5 (by unfold maxLen; omega) hr5).mono fun e w' h => ⟨by rw [← zet_lad]; exact v_lad h.1 (by decide) (by decide), h.2⟩
  clear hb5 hr5 HB4 HR4
  go_wp2_with fail
  refine (Calls.mono HC.out) ?_
  rintro e w6 ⟨rfl, hb6⟩
  have HB6 : Hid (Below w.heap.size w w6) := Below.then HB5.out hb6
  have HR6 : Hid (Row w6 (some ⟨b, 0, none⟩) 4 f0121) := HR5.out.below hb6
  clear hb6 HC HB5 HR5
  go_wp2_with fail
  refine (ladder_any _).mono ?_
  rintro e w7 ⟨⟨a7, rfl, hr7⟩, hb7⟩
  have HB7 : Hid (Below w.heap.size w w7) := Below.then HB6.out hb7
  have HR7 : Hid (Row w7 (some ⟨b, 0, none⟩) 4 f0121) := HR6.out.below hb7
  have HC : Hid (Calls Tryd.prog 15 #[.agg #[.int .i64 3, .slice a7 3 3], .int .i64 3] w7 fun e w' => e = .returned (.tuple #[.int .i64 1, .int .i64 0]) ∧ Below w7.heap.size w7 w') := (strict_any 3 a7 3 3 fLad 3 w7 (by unfold maxLen; omega) hr7 (HT.out.step HB7.out)).mono fun e w' h => ⟨by rw [← str_lad]; exact v_lad h.1 (by decide) (by decide), h.2⟩
  clear hb7 hr7 HB6 HR6
  go_wp2_with fail
  refine (Calls.mono HC.out) ?_
  rintro e w8 ⟨rfl, hb8⟩
  have HB8 : Hid (Below w.heap.size w w8) := Below.then HB7.out hb8
  have HR8 : Hid (Row w8 (some ⟨b, 0, none⟩) 4 f0121) := HR7.out.below hb8
  clear hb8 HC HB7 HR7
  have hba : Below w8.heap.size w8 (w8.alloc (.cells #[.int .i64 0, .int .i64 1, .int .i64 2, .int .i64 1] 3)) := (Below.refl _ _).alloc (Nat.le_refl _) _
  have HB9 : Hid (Below w.heap.size w (w8.alloc (.cells #[.int .i64 0, .int .i64 1, .int .i64 2, .int .i64 1] 3))) := Below.then HB8.out hba
  have HR9 : Hid (Row (w8.alloc (.cells #[.int .i64 0, .int .i64 1, .int .i64 2, .int .i64 1] 3)) (some ⟨b, 0, none⟩) 4 f0121) := HR8.out.below hba
  clear hba
  go_wp2_with fail
  refine (same_any (some ⟨b, 0, none⟩) (some ⟨w8.heap.size, 0, none⟩) 4 4 4 4 f0121 f0121 _ (by unfold maxLen; omega) (by unfold maxLen; omega) HR9.out (row0121 w8)).mono ?_
  rintro e w9 ⟨⟨q, rfl, hq⟩, hb9⟩
  obtain rfl : q = true := hq.2 ⟨rfl, fun _ _ => rfl⟩
  have HB10 : Hid (Below w.heap.size w w9) := Below.then HB9.out hb9
  clear hb9 hq HB9 HR9 HB8 HR8
  go_wp2_with fail
  go_ret
  exact ⟨rfl, HB10.out⟩
end Go.Proofs.YtncjlfhgenmheabDoor
