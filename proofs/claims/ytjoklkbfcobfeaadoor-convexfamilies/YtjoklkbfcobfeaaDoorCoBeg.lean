/-
  That hasselaw.convexBegun answers true. Condition: the table of the least bits.
-/
import Derived.Test.YtjoklkbfcobfeaaDoorWds
namespace Go.Proofs.YtjoklkbfcobfeaaDoor
open Go.RowKit

/-- The sets of three points on a line. -/
def lin (k : Nat) : Int := if k = 0 then 0 else if k = 1 then 1 else if k = 2 then 3 else if k = 3 then 4 else if k = 4 then 5 else if k = 5 then 6 else 7
theorem lin_in : FIn 3 7 lin := by
  have : ∀ k, k < 7 → 0 ≤ lin k ∧ lin k < ((pw 3 : Nat) : Int) := by decide +kernel
  exact this
theorem lin_ris : Ris 7 lin := by
  have : ∀ k, k < 7 → 0 < k → lin (k - 1) < lin k := by decide +kernel
  exact this
theorem lin_whl : Whl 3 7 lin := by
  constructor <;> decide +kernel
theorem lin_w : WCk 3 7 lin 0 := .inr ⟨3, rfl, by omega, lin_in, lin_ris, .inr ⟨rfl, lin_whl⟩⟩
theorem lin_s (s : Nat) (h : s < 8) : SCk 3 7 lin (s : Int) 0 := by
  have h8 : pw 3 = 8 := by decide
  exact .inr ⟨3, rfl, by omega, lin_w, .inr ⟨rfl, by rw [h8]; omega⟩⟩
theorem lin_num {F : Nat → Nat → Nat} {s v : Nat} {e : Ending} (hs : s < 8) (hv : F 3 s = v) (h : NumIs 3 7 lin (s : Int) F e) : e = .returned (.tuple #[.int .i64 (v : Nat), .int .i64 0]) := by
  rcases h with ⟨c, h0, h, _⟩ | ⟨n, s', h1, h2, _, _, _, _, _, _, h⟩
  · exact absurd (h.unique (lin_s s hs)) h0
  · obtain rfl : n = 3 := by omega
    obtain rfl : s' = s := by omega
    rw [h, hv]
theorem lin_word {F : Nat → Nat} {v : Nat} {e : Ending} (hv : F 3 = v) (h : WrdIs 3 7 lin F e) : e = .returned (.tuple #[.int .i64 (v : Nat), .int .i64 0]) := by
  rcases h with ⟨c, h0, h, _⟩ | ⟨n, h1, _, _, _, _, _, h⟩
  · exact absurd (h.unique lin_w) h0
  · obtain rfl : n = 3 := by omega
    rw [h, hv]
theorem lin_hul : hul (nat lin) 7 3 5 = 7 := by decide +kernel
theorem lin_crn : crn (nat lin) 7 3 7 = 5 := by decide +kernel
theorem lin_wrd : wy (mem (nat lin) 7) (pw 3 - 1) = 4 := by decide +kernel

set_option maxHeartbeats 1000000 in
theorem convexBegun_any (w : World) (hT : Tab w) : Calls Tryd.prog 11 #[] w fun e w' => e = .returned (.bool true) ∧ Below w.heap.size w w' := by
  obtain ⟨W1, HW1⟩ : ∃ W1, Hid (W1 = (w.alloc (.cells #[.int .i64 0, .int .i64 1, .int .i64 3, .int .i64 4, .int .i64 5, .int .i64 6, .int .i64 7] 3)).alloc (.cells #[.int .i64 3, .slice (some ⟨w.heap.size, 0, none⟩) 7 7] 24)) := ⟨_, rfl⟩
  have HB1 : Hid (Below w.heap.size w W1) := by rw [HW1.out]; exact ((Below.refl _ _).alloc (Nat.le_refl _) _).alloc (by simp) _
  have HR1 : Hid (Row W1 (some ⟨w.heap.size, 0, none⟩) 7 lin) := fun k hk => by
    refine ⟨w.heap.size, 0, rfl, ?_⟩
    rw [HW1.out]
    match k, hk with
    | 0, _ => simp [lin]
    | 1, _ => simp [lin]
    | 2, _ => simp [lin]
    | 3, _ => simp [lin]
    | 4, _ => simp [lin]
    | 5, _ => simp [lin]
    | 6, _ => simp [lin]
  have HT1 : Hid (Tab W1) := hT.step HB1.out
  have HC0 : Hid (∀ w', Below W1.heap.size W1 w' → w'.cell? ⟨w.heap.size + 1, 0, none⟩ = some (.int .i64 3)) := fun w' h => by
    have e : W1.cell? ⟨w.heap.size + 1, 0, none⟩ = some (.int .i64 3) := by rw [HW1.out]; simp
    exact (h.cell (World.block_lt_of_cell? _ _ e)).trans e
  have HC1 : Hid (∀ w', Below W1.heap.size W1 w' → w'.cell? ⟨w.heap.size + 1, 1, none⟩ = some (.slice (some ⟨w.heap.size, 0, none⟩) 7 7)) := fun w' h => by
    have e : W1.cell? ⟨w.heap.size + 1, 1, none⟩ = some (.slice (some ⟨w.heap.size, 0, none⟩) 7 7) := by rw [HW1.out]; simp
    exact (h.cell (World.block_lt_of_cell? _ _ e)).trans e
  have HHU : Hid (Calls Tryd.prog 21 #[.agg #[.int .i64 3, .slice (some ⟨w.heap.size, 0, none⟩) 7 7], .int .i64 5] W1 fun e w' => e = .returned (.tuple #[.int .i64 7, .int .i64 0]) ∧ Below W1.heap.size W1 w') :=
    (hullX_any 3 _ 7 7 lin 5 W1 (by unfold maxLen; omega) HR1.out HT1.out).mono fun e w' ⟨h, hb⟩ => ⟨lin_num (s := 5) (v := 7) (by omega) lin_hul h, hb⟩
  have HWD : Hid (∀ w2, Below W1.heap.size W1 w2 → Calls Tryd.prog 27 #[.agg #[.int .i64 3, .slice (some ⟨w.heap.size, 0, none⟩) 7 7]] w2 fun e w' => e = .returned (.tuple #[.int .i64 4, .int .i64 0]) ∧ Below w2.heap.size w2 w') := fun w2 h2 =>
    (words_any 3 _ 7 7 lin w2 (by unfold maxLen; omega) (HR1.out.below h2) (HT1.out.step h2)).mono fun e w' ⟨h, hb⟩ => ⟨lin_word (v := 4) lin_wrd h, hb⟩
  have HCN : Hid (∀ w2, Below W1.heap.size W1 w2 → Calls Tryd.prog 25 #[.agg #[.int .i64 3, .slice (some ⟨w.heap.size, 0, none⟩) 7 7], .int .i64 7] w2 fun e w' => e = .returned (.tuple #[.int .i64 5, .int .i64 0]) ∧ Below w2.heap.size w2 w') := fun w2 h2 =>
    (corners_any 3 _ 7 7 lin 7 w2 (by unfold maxLen; omega) (HR1.out.below h2) (HT1.out.step h2)).mono fun e w' ⟨h, hb⟩ => ⟨lin_num (s := 7) (v := 5) (by omega) lin_crn h, hb⟩
  clear hT
  go_enter Tryd.func11, Tryd.ntmps11
  go_wp2_with fail
  rw [← HW1.out]
  refine HHU.out.mono ?_
  rintro e w2 ⟨rfl, hb2⟩
  have HB2 : Hid (Below W1.heap.size W1 w2) := hb2
  have c0 := HC0.out _ hb2
  have c1 := HC1.out _ hb2
  clear hb2 HHU
  go_wp2_with fail
  refine (HWD.out _ HB2.out).mono ?_
  rintro e w3 ⟨rfl, hb3⟩
  have HB3 : Hid (Below W1.heap.size W1 w3) := Below.then HB2.out hb3
  clear c0 c1 hb3 HWD
  have c0 := HC0.out _ HB3.out
  have c1 := HC1.out _ HB3.out
  go_wp2_with fail
  refine (HCN.out _ HB3.out).mono ?_
  rintro e w4 ⟨rfl, hb4⟩
  have HB4 : Hid (Below W1.heap.size W1 w4) := Below.then HB3.out hb4
  clear c0 c1 hb4 HCN
  go_wp2_with fail
  go_ret
  exact ⟨rfl, Below.then HB1.out HB4.out⟩
end Go.Proofs.YtjoklkbfcobfeaaDoor
