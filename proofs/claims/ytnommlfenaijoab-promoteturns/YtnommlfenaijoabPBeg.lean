/-
  That hasselaw.promoteBegun answers true. No condition.
-/
import Derived.Test.YtnommlfenaijoabPrO
namespace Go.Proofs.Ytnommlfenaijoab
set_option maxRecDepth 100000
open Go.RowKit

/-- Numbers that are written down. -/
def lv (l : List Int) (k : Nat) : Int := l.getD k 0
theorem lit_row (w : World) (l : List Int) : Row (w.alloc (.cells (l.map (fun x => Value.int .i64 x)).toArray 3)) (some ⟨w.heap.size, 0, none⟩) l.length (lv l) := fun k hk => by
  refine ⟨w.heap.size, 0, rfl, ?_⟩
  simp [lv, hk]
theorem lit2 (w : World) (l m : List Int) (W : World) (h : (w.alloc (.cells (l.map (fun x => Value.int .i64 x)).toArray 3)).alloc (.cells (m.map (fun x => Value.int .i64 x)).toArray 3) = W) :
    Row W (some ⟨w.heap.size, 0, none⟩) l.length (lv l) ∧ Row W (some ⟨w.heap.size + 1, 0, none⟩) m.length (lv m) ∧ Below w.heap.size w W := by
  subst h
  have s1 : (w.alloc (.cells (l.map (fun x => Value.int .i64 x)).toArray 3)).heap.size = w.heap.size + 1 := by simp
  refine ⟨(lit_row w l).below (bel_one _ _), ?_, (bel_one _ _).alloc (by simp) _⟩
  have := lit_row (w.alloc (.cells (l.map (fun x => Value.int .i64 x)).toArray 3)) m
  rw [s1] at this; exact this
theorem rowV_nsl {w : World} {v : Value} {n : Nat} {R : Nat → Nat} (h : RowV w v n R) : NSl w v ((List.range n).map R) := by
  obtain ⟨a, cap, e, hr⟩ := h
  refine ⟨a, cap, by simpa using e, fun k hk => ?_⟩
  have hk' : k < n := by simpa using hk
  obtain ⟨b, off, e2, hc⟩ := hr k hk'
  refine ⟨b, off, e2, ?_⟩
  rw [hc]
  simp [nth, hk']
theorem vee_chk : Chk 3 3 (lv [0, 0, 1]) 0 := by
  refine .inr ⟨3, rfl, by omega, .inr ⟨rfl, .inr ⟨?_, .inr ⟨rfl, ?_⟩⟩⟩⟩
  · unfold Rng; decide +kernel
  · unfold Ord OrdAt; decide +kernel
theorem vee_row : IsRw (nat (lv [0, 0, 1])) 3 3 (lv [0, 1, 2]) := by
  refine ⟨rfl, ?_⟩
  unfold RowTo; decide +kernel
theorem lad_row : IsRw (nat fLad) 3 3 (lv [0, 1, 2]) := by
  refine ⟨rfl, ?_⟩
  unfold RowTo; decide +kernel
theorem vee_up : ∀ k, k < 3 → ((up (nat (lv [0, 0, 1])) 2 (nat (lv [0, 1, 2])) k : Nat) : Int) = lv [1, 0, 2] k := by decide +kernel
theorem lad_orb : OrbIs (nat fLad) 3 (nat (lv [0, 1, 2])) 1 := ⟨1, rfl, Nat.le_refl _, by omega, by decide +kernel, fun s h1 h2 => absurd h1 (by omega)⟩

set_option maxHeartbeats 4000000 in
theorem promoteBegun_any (w : World) : Calls Try.prog 4 #[] w fun e w' => e = .returned (.bool true) ∧ Below w.heap.size w w' := by
  obtain ⟨W, HWE⟩ : ∃ W, Hid ((w.alloc (.cells #[.int .i64 0, .int .i64 0, .int .i64 1] 3)).alloc (.cells #[.int .i64 0, .int .i64 1, .int .i64 2] 3) = W) := ⟨_, rfl⟩
  obtain ⟨r1, r2, hb0⟩ := lit2 w [0, 0, 1] [0, 1, 2] W HWE.out
  have HR1 : Hid (Row W (some ⟨w.heap.size, 0, none⟩) 3 (lv [0, 0, 1])) := r1
  have HR2 : Hid (Row W (some ⟨w.heap.size + 1, 0, none⟩) 3 (lv [0, 1, 2])) := r2
  have HB0 : Hid (Below w.heap.size w W) := hb0
  clear r1 r2 hb0
  go_enter Try.func4, Try.ntmps4
  go_wp2_with fail
  rw [HWE.out]
  refine (promote_any 3 _ 3 3 (lv [0, 0, 1]) _ 3 3 (lv [0, 1, 2]) W (by unfold maxLen; omega) (by unfold maxLen; omega) HR1.out HR2.out).mono ?_
  rintro e w1 ⟨⟨c, v, rfl, hc, hv⟩, hb1⟩
  obtain rfl : c = 0 := hc.one (.inr ⟨vee_chk, .inr ⟨rfl, vee_row⟩⟩)
  obtain ⟨a1, cap1, rfl, hr1⟩ : RowV w1 v 3 (up (nat (lv [0, 0, 1])) (3 - 1) (nat (lv [0, 1, 2]))) := by
    rcases hv with ⟨h, _⟩ | ⟨_, h⟩
    · exact absurd rfl h
    · exact h
  have HB1 : Hid (Below w.heap.size w w1) := Below.then HB0.out hb1
  have HRA : Hid (Row w1 a1 3 (fun k => ((up (nat (lv [0, 0, 1])) 2 (nat (lv [0, 1, 2])) k : Nat) : Int))) := hr1
  clear hc hv hb1 hr1 HR1 HR2 HB0 HWE
  go_wp2_with fail
  refine (ladder_any w1).mono ?_
  rintro e w2 ⟨⟨a2, rfl, hr2⟩, hb2⟩
  have HB2 : Hid (Below w.heap.size w w2) := Below.then HB1.out hb2
  have HRA2 : Hid (Row w2 a1 3 (fun k => ((up (nat (lv [0, 0, 1])) 2 (nat (lv [0, 1, 2])) k : Nat) : Int))) := HRA.out.below hb2
  have HL2 : Hid (Row (w2.alloc (.cells #[.int .i64 0, .int .i64 1, .int .i64 2] 3)) a2 3 fLad) := Row.below hr2 (bel_one _ _)
  have HL3 : Hid (Row (w2.alloc (.cells #[.int .i64 0, .int .i64 1, .int .i64 2] 3)) (some ⟨w2.heap.size, 0, none⟩) 3 (lv [0, 1, 2])) := lit_row w2 [0, 1, 2]
  clear hb2 hr2 HRA HB1
  go_wp2_with fail
  refine (orbit_any 3 a2 3 3 fLad _ 3 3 (lv [0, 1, 2]) _ (by unfold maxLen; omega) (by unfold maxLen; omega) HL2.out HL3.out).mono ?_
  rintro e w3 ⟨⟨c, t, rfl, hc, ht⟩, hb3⟩
  obtain rfl : c = 0 := hc.one (.inr ⟨lad_chk, .inr ⟨rfl, lad_row⟩⟩)
  obtain rfl : t = 1 := by
    rcases ht with ⟨h, _⟩ | ⟨_, h⟩
    · exact absurd rfl h
    · exact h.one lad_orb
  have hb3' : Below w2.heap.size w2 w3 := Below.then (bel_one w2 _) hb3
  have HB3 : Hid (Below w.heap.size w w3) := Below.then HB2.out hb3'
  have HRA3 : Hid (Row (w3.alloc (.cells #[.int .i64 1, .int .i64 0, .int .i64 2] 3)) a1 3 (fun k => ((up (nat (lv [0, 0, 1])) 2 (nat (lv [0, 1, 2])) k : Nat) : Int))) := (HRA2.out.below hb3').below (bel_one _ _)
  have HL4 : Hid (Row (w3.alloc (.cells #[.int .i64 1, .int .i64 0, .int .i64 2] 3)) (some ⟨w3.heap.size, 0, none⟩) 3 (lv [1, 0, 2])) := lit_row w3 [1, 0, 2]
  clear hc ht hb3 hb3' HL2 HL3 HRA2 HB2
  go_wp2_with fail
  refine (same_any a1 _ 3 cap1 3 3 _ _ _ (by unfold maxLen; omega) (by unfold maxLen; omega) HRA3.out HL4.out).mono ?_
  rintro e w4 ⟨⟨v, rfl, hv⟩, hb4⟩
  obtain rfl : v = true := hv.2 ⟨rfl, vee_up⟩
  have HB4 : Hid (Below w.heap.size w w4) := Below.then (HB3.out.alloc HB3.out.size _) hb4
  clear hv hb4
  go_wp2_with fail
  go_ret
  exact ⟨rfl, HB4.out⟩
end Go.Proofs.Ytnommlfenaijoab
