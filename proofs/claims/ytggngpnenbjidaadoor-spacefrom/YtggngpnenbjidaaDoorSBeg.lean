/-
  That hasselaw.spaceBegun answers true. Condition: the table of the least bits.
-/
import Derived.Test.YtggngpnenbjidaaDoorTurQ
import Derived.Test.YtggngpnenbjidaaDoorOpnP
import Derived.Test.YtggngpnenbjidaaDoorSameN
namespace Go.Proofs.YtggngpnenbjidaaDoor
open Go.RowKit

def gLad (k : Nat) : Nat := if k = 0 then 0 else if k = 1 then 1 else 3
def fLad (k : Nat) : Int := (gLad k : Nat)
theorem ladder_any (w : World) : Calls Tryd.prog 38 #[] w fun e w' => (∃ a, e = .returned (.agg #[.int .i64 3, .slice a 3 3]) ∧ Row w' a 3 fLad) ∧ Below w.heap.size w w' := by
  go_enter Tryd.func38, Tryd.ntmps38
  go_wp2_with fail
  refine bodyPost_ret (v := .agg #[.int .i64 3, .slice (some ⟨w.heap.size + 1, 0, none⟩) 3 3]) (by simp [results, Tryd.results38, go_sem]) rfl ⟨⟨_, rfl, ?_⟩, ?_⟩
  · intro k hk
    refine ⟨w.heap.size + 1, 0, rfl, ?_⟩
    match k, hk with
    | 0, _ => simp [fLad, gLad]
    | 1, _ => simp [fLad, gLad]
    | 2, _ => simp [fLad, gLad]
  · exact ((Below.refl _ _).alloc (Nat.le_refl _) _).alloc (by simp) _
theorem natLad : nat fLad = gLad := by funext k; simp [nat, fLad]
theorem lad_chk : Chk 3 3 fLad 0 := by
  refine .inr ⟨3, rfl, by omega, .inr ⟨rfl, .inr ⟨?_, .inr ⟨rfl, ?_⟩⟩⟩⟩
  · unfold Rng fLad; decide +kernel
  · rw [natLad]; unfold Ord OrdAt; decide +kernel
def gTwo (k : Nat) : Nat := if k = 0 then 0 else 1
def fTwo (k : Nat) : Int := (gTwo k : Nat)
theorem natTwo : nat fTwo = gTwo := by funext k; simp [nat, fTwo]
theorem two_chk : Chk 2 2 fTwo 0 := by
  refine .inr ⟨2, rfl, by omega, .inr ⟨rfl, .inr ⟨?_, .inr ⟨rfl, ?_⟩⟩⟩⟩
  · unfold Rng fTwo; decide +kernel
  · rw [natTwo]; unfold Ord OrdAt; decide +kernel
theorem two_opn : opn (nat fTwo) 2 = [0, 2, 3] := by rw [natTwo]; decide +kernel
theorem two_row (w : World) : Row (w.alloc (.cells #[.int .i64 0, .int .i64 1] 3)) (some ⟨w.heap.size, 0, none⟩) 2 fTwo := fun k hk => by
  refine ⟨_, _, rfl, ?_⟩
  rcases (by omega : k = 0 ∨ k = 1) with rfl | rfl <;> simp [fTwo, gTwo]
theorem lad_turns {x : Int} (h : TrnIs (nat fLad) 3 2 x) : 1 < x := by
  obtain ⟨M, hM, _, rfl⟩ := h
  have h1 : M 2 = true := (hM 2).2 (Rch.self _ _ _)
  have h2 : M 5 = true := (hM 5).2 (fun P p0 _ p2 => by
    have := p2 2 p0
    rw [show rst 3 2 = 5 by decide +kernel] at this
    exact this)
  have h3 : cntT (fun x => x == 2 || x == 5) (pw 3) ≤ cntT M (pw 3) := cntT_sub _ fun x _ hx => by
    simp at hx
    rcases hx with rfl | rfl
    · exact h1
    · exact h2
  have h4 : cntT (fun x => x == 2 || x == 5) (pw 3) = 2 := by decide +kernel
  omega
theorem lad_pieces {L : List Nat} (h : PcL (hld (nat fLad) 3) L (pw 3 - 1) 0) : L = [7] := by
  rw [natLad] at h
  have e : lack (pw 3 - 1) 7 = 0 := by decide +kernel
  exact h.one ⟨by decide, ⟨2, by decide +kernel, by decide +kernel⟩, e⟩
/-- A row of numbers that are written down. -/
theorem nsl3 (w : World) (a b c : Nat) : Row (w.alloc (.cells #[.int .i64 (a : Nat), .int .i64 (b : Nat), .int .i64 (c : Nat)] 3)) (some ⟨w.heap.size, 0, none⟩) 3 (fun k => (nth [a, b, c] k : Nat)) := fun k hk => by
  refine ⟨_, _, rfl, ?_⟩
  rcases (by omega : k = 0 ∨ k = 1 ∨ k = 2) with rfl | rfl | rfl <;> simp [nth]
theorem nsl1 (w : World) (a : Nat) : Row (w.alloc (.cells #[.int .i64 (a : Nat)] 3)) (some ⟨w.heap.size, 0, none⟩) 1 (fun k => (nth [a] k : Nat)) := fun k hk => by
  refine ⟨_, _, rfl, ?_⟩
  obtain rfl : k = 0 := by omega
  simp [nth]

set_option maxHeartbeats 4000000 in
theorem spaceBegun_any (w : World) (hT : Tab w) : Calls Tryd.prog 12 #[] w fun e w' => e = .returned (.bool true) ∧ Below w.heap.size w w' := by
  have HT : Hid (Tab w) := hT
  clear hT
  have HR0 := (show Hid (Row _ _ _ _) from two_row w)
  have HB0 : Hid (Below w.heap.size w (w.alloc (.cells #[.int .i64 0, .int .i64 1] 3))) := bel_one w _
  go_enter Tryd.func12, Tryd.ntmps12
  go_wp2_with fail
  refine (opens_any 2 _ 2 2 fTwo _ (by unfold maxLen; omega) HR0.out).mono ?_
  rintro e w1 ⟨⟨c, v, rfl, hc, hv⟩, hb1⟩
  obtain rfl : c = 0 := hc.unique two_chk
  obtain ⟨a1, cap1, rfl, hr1⟩ : NSl w1 v [0, 2, 3] := by
    rcases hv with ⟨h, _⟩ | ⟨_, h, _⟩
    · exact absurd rfl h
    · rw [two_opn] at h; exact h
  have HB1 : Hid (Below w.heap.size w w1) := Below.then HB0.out hb1
  have HR1 : Hid (Row w1 a1 3 (fun k => (nth [0, 2, 3] k : Nat))) := hr1
  clear hc hv hb1 HR0 HB0 hr1
  go_wp2_with fail
  refine (ladder_any w1).mono ?_
  rintro e w2 ⟨⟨a2, rfl, hr2⟩, hb2⟩
  have HB2 : Hid (Below w.heap.size w w2) := Below.then HB1.out hb2
  have HR1b : Hid (Row w2 a1 3 (fun k => (nth [0, 2, 3] k : Nat))) := HR1.out.below hb2
  have HR2 : Hid (Row w2 a2 3 fLad) := hr2
  clear hb2 hr2 HB1 HR1
  go_wp2_with fail
  refine (turns_any 3 a2 3 3 fLad 2 w2 (by unfold maxLen; omega) HR2.out (HT.out.step HB2.out)).mono ?_
  rintro e w3 ⟨⟨c, x, rfl, hc, hx⟩, hb3⟩
  obtain rfl : c = 0 := hc.unique (.inr ⟨lad_chk, .inr ⟨rfl, by decide, by decide⟩⟩)
  have hx1 : 1 < x := by
    rcases hx with ⟨h, _⟩ | ⟨_, h⟩
    · exact absurd rfl h
    · exact lad_turns h
  have HB3 : Hid (Below w.heap.size w w3) := Below.then HB2.out hb3
  have HR1c : Hid (Row w3 a1 3 (fun k => (nth [0, 2, 3] k : Nat))) := HR1b.out.below hb3
  clear hb3 hc hx HB2 HR1b HR2
  go_wp2_with fail
  refine (ladder_any w3).mono ?_
  rintro e w4 ⟨⟨a4, rfl, hr4⟩, hb4⟩
  have HB4 : Hid (Below w.heap.size w w4) := Below.then HB3.out hb4
  have HR1d : Hid (Row w4 a1 3 (fun k => (nth [0, 2, 3] k : Nat))) := HR1c.out.below hb4
  have HR4 : Hid (Row w4 a4 3 fLad) := hr4
  clear hb4 hr4 HB3 HR1c
  go_wp2_with fail
  refine (pieces_call 3 a4 3 3 fLad w4 (by unfold maxLen; omega) HR4.out (HT.out.step HB4.out)).mono ?_
  rintro e w5 ⟨⟨c, v, rfl, hc, hv⟩, hb5⟩
  obtain rfl : c = 0 := hc.unique lad_chk
  obtain ⟨a5, cap5, rfl, hr5⟩ : NSl w5 v [7] := by
    rcases hv with ⟨h, _⟩ | ⟨_, L, h, hL, _⟩
    · exact absurd rfl h
    · rw [lad_pieces hL] at h; exact h
  have HB5 : Hid (Below w.heap.size w w5) := Below.then HB4.out hb5
  have HR1e : Hid (Row w5 a1 3 (fun k => (nth [0, 2, 3] k : Nat))) := HR1d.out.below hb5
  have HR5 : Hid (Row w5 a5 1 (fun k => (nth [7] k : Nat))) := hr5
  clear hc hv hb5 hr5 HB4 HR1d HR4
  have HN6 := (show Hid (Row _ _ _ _) from nsl3 w5 0 2 3)
  have hb6 := bel_one w5 (.cells #[.int .i64 0, .int .i64 2, .int .i64 3] 3)
  have HB6 := (show Hid (Below w.heap.size w _) from Below.then HB5.out hb6)
  have HR1f := (show Hid (Row _ a1 3 (fun k => (nth [0, 2, 3] k : Nat))) from HR1e.out.below hb6)
  have HR6 := (show Hid (Row _ a5 1 (fun k => (nth [7] k : Nat))) from HR5.out.below hb6)
  clear hb6 HB5 HR1e HR5
  simp only [List.length_cons, List.length_nil, Nat.zero_add]
  go_wp2_with fail
  refine (same_any a1 _ 3 cap1 3 3 _ _ _ (by unfold maxLen; omega) (by unfold maxLen; omega) HR1f.out HN6.out).mono ?_
  rintro e w7 ⟨⟨v, rfl, hv⟩, hb7⟩
  obtain rfl : v = true := hv.2 ⟨rfl, fun _ _ => rfl⟩
  have HB7 : Hid (Below w.heap.size w w7) := Below.then HB6.out hb7
  have HN8 := (show Hid (Row _ _ _ _) from nsl1 w7 7)
  have hb8 := bel_one w7 (.cells #[.int .i64 7] 3)
  have HB8 := (show Hid (Below w.heap.size w _) from Below.then HB7.out hb8)
  have HR7 := (show Hid (Row _ a5 1 (fun k => (nth [7] k : Nat))) from (HR6.out.below hb7).below hb8)
  clear hv hb7 hb8 HN6 HR1f HB6 HR6
  go_wp2_with fail
  refine (same_any a5 _ 1 cap5 1 1 _ _ _ (by unfold maxLen; omega) (by unfold maxLen; omega) HR7.out HN8.out).mono ?_
  rintro e w9 ⟨⟨v, rfl, hv⟩, hb9⟩
  obtain rfl : v = true := hv.2 ⟨rfl, fun _ _ => rfl⟩
  have HB9 : Hid (Below w.heap.size w w9) := Below.then HB8.out hb9
  clear hv hb9
  go_wp2_with fail
  go_ret
  exact ⟨rfl, HB9.out⟩
end Go.Proofs.YtggngpnenbjidaaDoor
