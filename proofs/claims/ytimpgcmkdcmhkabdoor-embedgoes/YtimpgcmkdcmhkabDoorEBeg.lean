/-
  That hasselaw.embedBegun answers true. Condition: the table of the least bits.
-/
import Derived.Test.YtimpgcmkdcmhkabDoorEmH
namespace Go.Proofs.YtimpgcmkdcmhkabDoor
set_option maxRecDepth 100000
open Go.RowKit

/-- Numbers that are written down. -/
def lv (l : List Int) (k : Nat) : Int := l.getD k 0
theorem lit_row (w : World) (l : List Int) : Row (w.alloc (.cells (l.map (fun x => Value.int .i64 x)).toArray 3)) (some ⟨w.heap.size, 0, none⟩) l.length (lv l) := fun k hk => by
  refine ⟨w.heap.size, 0, rfl, ?_⟩
  simp [lv, hk]
theorem lit2 (w : World) (l m : List Int) (W : World) (h : (w.alloc (.cells (l.map (fun x => Value.int .i64 x)).toArray 3)).alloc (.cells (m.map (fun x => Value.int .i64 x)).toArray 3) = W) :
    Row W (some ⟨w.heap.size, 0, none⟩) l.length (lv l) ∧ Row W (some ⟨w.heap.size + 1, 0, none⟩) m.length (lv m) ∧ Below w.heap.size w W := by
  subst h
  have s1 : (w.alloc (.cells (l.map (fun x => Value.int .i64 x)).toArray 3)).heap.size = w.heap.size + 1 := by simp
  refine ⟨(lit_row w l).below (bel_one _ _), ?_, bel_more (bel_one _ _) _⟩
  have := lit_row (w.alloc (.cells (l.map (fun x => Value.int .i64 x)).toArray 3)) m
  rw [s1] at this; exact this
theorem wc2_lad {la lb : Nat} {fa fb : Nat → Int} {c : Int} (h : WC2 3 3 fLad la fa lb fb c) (h1 : la ≤ 12) (h2 : lb ≤ 12) (h3 : ∀ i, i < la → 0 ≤ fa i ∧ fa i < 3) (h4 : ∀ i, i < lb → 0 ≤ fb i ∧ fb i < 3) : c = 0 := by
  refine h.one (.inr ⟨lad_chk, .inr ⟨?_, .inr ⟨rfl, ?_⟩⟩⟩)
  · rintro (h | ⟨k, hk, h⟩)
    · omega
    · rcases (by omega : k = 0 ∨ k = 1) with rfl | rfl
      · exact absurd h (Nat.not_lt.2 h1)
      · exact absurd h (Nat.not_lt.2 h2)
  · intro k hk i hi
    rcases (by omega : k = 0 ∨ k = 1) with rfl | rfl
    · exact h3 i hi
    · exact h4 i hi
theorem b_into1 : goesB (nat fLad) 2 (nat (lv [0, 1])) 3 (nat (lv [2, 0, 1])) = true := by rw [natLad]; decide +kernel
theorem b_into2 : goesB (nat fLad) 1 (nat (lv [1])) 1 (nat (lv [0])) = false := by rw [natLad]; decide +kernel
theorem b_light : lightB (nat fLad) 3 (tms 3 (nat (lv [0, 0, 0]))) (tms 1 (nat (lv [1]))) = true := by rw [natLad]; decide +kernel
theorem b_div : divB 1 (lv [1]) (lv [2]) = true := by decide +kernel
theorem b_least {a0 a1 : Option Addr} {c0 c1 : Nat} : lst (wdP (nat fLad) (sel2 (a0, 1, c0) (a1, 1, c1)) (sel2 (lv [0]) (lv [0]))) 2 2 = [0] := by
  refine (lst_congr (Q := fun _ _ => true) (fun i k hi hk => ?_) 2 (Nat.le_refl _)).trans (by decide +kernel)
  have e : goesB (nat fLad) 1 (nat (lv [0])) 1 (nat (lv [0])) = true := by rw [natLad]; decide +kernel
  rcases (by omega : i = 0 ∨ i = 1) with rfl | rfl <;> rcases (by omega : k = 0 ∨ k = 1) with rfl | rfl <;> exact e
theorem nc2_ok {c : Int} (h : NC2 1 (lv [1]) 1 (lv [2]) c) : c = 0 := by
  refine h.one (.inr ⟨?_, .inr ⟨?_, .inr ⟨rfl, ?_⟩⟩⟩)
  · rintro (h | ⟨k, hk, h⟩)
    · omega
    · rcases (by omega : k = 0 ∨ k = 1) with rfl | rfl
      · exact absurd h (by simp [sel2])
      · exact absurd h (by simp [sel2])
  · intro k hk
    rcases (by omega : k = 0 ∨ k = 1) with rfl | rfl <;> rfl
  · intro k hk i hi
    rcases (by omega : k = 0 ∨ k = 1) with rfl | rfl
    · obtain rfl : i = 0 := by simp [sel2] at hi; exact hi
      simp [sel2, lv]
    · obtain rfl : i = 0 := by simp [sel2] at hi; exact hi
      simp [sel2, lv]
theorem lv3 {l : List Int} (h : ∀ x, x ∈ l → 0 ≤ x ∧ x < 3) : ∀ i, i < l.length → 0 ≤ lv l i ∧ lv l i < 3 := fun i hi => by
  unfold lv
  rw [List.getD_eq_getElem?_getD, List.getElem?_eq_getElem hi]
  exact h _ (List.getElem_mem hi)

set_option maxHeartbeats 4000000 in
theorem embedBegun_any (w : World) (hT : Tab w) : Calls Tryd.prog 7 #[] w fun e w' => e = .returned (.bool true) ∧ Below w.heap.size w w' := by
  have HT : Hid (Tab w) := hT
  clear hT
  go_enter Tryd.func7, Tryd.ntmps7
  go_wp2_with fail
  refine (ladder_any w).mono ?_
  rintro e w1 ⟨⟨a1, rfl, hr1⟩, hb1⟩
  obtain ⟨r1, r2, hb2⟩ := lit2 w1 [0, 1] [2, 0, 1] _ rfl
  have HB1 : Hid (Below w.heap.size w w1) := hb1
  have HR1 : Hid (Row w1 a1 3 fLad) := hr1
  have HRA := (show Hid (Row _ _ _ _) from r1)
  have HRB := (show Hid (Row _ _ _ _) from r2)
  have HB2 := (show Hid (Below _ _ _) from hb2)
  clear hr1 hb1 r1 r2 hb2
  go_wp2_with fail
  refine (into_any 3 a1 3 3 fLad _ 2 2 (lv [0, 1]) _ 3 3 (lv [2, 0, 1]) _ (by unfold maxLen; omega) (HR1.out.below HB2.out) (by unfold maxLen; omega) HRA.out (by unfold maxLen; omega) HRB.out).mono ?_
  rintro e w2 ⟨⟨c, v, rfl, hc, hv⟩, hb⟩
  obtain rfl : c = 0 := wc2_lad hc (by omega) (by omega) (lv3 (l := [0, 1]) (by decide)) (lv3 (l := [2, 0, 1]) (by decide))
  obtain rfl : v = true := by
    rcases hv with ⟨h, _⟩ | ⟨_, h⟩
    · exact absurd rfl h
    · rw [h, b_into1]
  have HBa : Hid (Below w.heap.size w w2) := Below.then HB1.out (Below.then HB2.out hb)
  clear hc hv hb HB1 HR1 HRA HRB HB2
  go_wp2_with fail
  refine (ladder_any w2).mono ?_
  rintro e w1 ⟨⟨a1, rfl, hr1⟩, hb1⟩
  obtain ⟨r1, r2, hb2⟩ := lit2 w1 [1] [0] _ rfl
  have HB1 : Hid (Below w.heap.size w w1) := Below.then HBa.out hb1
  have HR1 : Hid (Row w1 a1 3 fLad) := hr1
  have HRA := (show Hid (Row _ _ _ _) from r1)
  have HRB := (show Hid (Row _ _ _ _) from r2)
  have HB2 := (show Hid (Below _ _ _) from hb2)
  clear hr1 hb1 r1 r2 hb2 HBa
  go_wp2_with fail
  refine (into_any 3 a1 3 3 fLad _ 1 1 (lv [1]) _ 1 1 (lv [0]) _ (by unfold maxLen; omega) (HR1.out.below HB2.out) (by unfold maxLen; omega) HRA.out (by unfold maxLen; omega) HRB.out).mono ?_
  rintro e w2 ⟨⟨c, v, rfl, hc, hv⟩, hb⟩
  obtain rfl : c = 0 := wc2_lad hc (by omega) (by omega) (lv3 (l := [1]) (by decide)) (lv3 (l := [0]) (by decide))
  obtain rfl : v = false := by
    rcases hv with ⟨_, h⟩ | ⟨_, h⟩
    · exact h
    · rw [h, b_into2]
  have HBa : Hid (Below w.heap.size w w2) := Below.then HB1.out (Below.then HB2.out hb)
  clear hc hv hb HB1 HR1 HRA HRB HB2
  go_wp2_with fail
  refine (ladder_any w2).mono ?_
  rintro e w1 ⟨⟨a1, rfl, hr1⟩, hb1⟩
  obtain ⟨r1, r2, hb2⟩ := lit2 w1 [0, 0, 0] [1] _ rfl
  have HB1 : Hid (Below w.heap.size w w1) := Below.then HBa.out hb1
  have HR1 : Hid (Row w1 a1 3 fLad) := hr1
  have HRA := (show Hid (Row _ _ _ _) from r1)
  have HRB := (show Hid (Row _ _ _ _) from r2)
  have HB2 := (show Hid (Below _ _ _) from hb2)
  clear hr1 hb1 r1 r2 hb2 HBa
  go_wp2_with fail
  refine (lighter_any 3 a1 3 3 fLad _ 3 3 (lv [0, 0, 0]) _ 1 1 (lv [1]) _ (by unfold maxLen; omega) (HR1.out.below HB2.out) (by unfold maxLen; omega) HRA.out (by unfold maxLen; omega) HRB.out (HT.out.step (Below.then HB1.out HB2.out))).mono ?_
  rintro e w2 ⟨⟨c, v, rfl, hc, hv⟩, hb⟩
  obtain rfl : c = 0 := wc2_lad hc (by omega) (by omega) (lv3 (l := [0, 0, 0]) (by decide)) (lv3 (l := [1]) (by decide))
  obtain rfl : v = true := by
    rcases hv with ⟨h, _⟩ | ⟨_, h⟩
    · exact absurd rfl h
    · rw [h, b_light]
  have HBa : Hid (Below w.heap.size w w2) := Below.then HB1.out (Below.then HB2.out hb)
  obtain ⟨r1, r2, hb2⟩ := lit2 w2 [1] [2] _ rfl
  clear hc hv hb HB1 HR1 HRA HRB HB2
  have HRA := (show Hid (Row _ _ _ _) from r1)
  have HRB := (show Hid (Row _ _ _ _) from r2)
  have HB2 := (show Hid (Below _ _ _) from hb2)
  clear r1 r2 hb2
  go_wp2_with fail
  refine (dividesX_any _ 1 1 (lv [1]) _ 1 1 (lv [2]) _ (by unfold maxLen; omega) HRA.out (by unfold maxLen; omega) HRB.out).mono ?_
  rintro e w3 ⟨⟨c, v, rfl, hc, hv⟩, hb⟩
  obtain rfl : c = 0 := nc2_ok hc
  obtain rfl : v = true := by
    rcases hv with ⟨h, _⟩ | ⟨_, h⟩
    · exact absurd rfl h
    · rw [h, b_div]
  have HBb : Hid (Below w.heap.size w w3) := Below.then HBa.out (Below.then HB2.out hb)
  clear hc hv hb HBa HRA HRB HB2
  go_wp2_with fail
  refine (ladder_any w3).mono ?_
  rintro e w1 ⟨⟨a1, rfl, hr1⟩, hb1⟩
  obtain ⟨W, HWE⟩ : ∃ W, Hid ((w1.alloc (.cells #[.int .i64 0] 3)).alloc (.cells #[.int .i64 0] 3) = W) := ⟨_, rfl⟩
  obtain ⟨r1, r2, hb2⟩ := lit2 w1 [0] [0] W HWE.out
  have HB1 : Hid (Below w.heap.size w w1) := Below.then HBb.out hb1
  have HR1 : Hid (Row w1 a1 3 fLad) := hr1
  have HRR := (show Hid (RR _ _ _ _ _) from rr2 (k0 := 1) (k1 := 1) (by unfold maxLen; decide) (by unfold maxLen; decide) r1 r2)
  have HBW : Hid (Below w1.heap.size w1 W) := hb2
  have HBn := (show Hid (Below _ _ _) from bel_one W (.cells #[.slice (some ⟨w1.heap.size, 0, none⟩) 1 1, .slice (some ⟨w1.heap.size + 1, 0, none⟩) 1 1] 22))
  have hsz : W.heap.size = w1.heap.size + 1 + 1 := by rw [← HWE.out]; simp
  have HSZ : Hid (W.heap.size = w1.heap.size + 1 + 1) := hsz
  clear hr1 hb1 r1 r2 hb2 HBb hsz
  go_wp2_with fail
  rw [HWE.out, ← HSZ.out]
  refine (leastX_any 3 a1 3 3 fLad _ 2 2 _ _ _ (by unfold maxLen; omega) ((HR1.out.below HBW.out).below HBn.out) (by unfold maxLen; omega) HRR.out).mono ?_
  rintro e w4 ⟨⟨c, v, rfl, hc, hv⟩, hb⟩
  obtain rfl : c = 0 := wc2_lad hc.two (by decide) (by decide) (lv3 (l := [0]) (by decide)) (lv3 (l := [0]) (by decide))
  obtain ⟨a4, cap4, rfl, hr4⟩ : NSl w4 v [0] := by
    rcases hv with ⟨h, _⟩ | ⟨_, h, _⟩
    · exact absurd rfl h
    · have e := b_least (a0 := some ⟨w1.heap.size, 0, none⟩) (a1 := some ⟨w1.heap.size + 1, 0, none⟩) (c0 := 1) (c1 := 1)
      simp only [List.length_cons, List.length_nil] at h
      rw [show lst (wdP (nat fLad) _ _) 2 2 = [0] from e] at h
      exact h
  have HB4 : Hid (Below w.heap.size w w4) := Below.then HB1.out (Below.then HBW.out (Below.then HBn.out hb))
  have HR4 : Hid (Row (w4.alloc (.cells #[.int .i64 0] 3)) a4 1 (fun k => ((nth [0] k : Nat) : Int))) := Row.below hr4 (bel_one _ _)
  have HR5 : Hid (Row (w4.alloc (.cells #[.int .i64 0] 3)) (some ⟨w4.heap.size, 0, none⟩) 1 (lv [0])) := lit_row w4 [0]
  clear hc hv hb hr4 HB1 HR1 HRR HBW HBn HSZ HWE
  go_wp2_with fail
  refine (same_any a4 _ 1 cap4 1 1 _ _ _ (by unfold maxLen; omega) (by unfold maxLen; omega) HR4.out HR5.out).mono ?_
  rintro e w5 ⟨⟨v, rfl, hv⟩, hb⟩
  obtain rfl : v = true := hv.2 ⟨rfl, fun k (hk : k < 1) => by
    have e : k = 0 := Nat.lt_one_iff.1 hk
    subst e; rfl⟩
  have HB5 : Hid (Below w.heap.size w w5) := Below.then (bel_more HB4.out _) hb
  clear hv hb
  go_wp2_with fail
  go_ret
  exact ⟨rfl, HB5.out⟩
end Go.Proofs.YtimpgcmkdcmhkabDoor
