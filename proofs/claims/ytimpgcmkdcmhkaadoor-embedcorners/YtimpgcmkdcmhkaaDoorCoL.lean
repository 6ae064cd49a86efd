/-
  For whatever it is handed, hasselaw.EmbedCorners returns true, and writes nothing that was there. Condition: the table of the least bits.
-/
import Derived.Test.YtimpgcmkdcmhkaaDoorLeL
import Derived.Test.YtimpgcmkdcmhkaaDoorEBeg
import Derived.Test.YtimpgcmkdcmhkaaDoorRefI
namespace Go.Proofs.YtimpgcmkdcmhkaaDoor
set_option maxRecDepth 100000
open Go.RowKit

set_option maxHeartbeats 4000000 in
theorem embedCorners_any (a : Option Addr) (m cap : Nat) (S : Nat → Option Addr × Nat × Nat) (F : Nat → Nat → Int) (w : World) (hm : m ≤ maxLen) (hr : RR w a m S F) (hT : Tab w) :
    Calls Tryd.prog 8 #[.slice a m cap] w fun e w' => e = .returned (.bool true) ∧ Below w.heap.size w w' := by
  have HB1 : Hid (Below w.heap.size w (w.alloc (.cells #[.slice a m cap] 29))) := bel_one _ _
  have HR : Hid (RR (w.alloc (.cells #[.slice a m cap] 29)) a m S F) := hr.below HB1.out
  have c1 := box1 w (.slice a m cap) 29
  have HT : Hid (Tab w) := hT
  clear hr hT
  go_enter Tryd.func8, Tryd.ntmps8
  generalize hC : Code.region 1 _ false = C
  go_wp2_with fail
  generalize w.alloc (.cells #[.slice a m cap] 29) = W at *
  rw [← hC]
  clear hC C
  go_wp2_with fail
  refine (corners_any a m cap S F W hm HR.out).mono ?_
  rintro e w1 ⟨⟨c, v, rfl, hc, hv⟩, hb1⟩
  have HC : Hid (NCk m S F c) := hc
  have HV : Hid ((c ≠ 0 ∧ v = .slice none 0 0) ∨ (c = 0 ∧ NSl w1 v (lst (rwP S F) m m))) := hv.imp id (fun h => ⟨h.1, h.2.1⟩)
  have HB2 : Hid (Below w.heap.size w w1) := Below.then HB1.out hb1
  have HR1 : Hid (RR w1 a m S F) := HR.out.below hb1
  have d1 := cell_step hb1 c1
  clear hc hv hb1 c1 HR HB1
  go_wp2_with fail
  refine (refNumbers_any a m cap S F w1 hm HR1.out).mono ?_
  rintro e w2 ⟨⟨c', rfl, hc⟩, hb2⟩
  obtain rfl : c = c' := HC.out.one hc
  have e1 := cell_step hb2 d1
  have HR2 : Hid (RR w2 a m S F) := HR1.out.below hb2
  have HBX : Hid (Below w1.heap.size w1 w2) := hb2
  have HB2 : Hid (Below w.heap.size w w2) := Below.then HB2.out hb2
  clear hc hb2 d1 HR1
  by_cases h0 : c = 0
  · subst h0
    obtain ⟨hM, hFr, _⟩ := HC.out.good
    have HV3 : Hid (NSl w2 v (lst (rwP S F) m m)) := by
      rcases HV.out with ⟨h, _⟩ | ⟨_, h⟩
      · exact absurd rfl h
      · exact NSl.step h HBX.out
    have HQ := (show Hid (Clo2 _ _ _ _ _) from refCorn1_any w.heap.size a m cap S F w2 e1 HR2.out hM hFr)
    have hm12 : m ≤ 12 := Nat.le_of_not_lt fun h => hM (.inl h)
    clear hM hFr HV HBX
    go_wp2_with fail
    refine (leastOnes_any m 25 _ _ w2 hm12 ent_refCorn1 HQ.out).mono ?_
    rintro e w4 ⟨⟨u, rfl, hu, hnew⟩, hb4⟩
    have HW : Hid (NSl w4 u (lst (rwP S F) m m)) := hu
    have HV4 : Hid (NSl w4 v (lst (rwP S F) m m)) := NSl.step HV3.out hb4
    have HB5 : Hid (Below w.heap.size w w4) := Below.then HB2.out hb4
    clear hb4 hu hnew HQ HV3
    go_wp2_with fail
    refine (embedBegun_any w4 (HT.out.step HB5.out)).mono ?_
    rintro e w5 ⟨rfl, hb5⟩
    have HW5 : Hid (NSl w5 u (lst (rwP S F) m m)) := NSl.step HW.out hb5
    have HV5 : Hid (NSl w5 v (lst (rwP S F) m m)) := NSl.step HV4.out hb5
    have HB6 : Hid (Below w.heap.size w w5) := Below.then HB5.out hb5
    have hlen := lst_len (rwP S F) m m
    clear hb5 HW HV4 HB5
    go_wp2_with fail
    refine (numbersAre_any 0 (lst (rwP S F) m m) v u _ (by unfold maxLen; omega) (.inr ⟨rfl, HV5.out, HW5.out⟩)).mono ?_
    rintro e w6 ⟨rfl, hb6⟩
    have HB7 : Hid (Below w.heap.size w w6) := Below.then HB6.out hb6
    clear hb6
    go_wp2_with fail
    go_ret
    exact ⟨rfl, HB7.out⟩
  · have hne : (c == 0) = false := by simpa using h0
    obtain rfl : v = .slice none 0 0 := by
      rcases HV.out with ⟨_, h⟩ | ⟨h, _⟩
      · exact h
      · exact absurd h h0
    have H0 : Hid (c ≠ 0) := h0
    clear h0
    go_wp2_with fail
    refine (embedBegun_any w2 (HT.out.step HB2.out)).mono ?_
    rintro e w5 ⟨rfl, hb5⟩
    have HB6 : Hid (Below w.heap.size w w5) := Below.then HB2.out hb5
    clear hb5
    go_wp2_with fail
    refine (numbersAre_any c [] (.slice none 0 0) (.slice none 0 0) _ (by unfold maxLen; decide) (.inl ⟨H0.out, rfl, rfl⟩)).mono ?_
    rintro e w6 ⟨rfl, hb6⟩
    have HB7 : Hid (Below w.heap.size w w6) := Below.then HB6.out hb6
    clear hb6
    go_wp2_with fail
    go_ret
    exact ⟨rfl, HB7.out⟩
end Go.Proofs.YtimpgcmkdcmhkaaDoor
