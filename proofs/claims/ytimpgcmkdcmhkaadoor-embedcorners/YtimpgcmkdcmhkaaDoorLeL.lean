/-
  For whatever it is handed, hasselaw.EmbedLeast returns true, and writes nothing that was there. Condition: the table of the least bits.
-/
import Derived.Test.YtimpgcmkdcmhkaaDoorEBeg
import Derived.Test.YtimpgcmkdcmhkaaDoorRefI
namespace Go.Proofs.YtimpgcmkdcmhkaaDoor
set_option maxRecDepth 100000
open Go.RowKit

theorem NSl.step {w w' : World} {v : Value} {l : List Nat} (h : NSl w v l) (hb : Below w.heap.size w w') : NSl w' v l := by
  obtain ⟨a, cap, e, hr⟩ := h
  exact ⟨a, cap, e, hr.below hb⟩
set_option maxHeartbeats 4000000 in
theorem embedLeast_any (n : Int) (ao : Option Addr) (len co : Nat) (f : Nat → Int) (a : Option Addr) (m cap : Nat) (S : Nat → Option Addr × Nat × Nat) (F : Nat → Nat → Int) (w : World) (hl : len ≤ maxLen) (hm : m ≤ maxLen) (ho : Row w ao len f) (hr : RR w a m S F) (hT : Tab w) :
    Calls Tryd.prog 4 #[.agg #[.int .i64 n, .slice ao len co], .slice a m cap] w fun e w' => e = .returned (.bool true) ∧ Below w.heap.size w w' := by
  have K0 : Hid (Held (w.alloc (.cells #[.int .i64 n, .slice ao len co] 24)) w.heap.size n ao len co f) := Held.box ho
  have HR0 : Hid (RR w a m S F) := hr
  have HT : Hid (Tab w) := hT
  clear ho hr hT
  go_enter Tryd.func4, Tryd.ntmps4
  generalize hC : Code.region 1 _ false = C
  go_wp2_with fail
  generalize hW : (w.alloc (.cells #[.int .i64 n, .slice ao len co] 24)).alloc (.cells #[.slice a m cap] 29) = W
  obtain ⟨hb, hb', c1⟩ := box2 w _ _ _ W hW
  have K1 : Hid (Held W w.heap.size n ao len co f) := K0.out.step hb'
  have HB1 : Hid (Below w.heap.size w W) := hb
  have HR : Hid (RR W a m S F) := HR0.out.below hb
  clear hb hb' HR0 K0 hW
  have k0 := K1.out.c0
  have k1 := K1.out.c1
  rw [← hC]
  clear hC C
  go_wp2_with fail
  refine (leastX_any n ao len co f a m cap S F W hl K1.out.row hm HR.out).mono ?_
  rintro e w1 ⟨⟨c, v, rfl, hc, hv⟩, hb1⟩
  have HC : Hid (WCk n len f m S F c) := hc
  have HV : Hid ((c ≠ 0 ∧ v = .slice none 0 0) ∨ (c = 0 ∧ NSl w1 v (lst (wdP (nat f) S F) m m))) := hv.imp id (fun h => ⟨h.1, h.2.1⟩)
  have HB2 : Hid (Below w.heap.size w w1) := Below.then HB1.out hb1
  have K2 : Hid (Held w1 w.heap.size n ao len co f) := K1.out.step hb1
  have HR1 : Hid (RR w1 a m S F) := HR.out.below hb1
  have d1 := cell_step hb1 c1
  clear hc hv hb1 c1 K1 k0 k1 HR HB1
  have k0 := K2.out.c0
  have k1 := K2.out.c1
  go_wp2_with fail
  refine (refWords_any n ao len co f a m cap S F w1 hl K2.out.row hm HR1.out).mono ?_
  rintro e w2 ⟨⟨c', rfl, hc⟩, hb2⟩
  obtain rfl : c = c' := HC.out.one hc
  have e1 := cell_step hb2 d1
  have K3 : Hid (Held w2 w.heap.size n ao len co f) := K2.out.step hb2
  have HR2 : Hid (RR w2 a m S F) := HR1.out.below hb2
  have HBX : Hid (Below w1.heap.size w1 w2) := hb2
  have HB2 : Hid (Below w.heap.size w w2) := Below.then HB2.out hb2
  clear hc hb2 d1 K2 k0 k1 HR1
  by_cases h0 : c = 0
  · subst h0
    obtain ⟨hck, hM, hL⟩ := HC.out.good
    obtain ⟨rfl, h10, hrng, _⟩ := hck.good
    have HV3 : Hid (NSl w2 v (lst (wdP (nat f) S F) m m)) := by
      rcases HV.out with ⟨h, _⟩ | ⟨_, h⟩
      · exact absurd rfl h
      · exact NSl.step h HBX.out
    have K4 : Held w2 w.heap.size len ao len co (fun k => ((nat f k : Nat) : Int)) := ⟨K3.out.c0, K3.out.c1, hrng.row K3.out.row⟩
    have HQ := (show Hid (Clo2 _ _ _ _ _) from refLeast1_any len ao len co w.heap.size (w.heap.size + 1) f a m cap S F w2 h10 (hrng.small2 h10) K4 e1 HR2.out hM hL)
    have hm12 : m ≤ 12 := Nat.le_of_not_lt fun h => hM (.inl h)
    clear K4 hck hM hL hrng HV HBX
    go_wp2_with fail
    refine (leastOnes_any m 16 _ _ w2 hm12 ent_refLeast1 HQ.out).mono ?_
    rintro e w4 ⟨⟨u, rfl, hu, hnew⟩, hb4⟩
    have HW : Hid (NSl w4 u (lst (wdP (nat f) S F) m m)) := hu
    have HV4 : Hid (NSl w4 v (lst (wdP (nat f) S F) m m)) := NSl.step HV3.out hb4
    have HB5 : Hid (Below w.heap.size w w4) := Below.then HB2.out hb4
    clear hb4 hu hnew HQ HV3
    go_wp2_with fail
    refine (embedBegun_any w4 (HT.out.step HB5.out)).mono ?_
    rintro e w5 ⟨rfl, hb5⟩
    have HW5 : Hid (NSl w5 u (lst (wdP (nat f) S F) m m)) := NSl.step HW.out hb5
    have HV5 : Hid (NSl w5 v (lst (wdP (nat f) S F) m m)) := NSl.step HV4.out hb5
    have HB6 : Hid (Below w.heap.size w w5) := Below.then HB5.out hb5
    have hlen := lst_len (wdP (nat f) S F) m m
    clear hb5 HW HV4 HB5
    go_wp2_with fail
    refine (numbersAre_any 0 (lst (wdP (nat f) S F) m m) v u _ (by unfold maxLen; omega) (.inr ⟨rfl, HV5.out, HW5.out⟩)).mono ?_
    rintro e w6 ⟨rfl, hb6⟩
    have HB7 : Hid (Below w.heap.size w w6) := Below.then HB6.out hb6
    clear hb6
    go_wp2_with fail
    go_ret
    exact ⟨rfl, HB7.out⟩
  · have hne : (c == 0) = false := by simpa using h0
    obtain rfl : v = .slice none 0 0 := by
      rcases HV.out with ⟨_, h⟩ | ⟨h, _⟩
      · exact h
      · exact absurd h h0
    have H0 : Hid (c ≠ 0) := h0
    clear h0
    go_wp2_with fail
    refine (embedBegun_any w2 (HT.out.step HB2.out)).mono ?_
    rintro e w5 ⟨rfl, hb5⟩
    have HB6 : Hid (Below w.heap.size w w5) := Below.then HB2.out hb5
    clear hb5
    go_wp2_with fail
    refine (numbersAre_any c [] (.slice none 0 0) (.slice none 0 0) _ (by unfold maxLen; decide) (.inl ⟨H0.out, rfl, rfl⟩)).mono ?_
    rintro e w6 ⟨rfl, hb6⟩
    have HB7 : Hid (Below w.heap.size w w6) := Below.then HB6.out hb6
    clear hb6
    go_wp2_with fail
    go_ret
    exact ⟨rfl, HB7.out⟩
end Go.Proofs.YtimpgcmkdcmhkaaDoor
