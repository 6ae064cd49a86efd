/-
  What hasselaw.LatticeOthers answer: true. Conditions: the library's table lies in its variable; slices read as slices of rows.
-/
import Derived.Test.YtcngjmbiinifnaaDoorRefLat
import Derived.Test.YtcngjmbiinifnaaDoorRefOth
namespace Go.Proofs.YtcngjmbiinifnaaDoor
open Go.RowKit

set_option maxHeartbeats 4000000 in
theorem latticeOthers_any (n : Int) (a : Option Addr) (la ca : Nat) (SA : Nat → Option Addr × Nat × Nat) (FA : Nat → Nat → Int) (b : Option Addr) (lb cb : Nat) (SB : Nat → Option Addr × Nat × Nat) (FB : Nat → Nat → Int) (x : Int) (w : World) (hla : la ≤ maxLen) (hlb : lb ≤ maxLen) (hra : RR w a la SA FA) (hrb : RR w b lb SB FB) (hT : Tab w) :
    Calls Tryd.prog 4 #[.agg #[.int .i64 n, .slice a la ca, .slice b lb cb], .int .i64 x] w fun e w' => e = .returned (.bool true) ∧ Below w.heap.size w w' := by
  have B1 : Below w.heap.size w (w.alloc (.cells #[.int .i64 n, .slice a la ca, .slice b lb cb] 24)) := (Below.refl _ _).alloc (Nat.le_refl _) _
  have L0 := LB.new w n a la ca b lb cb
  have HRA : Hid (RR w a la SA FA) := hra
  have HRB : Hid (RR w b lb SB FB) := hrb
  have HT : Hid (Tab w) := hT
  have HB0 : Hid (Below w.heap.size w (w.alloc (.cells #[.int .i64 n, .slice a la ca, .slice b lb cb] 24))) := B1
  have l0 := L0.1
  have l1 := L0.2.1
  have l2 := L0.2.2
  clear hra hrb B1 hT
  go_enter Tryd.func4, Tryd.ntmps4
  go_wp2_with fail
  refine (others_any n a la ca SA FA b lb cb SB FB x _ hla hlb (HRA.out.below HB0.out) (HRB.out.below HB0.out)).mono ?_
  rintro e w1 ⟨⟨c0, c, v1, hc0, hoc, rfl, hv1⟩, hb1⟩
  have L1 := L0.step hb1
  have HB1 : Hid (Below w.heap.size w w1) := Below.then HB0.out hb1
  have m0 := L1.1
  have m1 := L1.2.1
  have m2 := L1.2.2
  clear hb1 HB0 L0 l0 l1 l2
  go_wp2_with fail
  refine (checkLattice_any n a la ca SA FA b lb cb SB FB _ hla hlb (HRA.out.below HB1.out) (HRB.out.below HB1.out)).mono ?_
  rintro e w2 ⟨⟨c', rfl, hc'⟩, hb2⟩
  obtain rfl := LCk.one hc' hc0
  have L2 := L1.step hb2
  have HB2 : Hid (Below w.heap.size w w2) := Below.then HB1.out hb2
  have HB12 : Hid (Below w1.heap.size w1 w2) := hb2
  have p0 := L2.1
  have p1 := L2.2.1
  have p2 := L2.2.2
  clear hb2 HB1 L1 m0 m1 m2 hc'
  by_cases h0 : c' = 0
  · subst h0
    rcases hoc with ⟨k, _⟩ | ⟨_, ⟨rfl, hx⟩ | ⟨rfl, hx⟩⟩
    · exact absurd rfl k
    · obtain rfl : v1 = .slice none 0 0 := by
        rcases hv1 with ⟨_, h⟩ | ⟨k, _⟩
        · exact h
        · omega
      clear hv1 hc0 L2 HB12
      by_cases hx0 : x < 0
      · have hd : decide (x < 0) = true := by simpa using hx0
        clear hx hx0
        go_wp2_with fail
        refine (latticeBegun_any _ (HT.out.step HB2.out)).mono ?_
        rintro e w4 ⟨rfl, hb4⟩
        have HB4 : Hid (Below w.heap.size w w4) := Below.then HB2.out hb4
        clear hb4
        go_wp2_with fail
        refine (numbersAre_any 3 [] _ _ _ (by unfold maxLen; simp) (.inl ⟨by decide, rfl, rfl⟩)).mono ?_
        rintro e w5 ⟨rfl, hb5⟩
        have HB5 : Hid (Below w.heap.size w w5) := Below.then HB4.out hb5
        clear hb5
        go_wp2_with fail
        go_ret
        exact ⟨rfl, HB5.out⟩
      · have hd : decide (x < 0) = false := by simpa using hx0
        have hd2 : decide (n ≤ x) = true := by simp; omega
        clear hx hx0
        go_wp2_with fail
        refine (latticeBegun_any _ (HT.out.step HB2.out)).mono ?_
        rintro e w4 ⟨rfl, hb4⟩
        have HB4 : Hid (Below w.heap.size w w4) := Below.then HB2.out hb4
        clear hb4
        go_wp2_with fail
        refine (numbersAre_any 3 [] _ _ _ (by unfold maxLen; simp) (.inl ⟨by decide, rfl, rfl⟩)).mono ?_
        rintro e w5 ⟨rfl, hb5⟩
        have HB5 : Hid (Below w.heap.size w w5) := Below.then HB4.out hb5
        clear hb5
        go_wp2_with fail
        go_ret
        exact ⟨rfl, HB5.out⟩
    · obtain ⟨q, rfl, h1, h40, e1, e2, hs1, hs2, hg1, hg2, hlat⟩ := hc0.good
      obtain rfl := e1.symm
      obtain rfl := e2.symm
      obtain ⟨b1, o1, rfl, ht1, _⟩ := (HRA.out.below HB2.out).tb h1 hs1 hg1
      obtain ⟨b2, o2, rfl, ht2, _⟩ := (HRB.out.below HB2.out).tb h1 hs2 hg2
      obtain ⟨y, rfl⟩ := Int.eq_ofNat_of_zero_le hx.1
      have hyq : y < q := by omega
      have hd : decide ((y : Int) < 0) = false := by simp
      have hd2 : decide ((q : Int) ≤ (y : Int)) = false := by simp; omega
      have hv : NSl w1 v1 (oths q (nat2 FA) (nat2 FB) y q) := by
        rcases hv1 with ⟨k, _⟩ | ⟨_, h⟩
        · exact absurd rfl k
        · exact h
      have HN1 : Hid (NSl w2 v1 (oths q (nat2 FA) (nat2 FB) y q)) := hv.below HB12.out
      have HT1 : Hid (Tb w2 b1 o1 q (fun x => rAt (SA x)) (nat2 FA)) := ht1
      have HT2 : Hid (Tb w2 b2 o2 q (fun x => rAt (SB x)) (nat2 FB)) := ht2
      have HLAT : Hid (Lat q (nat2 FA) (nat2 FB)) := hlat
      have hlen : (oths q (nat2 FA) (nat2 FB) y q).length ≤ maxLen := by have := oths_len q (nat2 FA) (nat2 FB) y q; unfold maxLen; omega
      clear hv1 hv hc0 L2 HB12 hx hs1 hs2 hg1 hg2 ht1 ht2 hlat
      go_wp2_with fail
      refine (othersOf_any q b1 o1 ca b2 o2 cb _ _ (nat2 FA) (nat2 FB) y _ h1 h40 hyq HLAT.out HT1.out HT2.out).mono ?_
      rintro e w3 ⟨⟨v3, rfl, hn3⟩, hb3⟩
      have HB3 : Hid (Below w.heap.size w w3) := Below.then HB2.out hb3
      have HN3 : Hid (NSl w3 v1 (oths q (nat2 FA) (nat2 FB) y q)) := HN1.out.below hb3
      have HN4 : Hid (NSl w3 v3 (oths q (nat2 FA) (nat2 FB) y q)) := hn3
      clear hb3 hn3 HN1 p0 p1 p2
      go_wp2_with fail
      refine (latticeBegun_any _ (HT.out.step HB3.out)).mono ?_
      rintro e w4 ⟨rfl, hb4⟩
      have HB4 : Hid (Below w.heap.size w w4) := Below.then HB3.out hb4
      have HN5 : Hid (NSl w4 v1 (oths q (nat2 FA) (nat2 FB) y q)) := HN3.out.below hb4
      have HN6 : Hid (NSl w4 v3 (oths q (nat2 FA) (nat2 FB) y q)) := HN4.out.below hb4
      clear hb4 HN3 HN4
      go_wp2_with fail
      refine (numbersAre_any 0 _ v1 v3 _ hlen (.inr ⟨rfl, HN5.out, HN6.out⟩)).mono ?_
      rintro e w5 ⟨rfl, hb5⟩
      have HB5 : Hid (Below w.heap.size w w5) := Below.then HB4.out hb5
      clear hb5 HN5 HN6
      go_wp2_with fail
      go_ret
      exact ⟨rfl, HB5.out⟩
  · have hne : (c' == 0) = false := by simpa using h0
    obtain rfl : c = c' := by
      rcases hoc with ⟨_, h⟩ | ⟨k, _⟩
      · exact h
      · exact absurd k h0
    obtain rfl : v1 = .slice none 0 0 := by
      rcases hv1 with ⟨_, h⟩ | ⟨k, _⟩
      · exact h
      · exact absurd k h0
    clear hv1 hc0 hoc L2 HB12
    go_wp2_with fail
    refine (latticeBegun_any _ (HT.out.step HB2.out)).mono ?_
    rintro e w4 ⟨rfl, hb4⟩
    have HB4 : Hid (Below w.heap.size w w4) := Below.then HB2.out hb4
    clear hb4
    go_wp2_with fail
    refine (numbersAre_any c [] _ _ _ (by unfold maxLen; simp) (.inl ⟨h0, rfl, rfl⟩)).mono ?_
    rintro e w5 ⟨rfl, hb5⟩
    have HB5 : Hid (Below w.heap.size w w5) := Below.then HB4.out hb5
    clear hb5
    go_wp2_with fail
    go_ret
    exact ⟨rfl, HB5.out⟩
end Go.Proofs.YtcngjmbiinifnaaDoor
