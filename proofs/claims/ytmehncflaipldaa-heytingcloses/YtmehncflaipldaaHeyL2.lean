/-
  hasselaw.HeytingRegular returns true of every lattice. No condition but that slices read as slices of rows.
-/
import Derived.Test.YtmehncflaipldaaHeyL1
namespace Go.Proofs.Ytmehncflaipldaa
set_option maxRecDepth 100000
open Go.RowKit

theorem regs_len (L : LA) (h : L.Ck 0) : (regs L.q L.m L.j).length ≤ maxLen := by
  have h1 := filt_len (rgB L.q L.m L.j) L.q
  have h2 := (LA.Ck.lat h).2.1
  show (filt (rgB L.q L.m L.j) L.q).length ≤ maxLen
  unfold maxLen; omega
set_option maxHeartbeats 4000000 in
theorem heytingRegular_la (L : LA) (w : World) (hL : L.In w) :
    Calls Try.prog 4 #[.agg #[.int .i64 L.n, .slice L.a L.la L.ca, .slice L.b L.lb L.cb]] w fun e w' => e = .returned (.bool true) ∧ Below w.heap.size w w' := by
  have B1 : Below w.heap.size w (w.alloc (.cells #[.int .i64 L.n, .slice L.a L.la L.ca, .slice L.b L.lb L.cb] 24)) := (Below.refl _ _).alloc (Nat.le_refl _) _
  have L0 := LB.new w L.n L.a L.la L.ca L.b L.lb L.cb
  have HI : Hid (L.In (w.alloc (.cells #[.int .i64 L.n, .slice L.a L.la L.ca, .slice L.b L.lb L.cb] 24))) := hL.step B1
  have HB1 : Hid _ := B1
  clear B1 hL
  go_enter Try.func4, Try.ntmps4
  go_wp2_with fail
  refine (regular_any L _ HI.out).mono ?_
  rintro e w1 ⟨⟨v, c, rfl, hp⟩, hb1⟩
  have HC : Hid (HCk L c) := hp.1
  have HV : Hid ((c ≠ 0 ∧ v = .slice none 0 0) ∨ (c = 0 ∧ NSl w1 v (regs L.q L.m L.j))) := hp.2
  have HB2 : Hid (Below w.heap.size w w1) := Below.then HB1.out hb1
  have HI1 : Hid (L.In w1) := HI.out.step hb1
  have L1 := L0.step hb1
  have l0 := L1.1
  have l1 := L1.2.1
  have l2 := L1.2.2
  clear hp hb1 HB1 HI L0
  go_wp2_with fail
  refine (boolean_any L _ HI1.out).mono ?_
  rintro e w2 ⟨⟨bv, c2, rfl, hc2, hp2⟩, hb2⟩
  obtain rfl := hc2.one HC.out
  have HP2 : Hid ((c2 ≠ 0 ∧ bv = false) ∨ (c2 = 0 ∧ (bv = true ↔ (regs L.q L.m L.j).length = L.q))) := hp2
  have HB3 : Hid (Below w.heap.size w w2) := Below.then HB2.out hb2
  have HV2 : Hid ((c2 ≠ 0 ∧ v = .slice none 0 0) ∨ (c2 = 0 ∧ NSl w2 v (regs L.q L.m L.j))) := HV.out.imp_right fun h => ⟨h.1, h.2.below hb2⟩
  have HI2 : Hid (L.In w2) := HI1.out.step hb2
  have L2 := L1.step hb2
  clear hp2 hb2 hc2 HB2 HI1 l0 l1 l2 HV L1
  have l0 := L2.1
  have l1 := L2.2.1
  have l2 := L2.2.2
  go_wp2_with fail
  refine (checkHeyting_any L _ HI2.out).mono ?_
  rintro e w3 ⟨⟨c3, rfl, hc3⟩, hb3⟩
  obtain rfl := hc3.one HC.out
  have HB4 : Hid (Below w.heap.size w w3) := Below.then HB3.out hb3
  have HV3 : Hid ((c3 ≠ 0 ∧ v = .slice none 0 0) ∨ (c3 = 0 ∧ NSl w3 v (regs L.q L.m L.j))) := HV2.out.imp_right fun h => ⟨h.1, h.2.below hb3⟩
  have HI3 : Hid (L.In w3) := HI2.out.step hb3
  have L3 := L2.step hb3
  clear hb3 hc3 HB3 HI2 l0 l1 l2 HV2 L2
  have l0 := L3.1
  have l1 := L3.2.1
  have l2 := L3.2.2
  by_cases h0 : c3 = 0
  · subst h0
    have HCK : Hid (L.Ck 0) := by
      rcases HC.out with ⟨h, _⟩ | ⟨h, _⟩
      · exact absurd rfl h
      · exact h
    have HNQ : Hid (L.n = (L.q : Nat)) := (LA.Ck.lat HCK.out).2.2.2
    have HN3 : Hid (NSl w3 v (regs L.q L.m L.j)) := by
      rcases HV3.out with ⟨h, _⟩ | ⟨_, h⟩
      · exact absurd rfl h
      · exact h
    have HBV : Hid (bv = true ↔ (regs L.q L.m L.j).length = L.q) := by
      rcases HP2.out with ⟨h, _⟩ | ⟨_, h⟩
      · exact absurd rfl h
      · exact h
    have HRO : Hid _ := regularOf_la HI3.out HC.out
    clear HV3 HP2
    go_wp2_with fail
    refine (Calls.mono HRO.out) ?_
    rintro e w4 ⟨⟨v', rfl, hv'⟩, hb4⟩
    have HB5 : Hid (Below w.heap.size w w4) := Below.then HB4.out hb4
    have HV4 : Hid (NSl w4 v (regs L.q L.m L.j) ∧ NSl w4 v' (regs L.q L.m L.j)) := ⟨HN3.out.below hb4, hv'⟩
    have L4 := L3.step hb4
    clear hb4 hv' HB4 HN3 HRO l0 l1 l2 L3
    go_wp2_with fail
    refine (heytingBegun_any _).mono ?_
    rintro e w5 ⟨rfl, hb5⟩
    have HB6 : Hid (Below w.heap.size w w5) := Below.then HB5.out hb5
    have HV5 : Hid (NSl w5 v (regs L.q L.m L.j) ∧ NSl w5 v' (regs L.q L.m L.j)) := ⟨HV4.out.1.below hb5, HV4.out.2.below hb5⟩
    have L5 := L4.step hb5
    clear hb5 HB5 HV4 L4
    go_wp2_with fail
    refine (numbersAre_any 0 (regs L.q L.m L.j) v v' _ (regs_len L HCK.out) (.inr ⟨rfl, HV5.out⟩)).mono ?_
    rintro e w6 ⟨rfl, hb6⟩
    have HB7 : Hid (Below w.heap.size w w6) := Below.then HB6.out hb6
    have L6 := L5.step hb6
    have l0 := L6.1
    obtain ⟨a', cap', rfl, _⟩ := HV5.out.2
    have HBE : Hid (bv = ((((regs L.q L.m L.j).length : Nat) : Int) == L.n)) := by
      refine bool_iff HBV.out ?_
      rw [HNQ.out]; simp; omega
    clear hb6 HB6 HV5 L5 L6
    go_wp2_with fail
    refine (truthIs_any 0 bv _ _ (.inr ⟨rfl, HBE.out⟩)).mono ?_
    rintro e w7 ⟨rfl, hw7⟩
    subst w7
    go_wp2_with fail
    go_ret
    exact ⟨rfl, HB7.out⟩
  · have hne : (c3 == 0) = false := by simpa using h0
    obtain rfl : v = .slice none 0 0 := by
      rcases HV3.out with ⟨_, h⟩ | ⟨h, _⟩
      · exact h
      · exact absurd h h0
    obtain rfl : bv = false := by
      rcases HP2.out with ⟨_, h⟩ | ⟨h, _⟩
      · exact h
      · exact absurd h h0
    clear HV3 HP2
    go_wp2_with fail
    refine (heytingBegun_any _).mono ?_
    rintro e w5 ⟨rfl, hb5⟩
    have HB6 : Hid (Below w.heap.size w w5) := Below.then HB4.out hb5
    have L5 := L3.step hb5
    clear hb5 HB4 L3 l0 l1 l2
    go_wp2_with fail
    refine (numbersAre_any c3 [] (.slice none 0 0) (.slice none 0 0) _ (by unfold maxLen; simp) (.inl ⟨h0, rfl, rfl⟩)).mono ?_
    rintro e w6 ⟨rfl, hb6⟩
    have HB7 : Hid (Below w.heap.size w w6) := Below.then HB6.out hb6
    have L6 := L5.step hb6
    have l0 := L6.1
    clear hb6 HB6 L5 L6
    go_wp2_with fail
    refine (truthIs_any c3 false _ _ (.inl ⟨h0, rfl⟩)).mono ?_
    rintro e w7 ⟨rfl, hw7⟩
    subst w7
    go_wp2_with fail
    go_ret
    exact ⟨rfl, HB7.out⟩
theorem heytingRegular_any (n : Int) (a : Option Addr) (la ca : Nat) (SA : Nat → Option Addr × Nat × Nat) (FA : Nat → Nat → Int) (b : Option Addr) (lb cb : Nat) (SB : Nat → Option Addr × Nat × Nat) (FB : Nat → Nat → Int) (w : World) (hla : la ≤ maxLen) (hlb : lb ≤ maxLen) (hra : RR w a la SA FA) (hrb : RR w b lb SB FB) :
    Calls Try.prog 4 #[.agg #[.int .i64 n, .slice a la ca, .slice b lb cb]] w fun e w' => e = .returned (.bool true) ∧ Below w.heap.size w w' :=
  heytingRegular_la ⟨n, a, la, ca, SA, FA, b, lb, cb, SB, FB⟩ w ⟨hla, hlb, hra, hrb⟩
end Go.Proofs.Ytmehncflaipldaa
