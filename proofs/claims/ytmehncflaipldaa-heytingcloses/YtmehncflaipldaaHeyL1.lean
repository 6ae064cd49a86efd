/-
  hasselaw.HeytingImplies returns true of every lattice and two numbers. No condition but that slices read as slices of rows.
-/
import Derived.Test.YtmehncflaipldaaHBeg
import Derived.Test.YtmehncflaipldaaRefH
import Derived.Test.YtmehncflaipldaaTruth
namespace Go.Proofs.Ytmehncflaipldaa
set_option maxRecDepth 100000
open Go.RowKit

theorem numberIs_any (n e w0 want : Int) (w : World) (h : e = w0) (hv : (w0 ≠ 0 ∧ n = 0) ∨ (w0 = 0 ∧ n = want)) :
    Calls Try.prog 11 #[.int .i64 n, .int .i64 e, .int .i64 w0, .int .i64 want] w fun e w' => e = .returned (.bool true) ∧ w = w' := by
  subst h
  rcases hv with ⟨h0, rfl⟩ | ⟨rfl, rfl⟩
  · have hne : (e != 0) = true := by simpa using h0
    go_enter Try.func11, Try.ntmps11
    go_wp2
    go_ret
    exact ⟨rfl, rfl⟩
  · go_enter Try.func11, Try.ntmps11
    go_wp2
    go_ret
    exact ⟨rfl, rfl⟩
/-- ImpliesOf, of a lattice that is checked. -/
theorem implOf_la {L : LA} {w : World} (hL : L.In w) (hC : HCk L 0) (x y : Int) (hx : 0 ≤ x ∧ x < L.n) (hy : 0 ≤ y ∧ y < L.n) :
    Calls Try.prog 9 #[.agg #[.int .i64 L.n, .slice L.a L.la L.ca, .slice L.b L.lb L.cb], .int .i64 x, .int .i64 y] w fun e w' => e = .returned (.int .i64 (imp L.q L.m L.j x.toNat y.toNat : Nat)) ∧ Below w.heap.size w w' := by
  rcases hC with ⟨h, _⟩ | ⟨hc, ⟨h, _⟩ | ⟨_, hd⟩⟩
  · exact absurd rfl h
  · exact absurd h (by decide)
  have hl := LA.Ck.lat hc
  obtain ⟨q, b1, o1, b2, o2, eq, e1, hla, e2, hlb, _, _, _, ht1, ht2⟩ := LCk.open hc hL.2.2.1 hL.2.2.2
  have hq : q = L.q := by unfold LA.q; omega
  subst hq
  have ex : x = (x.toNat : Nat) := by omega
  have ey : y = (y.toNat : Nat) := by omega
  rw [e1, e2, ← hla, ← hlb, eq]
  generalize x.toNat = X at *
  generalize y.toNat = Y at *
  subst ex
  subst ey
  exact implOf_any hl.1 hl.2.1 hl.2.2.1 hd ht1 (by omega) (by omega)
theorem regularOf_la {L : LA} {w : World} (hL : L.In w) (hC : HCk L 0) :
    Calls Try.prog 14 #[.agg #[.int .i64 L.n, .slice L.a L.la L.ca, .slice L.b L.lb L.cb]] w fun e w' => (∃ v, e = .returned v ∧ NSl w' v (regs L.q L.m L.j)) ∧ Below w.heap.size w w' := by
  rcases hC with ⟨h, _⟩ | ⟨hc, ⟨h, _⟩ | ⟨_, hd⟩⟩
  · exact absurd rfl h
  · exact absurd h (by decide)
  have hl := LA.Ck.lat hc
  obtain ⟨q, b1, o1, b2, o2, eq, e1, hla, e2, hlb, _, _, _, ht1, ht2⟩ := LCk.open hc hL.2.2.1 hL.2.2.2
  have hq : q = L.q := by unfold LA.q; omega
  subst hq
  rw [e1, e2, ← hla, ← hlb, eq]
  exact regularOf_any hl.1 hl.2.1 hl.2.2.1 hd ht1
set_option maxHeartbeats 4000000 in
theorem heytingImplies_la (L : LA) (x y : Int) (w : World) (hL : L.In w) :
    Calls Try.prog 3 #[.agg #[.int .i64 L.n, .slice L.a L.la L.ca, .slice L.b L.lb L.cb], .int .i64 x, .int .i64 y] w fun e w' => e = .returned (.bool true) ∧ Below w.heap.size w w' := by
  have B1 : Below w.heap.size w (w.alloc (.cells #[.int .i64 L.n, .slice L.a L.la L.ca, .slice L.b L.lb L.cb] 24)) := (Below.refl _ _).alloc (Nat.le_refl _) _
  have L0 := LB.new w L.n L.a L.la L.ca L.b L.lb L.cb
  have HI : Hid (L.In (w.alloc (.cells #[.int .i64 L.n, .slice L.a L.la L.ca, .slice L.b L.lb L.cb] 24))) := hL.step B1
  have HB1 : Hid _ := B1
  clear B1 hL
  go_enter Try.func3, Try.ntmps3
  go_wp2_with fail
  refine (implies_any L x y _ HI.out).mono ?_
  rintro e w1 ⟨⟨v, c, hp, rfl⟩, hb1⟩
  have HIP : Hid (IPost L x y v c) := hp
  have HB2 : Hid (Below w.heap.size w w1) := Below.then HB1.out hb1
  have HI1 : Hid (L.In w1) := HI.out.step hb1
  have L1 := L0.step hb1
  have l0 := L1.1
  have l1 := L1.2.1
  have l2 := L1.2.2
  clear hp hb1 HB1 HI L0
  go_wp2_with fail
  refine (checkHeyting_any L _ HI1.out).mono ?_
  rintro e w2 ⟨⟨c', rfl, hc'⟩, hb2⟩
  have HBX : Hid (Below w.heap.size w w2) := Below.then HB2.out hb2
  have HI2 : Hid (L.In w2) := HI1.out.step hb2
  have L2 := L1.step hb2
  have k0 := L2.1
  have k1 := L2.2.1
  have k2 := L2.2.2
  have HDD : Hid (HCk L c') := hc'
  clear hb2 HB2 HI1 L1 L2 l0 l1 l2 hc'
  by_cases h0 : c' = 0
  · subst h0
    have HC0 : Hid (HCk L 0) := HDD.out
    by_cases hx0 : x < 0
    · obtain ⟨rfl, rfl⟩ := HIP.out.one (.inr ⟨HC0.out, .inl ⟨rfl, rfl, fun h => by omega⟩⟩)
      clear HIP HC0 HDD HI2
      go_wp2_with fail
      refine (heytingBegun_any _).mono ?_
      rintro e w8 ⟨rfl, hb8⟩
      have HB8 : Hid (Below w.heap.size w w8) := Below.then HBX.out hb8
      clear hb8 HBX
      go_wp2_with fail
      refine (numberIs_any 0 3 3 0 _ rfl (.inl ⟨by decide, rfl⟩)).mono ?_
      rintro e w9 ⟨rfl, hw9⟩
      subst w9
      go_wp2_with fail
      go_ret
      exact ⟨rfl, HB8.out⟩
    · have hx0' : 0 ≤ x := by omega
      by_cases hx1 : L.n ≤ x
      · obtain ⟨rfl, rfl⟩ := HIP.out.one (.inr ⟨HC0.out, .inl ⟨rfl, rfl, fun h => by omega⟩⟩)
        clear HIP HC0 HDD HI2 hx0
        go_wp2_with fail
        refine (heytingBegun_any _).mono ?_
        rintro e w8 ⟨rfl, hb8⟩
        have HB8 : Hid (Below w.heap.size w w8) := Below.then HBX.out hb8
        clear hb8 HBX
        go_wp2_with fail
        refine (numberIs_any 0 3 3 0 _ rfl (.inl ⟨by decide, rfl⟩)).mono ?_
        rintro e w9 ⟨rfl, hw9⟩
        subst w9
        go_wp2_with fail
        go_ret
        exact ⟨rfl, HB8.out⟩
      · have hx1' : x < L.n := by omega
        by_cases hy0 : y < 0
        · obtain ⟨rfl, rfl⟩ := HIP.out.one (.inr ⟨HC0.out, .inl ⟨rfl, rfl, fun h => by omega⟩⟩)
          clear HIP HC0 HDD HI2 hx0 hx1
          go_wp2_with fail
          refine (heytingBegun_any _).mono ?_
          rintro e w8 ⟨rfl, hb8⟩
          have HB8 : Hid (Below w.heap.size w w8) := Below.then HBX.out hb8
          clear hb8 HBX
          go_wp2_with fail
          refine (numberIs_any 0 3 3 0 _ rfl (.inl ⟨by decide, rfl⟩)).mono ?_
          rintro e w9 ⟨rfl, hw9⟩
          subst w9
          go_wp2_with fail
          go_ret
          exact ⟨rfl, HB8.out⟩
        · have hy0' : 0 ≤ y := by omega
          by_cases hy1 : L.n ≤ y
          · obtain ⟨rfl, rfl⟩ := HIP.out.one (.inr ⟨HC0.out, .inl ⟨rfl, rfl, fun h => by omega⟩⟩)
            clear HIP HC0 HDD HI2 hx0 hx1 hy0
            go_wp2_with fail
            refine (heytingBegun_any _).mono ?_
            rintro e w8 ⟨rfl, hb8⟩
            have HB8 : Hid (Below w.heap.size w w8) := Below.then HBX.out hb8
            clear hb8 HBX
            go_wp2_with fail
            refine (numberIs_any 0 3 3 0 _ rfl (.inl ⟨by decide, rfl⟩)).mono ?_
            rintro e w9 ⟨rfl, hw9⟩
            subst w9
            go_wp2_with fail
            go_ret
            exact ⟨rfl, HB8.out⟩
          · have hy1' : y < L.n := by omega
            obtain ⟨rfl, rfl⟩ := HIP.out.one (.inr ⟨HC0.out, .inr ⟨rfl, ⟨⟨hx0', hx1'⟩, hy0', hy1'⟩, rfl⟩⟩)
            have HRI : Hid _ := implOf_la HI2.out HC0.out x y ⟨hx0', hx1'⟩ ⟨hy0', hy1'⟩
            clear HIP HC0 HDD HI2 hx0 hx1 hy0 hy1
            go_wp2_with fail
            refine (Calls.mono HRI.out) ?_
            rintro e w6 ⟨rfl, hb6⟩
            have HB6 : Hid (Below w.heap.size w w6) := Below.then HBX.out hb6
            clear hb6 HBX HRI
            have HBX := HB6
            go_wp2_with fail
            refine (heytingBegun_any _).mono ?_
            rintro e w8 ⟨rfl, hb8⟩
            have HB8 : Hid (Below w.heap.size w w8) := Below.then HBX.out hb8
            clear hb8 HBX
            go_wp2_with fail
            refine (numberIs_any _ 0 0 _ _ rfl (.inr ⟨rfl, rfl⟩)).mono ?_
            rintro e w9 ⟨rfl, hw9⟩
            subst w9
            go_wp2_with fail
            go_ret
            exact ⟨rfl, HB8.out⟩
  · have hne : (c' == 0) = false := by simpa using h0
    obtain ⟨rfl, rfl⟩ := HIP.out.one (.inl ⟨h0, rfl, HDD.out⟩)
    clear HIP HDD HI2
    go_wp2_with fail
    refine (heytingBegun_any _).mono ?_
    rintro e w8 ⟨rfl, hb8⟩
    have HB8 : Hid (Below w.heap.size w w8) := Below.then HBX.out hb8
    clear hb8 HBX
    go_wp2_with fail
    refine (numberIs_any 0 c c 0 _ rfl (.inl ⟨h0, rfl⟩)).mono ?_
    rintro e w9 ⟨rfl, hw9⟩
    subst w9
    go_wp2_with fail
    go_ret
    exact ⟨rfl, HB8.out⟩
theorem heytingImplies_any (n : Int) (a : Option Addr) (la ca : Nat) (SA : Nat → Option Addr × Nat × Nat) (FA : Nat → Nat → Int) (b : Option Addr) (lb cb : Nat) (SB : Nat → Option Addr × Nat × Nat) (FB : Nat → Nat → Int) (x y : Int) (w : World) (hla : la ≤ maxLen) (hlb : lb ≤ maxLen) (hra : RR w a la SA FA) (hrb : RR w b lb SB FB) :
    Calls Try.prog 3 #[.agg #[.int .i64 n, .slice a la ca, .slice b lb cb], .int .i64 x, .int .i64 y] w fun e w' => e = .returned (.bool true) ∧ Below w.heap.size w w' :=
  heytingImplies_la ⟨n, a, la, ca, SA, FA, b, lb, cb, SB, FB⟩ x y w ⟨hla, hlb, hra, hrb⟩
end Go.Proofs.Ytmehncflaipldaa
