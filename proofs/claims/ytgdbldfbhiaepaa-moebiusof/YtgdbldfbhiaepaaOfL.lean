/-
  For every lattice and two numbers that are handed in, hasselaw.MoebiusOf returns true, and writes nothing that was there. No condition.
-/
import Derived.Test.YtgdbldfbhiaepaaRefLW
import Derived.Test.YtgdbldfbhiaepaaMuL
import Derived.Test.YtgdbldfbhiaepaaRefLat
namespace Go.Proofs.Ytgdbldfbhiaepaa
open Go.RowKit Go.Maps

theorem lck_ex (A : LA) : ∃ c, A.Ck c := by
  unfold LA.Ck LCk
  by_cases h1 : ¬ (1 ≤ A.n ∧ A.n ≤ 40)
  · exact ⟨2, .inl ⟨rfl, h1⟩⟩
  · by_cases h2 : Sq A.n A.la A.SA ∧ Sq A.n A.lb A.SB
    · by_cases h3 : Rg A.n A.la A.SA A.FA ∧ Rg A.n A.lb A.SB A.FB
      · by_cases h4 : Lws A.n.toNat (nat2 A.FA) (nat2 A.FB) ∧ Lws A.n.toNat (nat2 A.FB) (nat2 A.FA)
        · exact ⟨0, .inr ⟨by omega, .inr ⟨h2, .inr ⟨h3, .inr ⟨rfl, h4⟩⟩⟩⟩⟩
        · exact ⟨4, .inr ⟨by omega, .inr ⟨h2, .inr ⟨h3, .inl ⟨rfl, h4⟩⟩⟩⟩⟩
      · exact ⟨3, .inr ⟨by omega, .inr ⟨h2, .inl ⟨rfl, h3⟩⟩⟩⟩
    · exact ⟨1, .inr ⟨by omega, .inl ⟨rfl, h2⟩⟩⟩

set_option maxHeartbeats 4000000 in
theorem moebiusOf_any (n : Int) (a : Option Addr) (la ca : Nat) (SA : Nat → Option Addr × Nat × Nat) (FA : Nat → Nat → Int) (b : Option Addr) (lb cb : Nat) (SB : Nat → Option Addr × Nat × Nat) (FB : Nat → Nat → Int) (p q : Int) (w : World) (hla : la ≤ maxLen) (hlb : lb ≤ maxLen) (hra : RR w a la SA FA) (hrb : RR w b lb SB FB) :
    Calls Try.prog 4 #[.agg #[.int .i64 n, .slice a la ca, .slice b lb cb], .int .i64 p, .int .i64 q] w fun e w' => e = .returned (.bool true) ∧ Below w.heap.size w w' := by
  obtain ⟨X, hX⟩ : ∃ X : LA, X = ⟨n, a, la, ca, SA, FA, b, lb, cb, SB, FB⟩ := ⟨_, rfl⟩
  have HI : Hid (X.In w) := by rw [hX]; exact ⟨hla, hlb, hra, hrb⟩
  have HV : Hid (X.v = .agg #[.int .i64 n, .slice a la ca, .slice b lb cb]) := by rw [hX]; exact rfl
  have HN : Hid (X.n = n) := by rw [hX]; exact rfl
  have HOF : Hid (∀ wx, X.In wx → Calls Try.prog 14 #[.agg #[.int .i64 n, .slice a la ca, .slice b lb cb], .int .i64 p, .int .i64 q] wx fun e w' => OfPost X p q e ∧ Below wx.heap.size wx w') := fun wx h => by rw [← HV.out]; exact of_any X p q wx h
  have HCL : Hid (∀ wx, X.In wx → Calls Try.prog 15 #[.agg #[.int .i64 n, .slice a la ca, .slice b lb cb]] wx fun e w' => (∃ c, e = .returned (.int .i64 c) ∧ X.Ck c) ∧ Below wx.heap.size wx w') := fun wx h => by
    rw [hX] at h ⊢
    exact checkLattice_any _ _ _ _ _ _ _ _ _ _ _ wx h.1 h.2.1 h.2.2.1 h.2.2.2
  have HLM : Hid (∀ (x y : Nat) wx, X.Ck 0 → X.In wx → p = x → q = y → x < X.q → y < X.q → Calls Try.prog 16 #[.agg #[.int .i64 n, .slice a la ca, .slice b lb cb], .int .i64 p, .int .i64 q] wx fun e w' => e = .returned (.int .i64 (wz (muL X.m X.q x y))) ∧ Below wx.heap.size wx w') := fun x y wx hc h ep eq hx hy => by
    subst hX
    subst ep
    subst eq
    obtain ⟨q', b1, o1, b2, o2, e1, e2, e3, e4, e5, h1, h40, hlat, ht1, ht2⟩ := LCk.open hc h.2.2.1 h.2.2.2
    have eq : LA.q ⟨n, a, la, ca, SA, FA, b, lb, cb, SB, FB⟩ = q' := by
      show n.toNat = q'
      simp only at e1
      omega
    rw [eq] at hx hy ⊢
    simp only at e1 e2 e3 e4 e5
    subst e1 e2 e3 e4 e5
    exact latticeMu_any _ b1 o1 ca _ _ cb _ _ _ x y wx h40 hlat ht1 hx hy
  obtain ⟨c, hc⟩ : ∃ c, X.Ck c := lck_ex X
  have HC : Hid (X.Ck c) := hc
  have HQ : Hid (X.Ck 0 → n = (X.q : Nat)) := fun h => by
    obtain ⟨q', e, _⟩ := LCk.good h
    have := HN.out
    show n = ((X.n.toNat : Nat) : Int)
    omega
  clear hX HV hla hlb hra hrb hc
  have K0 := LB.new w n a la ca b lb cb
  have hb0 : Below w.heap.size w (w.alloc (.cells #[.int .i64 n, .slice a la ca, .slice b lb cb] 35)) := (Below.refl _ _).alloc (Nat.le_refl _) _
  obtain ⟨W0, HW0⟩ : ∃ W0, Hid (W0 = w.alloc (.cells #[.int .i64 n, .slice a la ca, .slice b lb cb] 35)) := ⟨_, rfl⟩
  rw [← HW0.out] at K0 hb0
  have HB0 : Hid (Below w.heap.size w W0) := hb0
  have HI0 : Hid (X.In W0) := HI.out.step hb0
  obtain ⟨k0, k1, k2⟩ := K0
  clear hb0 HI
  go_enter Try.func4, Try.ntmps4
  go_wp2_with fail
  rw [← HW0.out]
  go_wp2_with fail
  by_cases h0 : c = 0
  · subst h0
    by_cases hp0 : p < 0
    · have HK : Hid (OfCk X p q 3) := .inr ⟨HC.out, .inl ⟨rfl, .inl (by rw [HN.out]; exact pnt_low hp0)⟩⟩
      refine (HOF.out _ HI0.out).mono ?_
      rintro e w1 ⟨he, hb1⟩
      obtain rfl := he.bad HK.out (by decide)
      have K1 : LB w1 w.heap.size n a la ca b lb cb := LB.step ⟨k0, k1, k2⟩ hb1
      have HI1 : Hid (X.In w1) := HI0.out.step hb1
      have HB1 : Hid (Below w.heap.size w w1) := Below.then HB0.out hb1
      clear hb1 he HB0 k0 k1 k2 HW0 HI0 HOF
      obtain ⟨k0, k1, k2⟩ := K1
      go_wp2_with fail
      refine (HCL.out _ HI1.out).mono ?_
      rintro e w3 ⟨⟨c', rfl, hc'⟩, hb3⟩
      obtain rfl := LCk.one hc' HC.out
      have K3 : LB w3 w.heap.size n a la ca b lb cb := LB.step ⟨k0, k1, k2⟩ hb3
      have HI3 : Hid (X.In w3) := HI1.out.step hb3
      have HB3 : Hid (Below w.heap.size w w3) := Below.then HB1.out hb3
      clear hb3 hc' HB1 k0 k1 k2 HI1 HCL
      obtain ⟨k0, k1, k2⟩ := K3
      clear HLM HI3
      go_wp2_with fail
      refine (moebiusBegun_any _).mono ?_
      rintro e w4 ⟨rfl, hb4⟩
      have HB4 : Hid (Below w.heap.size w w4) := Below.then HB3.out hb4
      clear hb4 HB3
      go_wp2_with fail
      refine (numI_any 3 0 0 w4 (.inl ⟨by decide, rfl⟩)).mono ?_
      rintro e w5 ⟨rfl, hb5⟩
      have HB5 : Hid (Below w.heap.size w w5) := Below.then HB4.out hb5
      clear hb5 HB4
      go_wp2_with fail
      go_ret
      exact ⟨rfl, HB5.out⟩
    · skip
      by_cases hp1 : p ≥ n
      · have HK : Hid (OfCk X p q 3) := .inr ⟨HC.out, .inl ⟨rfl, .inl (by rw [HN.out]; exact pnt_high hp1)⟩⟩
        refine (HOF.out _ HI0.out).mono ?_
        rintro e w1 ⟨he, hb1⟩
        obtain rfl := he.bad HK.out (by decide)
        have K1 : LB w1 w.heap.size n a la ca b lb cb := LB.step ⟨k0, k1, k2⟩ hb1
        have HI1 : Hid (X.In w1) := HI0.out.step hb1
        have HB1 : Hid (Below w.heap.size w w1) := Below.then HB0.out hb1
        clear hb1 he HB0 k0 k1 k2 HW0 HI0 HOF
        obtain ⟨k0, k1, k2⟩ := K1
        go_wp2_with fail
        refine (HCL.out _ HI1.out).mono ?_
        rintro e w3 ⟨⟨c', rfl, hc'⟩, hb3⟩
        obtain rfl := LCk.one hc' HC.out
        have K3 : LB w3 w.heap.size n a la ca b lb cb := LB.step ⟨k0, k1, k2⟩ hb3
        have HI3 : Hid (X.In w3) := HI1.out.step hb3
        have HB3 : Hid (Below w.heap.size w w3) := Below.then HB1.out hb3
        clear hb3 hc' HB1 k0 k1 k2 HI1 HCL
        obtain ⟨k0, k1, k2⟩ := K3
        clear HLM HI3
        go_wp2_with fail
        refine (moebiusBegun_any _).mono ?_
        rintro e w4 ⟨rfl, hb4⟩
        have HB4 : Hid (Below w.heap.size w w4) := Below.then HB3.out hb4
        clear hb4 HB3
        go_wp2_with fail
        refine (numI_any 3 0 0 w4 (.inl ⟨by decide, rfl⟩)).mono ?_
        rintro e w5 ⟨rfl, hb5⟩
        have HB5 : Hid (Below w.heap.size w w5) := Below.then HB4.out hb5
        clear hb5 HB4
        go_wp2_with fail
        go_ret
        exact ⟨rfl, HB5.out⟩
      · skip
        by_cases hq0 : q < 0
        · have HK : Hid (OfCk X p q 3) := .inr ⟨HC.out, .inl ⟨rfl, .inr (by rw [HN.out]; exact pnt_low hq0)⟩⟩
          refine (HOF.out _ HI0.out).mono ?_
          rintro e w1 ⟨he, hb1⟩
          obtain rfl := he.bad HK.out (by decide)
          have K1 : LB w1 w.heap.size n a la ca b lb cb := LB.step ⟨k0, k1, k2⟩ hb1
          have HI1 : Hid (X.In w1) := HI0.out.step hb1
          have HB1 : Hid (Below w.heap.size w w1) := Below.then HB0.out hb1
          clear hb1 he HB0 k0 k1 k2 HW0 HI0 HOF
          obtain ⟨k0, k1, k2⟩ := K1
          go_wp2_with fail
          refine (HCL.out _ HI1.out).mono ?_
          rintro e w3 ⟨⟨c', rfl, hc'⟩, hb3⟩
          obtain rfl := LCk.one hc' HC.out
          have K3 : LB w3 w.heap.size n a la ca b lb cb := LB.step ⟨k0, k1, k2⟩ hb3
          have HI3 : Hid (X.In w3) := HI1.out.step hb3
          have HB3 : Hid (Below w.heap.size w w3) := Below.then HB1.out hb3
          clear hb3 hc' HB1 k0 k1 k2 HI1 HCL
          obtain ⟨k0, k1, k2⟩ := K3
          clear HLM HI3
          go_wp2_with fail
          refine (moebiusBegun_any _).mono ?_
          rintro e w4 ⟨rfl, hb4⟩
          have HB4 : Hid (Below w.heap.size w w4) := Below.then HB3.out hb4
          clear hb4 HB3
          go_wp2_with fail
          refine (numI_any 3 0 0 w4 (.inl ⟨by decide, rfl⟩)).mono ?_
          rintro e w5 ⟨rfl, hb5⟩
          have HB5 : Hid (Below w.heap.size w w5) := Below.then HB4.out hb5
          clear hb5 HB4
          go_wp2_with fail
          go_ret
          exact ⟨rfl, HB5.out⟩
        · skip
          by_cases hq1 : q ≥ n
          · have HK : Hid (OfCk X p q 3) := .inr ⟨HC.out, .inl ⟨rfl, .inr (by rw [HN.out]; exact pnt_high hq1)⟩⟩
            refine (HOF.out _ HI0.out).mono ?_
            rintro e w1 ⟨he, hb1⟩
            obtain rfl := he.bad HK.out (by decide)
            have K1 : LB w1 w.heap.size n a la ca b lb cb := LB.step ⟨k0, k1, k2⟩ hb1
            have HI1 : Hid (X.In w1) := HI0.out.step hb1
            have HB1 : Hid (Below w.heap.size w w1) := Below.then HB0.out hb1
            clear hb1 he HB0 k0 k1 k2 HW0 HI0 HOF
            obtain ⟨k0, k1, k2⟩ := K1
            go_wp2_with fail
            refine (HCL.out _ HI1.out).mono ?_
            rintro e w3 ⟨⟨c', rfl, hc'⟩, hb3⟩
            obtain rfl := LCk.one hc' HC.out
            have K3 : LB w3 w.heap.size n a la ca b lb cb := LB.step ⟨k0, k1, k2⟩ hb3
            have HI3 : Hid (X.In w3) := HI1.out.step hb3
            have HB3 : Hid (Below w.heap.size w w3) := Below.then HB1.out hb3
            clear hb3 hc' HB1 k0 k1 k2 HI1 HCL
            obtain ⟨k0, k1, k2⟩ := K3
            clear HLM HI3
            go_wp2_with fail
            refine (moebiusBegun_any _).mono ?_
            rintro e w4 ⟨rfl, hb4⟩
            have HB4 : Hid (Below w.heap.size w w4) := Below.then HB3.out hb4
            clear hb4 HB3
            go_wp2_with fail
            refine (numI_any 3 0 0 w4 (.inl ⟨by decide, rfl⟩)).mono ?_
            rintro e w5 ⟨rfl, hb5⟩
            have HB5 : Hid (Below w.heap.size w w5) := Below.then HB4.out hb5
            clear hb5 HB4
            go_wp2_with fail
            go_ret
            exact ⟨rfl, HB5.out⟩
          · skip
            have hn := HQ.out HC.out
            obtain ⟨x, hpx⟩ : ∃ x : Nat, p = x := ⟨p.toNat, by omega⟩
            obtain ⟨y, hqy⟩ : ∃ y : Nat, q = y := ⟨q.toNat, by omega⟩
            have hx : x < X.q := by omega
            have hy : y < X.q := by omega
            have HK : Hid (OfCk X x y 0) := .inr ⟨HC.out, .inr ⟨rfl, by rw [HN.out]; unfold pnt; simp; omega, by rw [HN.out]; unfold pnt; simp; omega⟩⟩
            have HP : Hid (p = x ∧ q = y ∧ x < X.q ∧ y < X.q) := ⟨hpx, hqy, hx, hy⟩
            clear hn hpx hqy hx hy
            refine (HOF.out _ HI0.out).mono ?_
            rintro e w1 ⟨he, hb1⟩
            obtain rfl := (OfPost.ok (by rw [← HP.out.1, ← HP.out.2.1]; exact he) HK.out)
            have K1 : LB w1 w.heap.size n a la ca b lb cb := LB.step ⟨k0, k1, k2⟩ hb1
            have HI1 : Hid (X.In w1) := HI0.out.step hb1
            have HB1 : Hid (Below w.heap.size w w1) := Below.then HB0.out hb1
            clear hb1 he HB0 k0 k1 k2 HW0 HI0 HOF
            obtain ⟨k0, k1, k2⟩ := K1
            go_wp2_with fail
            refine (HCL.out _ HI1.out).mono ?_
            rintro e w3 ⟨⟨c', rfl, hc'⟩, hb3⟩
            obtain rfl := LCk.one hc' HC.out
            have K3 : LB w3 w.heap.size n a la ca b lb cb := LB.step ⟨k0, k1, k2⟩ hb3
            have HI3 : Hid (X.In w3) := HI1.out.step hb3
            have HB3 : Hid (Below w.heap.size w w3) := Below.then HB1.out hb3
            clear hb3 hc' HB1 k0 k1 k2 HI1 HCL
            obtain ⟨k0, k1, k2⟩ := K3
            go_wp2_with fail
            refine (HLM.out x y w3 HC.out HI3.out HP.out.1 HP.out.2.1 HP.out.2.2.1 HP.out.2.2.2).mono ?_
            rintro e w6 ⟨rfl, hb6⟩
            have HB6 : Hid (Below w.heap.size w w6) := Below.then HB3.out hb6
            clear hb6 HB3 k0 k1 k2 HI3 HLM
            have HB3 := HB6
            clear HB6
            generalize wz (muL X.m X.q x y) = Z at *
            go_wp2_with fail
            refine (moebiusBegun_any _).mono ?_
            rintro e w4 ⟨rfl, hb4⟩
            have HB4 : Hid (Below w.heap.size w w4) := Below.then HB3.out hb4
            clear hb4 HB3
            go_wp2_with fail
            refine (numI_any 0 Z Z w4 (.inr ⟨rfl, rfl⟩)).mono ?_
            rintro e w5 ⟨rfl, hb5⟩
            have HB5 : Hid (Below w.heap.size w w5) := Below.then HB4.out hb5
            clear hb5 HB4
            go_wp2_with fail
            go_ret
            exact ⟨rfl, HB5.out⟩
  · have HK : Hid (OfCk X p q c) := .inl ⟨h0, HC.out⟩
    have hne : (c == 0) = false := by simpa using h0
    refine (HOF.out _ HI0.out).mono ?_
    rintro e w1 ⟨he, hb1⟩
    obtain rfl := he.bad HK.out h0
    have K1 : LB w1 w.heap.size n a la ca b lb cb := LB.step ⟨k0, k1, k2⟩ hb1
    have HI1 : Hid (X.In w1) := HI0.out.step hb1
    have HB1 : Hid (Below w.heap.size w w1) := Below.then HB0.out hb1
    clear hb1 he HB0 k0 k1 k2 HW0 HI0 HOF
    obtain ⟨k0, k1, k2⟩ := K1
    go_wp2_with fail
    refine (HCL.out _ HI1.out).mono ?_
    rintro e w3 ⟨⟨c', rfl, hc'⟩, hb3⟩
    obtain rfl := LCk.one hc' HC.out
    have K3 : LB w3 w.heap.size n a la ca b lb cb := LB.step ⟨k0, k1, k2⟩ hb3
    have HI3 : Hid (X.In w3) := HI1.out.step hb3
    have HB3 : Hid (Below w.heap.size w w3) := Below.then HB1.out hb3
    clear hb3 hc' HB1 k0 k1 k2 HI1 HCL
    obtain ⟨k0, k1, k2⟩ := K3
    clear HLM HI3
    go_wp2_with fail
    refine (moebiusBegun_any _).mono ?_
    rintro e w4 ⟨rfl, hb4⟩
    have HB4 : Hid (Below w.heap.size w w4) := Below.then HB3.out hb4
    clear hb4 HB3
    go_wp2_with fail
    refine (numI_any c' 0 0 w4 (.inl ⟨h0, rfl⟩)).mono ?_
    rintro e w5 ⟨rfl, hb5⟩
    have HB5 : Hid (Below w.heap.size w w5) := Below.then HB4.out hb5
    clear hb5 HB4
    go_wp2_with fail
    go_ret
    exact ⟨rfl, HB5.out⟩
end Go.Proofs.Ytgdbldfbhiaepaa
