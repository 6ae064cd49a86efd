/-
  For every lattice and number that are handed in, hasselaw.MoebiusWeisner returns true, and writes nothing that was there. No condition.
-/
import Derived.Test.YtgdbldfbhiaepabWeiM
import Derived.Test.YtgdbldfbhiaepabMBeg
import Derived.Test.YtgdbldfbhiaepabChoose
import Derived.Test.YtgdbldfbhiaepabOfP
namespace Go.Proofs.Ytgdbldfbhiaepab
open Go.RowKit Go.Maps

/-- The first k of those that come together with y to z. -/
def weiT (m j : Nat → Nat → Nat) (q a y z k : Nat) : Int := sumI (fun x => if j x y = z then muL m q a x else 0) k
theorem lsA_low {q : Nat} {m j : Nat → Nat → Nat} (hl : Lat q m j) (h1 : 1 ≤ q) {x : Nat} (hx : x < q) : m (lsA m q) x = lsA m q := by
  rw [lsA_is hl h1]; exact low_all hl h1 hx

set_option maxHeartbeats 4000000 in
theorem moebiusWeisner_any (n : Int) (a : Option Addr) (la ca : Nat) (SA : Nat → Option Addr × Nat × Nat) (FA : Nat → Nat → Int) (b : Option Addr) (lb cb : Nat) (SB : Nat → Option Addr × Nat × Nat) (FB : Nat → Nat → Int) (Y : Int) (w : World) (hla : la ≤ maxLen) (hlb : lb ≤ maxLen) (y1 : -9223372036854775808 ≤ Y) (y2 : Y ≤ 9223372036854775807) (hra : RR w a la SA FA) (hrb : RR w b lb SB FB) :
    Calls Try.prog 3 #[.agg #[.int .i64 n, .slice a la ca, .slice b lb cb], .int .i64 Y] w fun e w' => e = .returned (.bool true) ∧ Below w.heap.size w w' := by
  obtain ⟨X, hX⟩ : ∃ X : LA, X = ⟨n, a, la, ca, SA, FA, b, lb, cb, SB, FB⟩ := ⟨_, rfl⟩
  have HI : Hid (X.In w) := by rw [hX]; exact ⟨hla, hlb, hra, hrb⟩
  have HV : Hid (X.v = .agg #[.int .i64 n, .slice a la ca, .slice b lb cb]) := by rw [hX]; exact rfl
  have HN : Hid (X.n = n) := by rw [hX]; exact rfl
  have HOF : Hid (∀ (p q : Int) wx, X.In wx → Calls Try.prog 8 #[.agg #[.int .i64 n, .slice a la ca, .slice b lb cb], .int .i64 p, .int .i64 q] wx fun e w' => OfPost X p q e ∧ Below wx.heap.size wx w') := fun p q wx h => by rw [← HV.out]; exact of_any X p q wx h
  have HCK : Hid (∀ wx, X.In wx → Calls Try.prog 5 #[.agg #[.int .i64 n, .slice a la ca, .slice b lb cb]] wx fun e w' => (∃ c, e = .returned (.int .i64 c) ∧ X.Ck c) ∧ Below wx.heap.size wx w') := fun wx h => by
    rw [hX] at h ⊢
    exact lCheck_any _ _ _ _ _ _ _ _ _ _ _ wx h.1 h.2.1 h.2.2.1 h.2.2.2
  have HOP : Hid (X.Ck 0 → ∀ wx, X.In wx → ∃ q b1 o1 b2 o2 : Nat, ∃ R R', n = (q : Nat) ∧ a = some ⟨b1, o1, none⟩ ∧ q = la ∧ b = some ⟨b2, o2, none⟩ ∧ q = lb ∧ 1 ≤ q ∧ q ≤ 40 ∧ X.q = q ∧ Lat q X.m X.j ∧ Tb wx b1 o1 q R X.m ∧ Tb wx b2 o2 q R' X.j) := fun hc wx h => by
    rw [hX] at h hc ⊢
    obtain ⟨q, b1, o1, b2, o2, e1, e2, e3, e4, e5, h1, h40, hlat, ht1, ht2⟩ := LCk.open hc h.2.2.1 h.2.2.2
    exact ⟨q, b1, o1, b2, o2, _, _, e1, e2, e3, e4, e5, h1, h40, by show n.toNat = q; simp only at e1; omega, hlat, ht1, ht2⟩
  clear hX HV hla hlb hra hrb
  have K0 := LB.new w n a la ca b lb cb
  have hb0 : Below w.heap.size w (w.alloc (.cells #[.int .i64 n, .slice a la ca, .slice b lb cb] 24)) := (Below.refl _ _).alloc (Nat.le_refl _) _
  obtain ⟨W0, HW0⟩ : ∃ W0, Hid (W0 = w.alloc (.cells #[.int .i64 n, .slice a la ca, .slice b lb cb] 24)) := ⟨_, rfl⟩
  rw [← HW0.out] at K0 hb0
  have HB0 : Hid (Below w.heap.size w W0) := hb0
  have HI0 : Hid (X.In W0) := HI.out.step hb0
  have HK : Hid (∀ wx, Below W0.heap.size W0 wx → LB wx w.heap.size n a la ca b lb cb) := fun wx h => LB.step K0 h
  clear hb0 HI K0
  go_enter Try.func3, Try.ntmps3
  go_wp2_with fail
  rw [← HW0.out]
  refine (moebiusBegun_any _).mono ?_
  rintro e w1 ⟨rfl, hb1⟩
  have HB1 : Hid (Below W0.heap.size W0 w1) := hb1
  obtain ⟨k0, k1, k2⟩ := HK.out _ hb1
  clear hb1 HW0
  go_wp2_with fail
  refine (HCK.out _ (HI0.out.step HB1.out)).mono ?_
  rintro e w2 ⟨⟨c, rfl, hc⟩, hb2⟩
  have HB2 : Hid (Below W0.heap.size W0 w2) := Below.then HB1.out hb2
  have HC : Hid (X.Ck c) := hc
  clear hb2 hc HB1 k0 k1 k2 HCK
  by_cases h0 : c = 0
  · subst h0
    obtain ⟨q, b1, o1, b2, o2, R, R', rfl, rfl, rfl, rfl, rfl, h1, h40, eq, hlat, ht1, ht2⟩ := HOP.out HC.out W0 HI0.out
    have HLAT : Hid (Lat q X.m X.j) := hlat
    have HT1 : Hid (Tb W0 b1 o1 q R X.m) := ht1
    have HT2 : Hid (Tb W0 b2 o2 q R' X.j) := ht2
    have HQ : Hid (X.q = q) := eq
    have HLS : Hid (lsA X.m q < q) := lsA_lt X.m h1 q (Nat.le_refl _)
    have HLG : Hid (lsB X.m q < q) := lsB_lt X.m h1 q (Nat.le_refl _)
    have HOFK : Hid (∀ (x y : Nat) wx, x < q → y < q → X.In wx → Calls Try.prog 8 #[.agg #[.int .i64 (q : Nat), .slice (some ⟨b1, o1, none⟩) q ca, .slice (some ⟨b2, o2, none⟩) q cb], .int .i64 (x : Nat), .int .i64 (y : Nat)] wx fun e w' => e = .returned (.tuple #[.int .i64 (wz (muL X.m q x y)), .int .i64 0]) ∧ Below wx.heap.size wx w') := fun x y wx hx hy h =>
      (HOF.out x y wx h).mono fun e w' ⟨he, hb⟩ => ⟨by
        have := he.ok (.inr ⟨HC.out, .inr ⟨rfl, by rw [HN.out]; unfold pnt; simp; omega, by rw [HN.out]; unfold pnt; simp; omega⟩⟩)
        rw [HQ.out] at this; exact this, hb⟩
    clear hlat ht1 ht2 eq HOP HOF
    obtain ⟨k0, k1, k2⟩ := HK.out _ HB2.out
    go_wp2_with fail
    refine (leastOf_any q b1 o1 ca _ q cb R X.m w2 h1 h40 (HT1.out.step HB2.out)).mono ?_
    rintro e w3 ⟨rfl, hb3⟩
    have HB3 : Hid (Below W0.heap.size W0 w3) := Below.then HB2.out hb3
    clear hb3 HB2 k0 k1 k2
    obtain ⟨k0, k1, k2⟩ := HK.out _ HB3.out
    obtain ⟨A, HA⟩ : ∃ A, Hid (lsA X.m q = A) := ⟨_, rfl⟩
    obtain ⟨G, HGG⟩ : ∃ G, Hid (lsB X.m q = G) := ⟨_, rfl⟩
    have HLOW : Hid (∀ x, x < q → X.m A x = A) := fun x hx => by rw [← HA.out]; exact lsA_low HLAT.out h1 hx
    rw [HA.out, HGG.out]
    rw [HA.out] at HLS
    rw [HGG.out] at HLG
    go_wp2_with fail
    refine (choose_any Y q _ h1 (by omega) y1 y2).mono ?_
    rintro e w4 ⟨⟨y, hy, rfl⟩, rfl⟩
    go_wp2_with fail
    clear k0 k1 k2
    go_loopw [7, 8] (fun v i wx => ∃ k : Nat, k ≤ q ∧ i = .int .i64 k ∧ v = .int .i64 (wz (weiT X.m X.j q A y G k)) ∧ Hid (Below W0.heap.size W0 wx)) (fun _ i _ => q - (intOf i).toNat)
    case atStart => exact ⟨0, Nat.zero_le _, rfl, by simp [weiT, sumI, wz], HB3⟩
    case round =>
      clear HB3
      obtain ⟨k, hk, rfl, rfl, HB⟩ := hrel
      obtain ⟨k0, k1, k2⟩ := HK.out _ HB.out
      by_cases hkq : k < q
      · have hlk : (k : Int) < (q : Int) := by omega
        have hly : (y : Int) < (q : Int) := by omega
        have hT := HT2.out.step HB.out
        have r1 := (hT k hkq).1
        have r2 := (hT k hkq).2 y hy
        clear hT
        by_cases hj : X.j k y = G
        · have hje : (((X.j k y : Nat) : Int) != (G : Int)) = false := by simp; omega
          have HS : Hid (wrap64 (wz (weiT X.m X.j q A y G k) + wz (muL X.m q A k)) = wz (weiT X.m X.j q A y G (k + 1))) := by
            show _ = _
            rw [wz_add]; unfold weiT; rw [sumI, if_pos hj]
          clear hj
          generalize X.j k y = J at *
          go_wp2_with fail
          refine (HOFK.out A k wr HLS.out hkq (HI0.out.step HB.out)).mono ?_
          rintro e w5 ⟨rfl, hb5⟩
          have HB5 : Hid (Below W0.heap.size W0 w5) := Below.then HB.out hb5
          clear hb5 HB k0 k1 k2 r1 r2
          obtain ⟨V, HVV⟩ : ∃ V, Hid (wz (weiT X.m X.j q A y G k) = V) := ⟨_, rfl⟩
          obtain ⟨U, HU⟩ : ∃ U, Hid (wz (muL X.m q A k) = U) := ⟨_, rfl⟩
          rw [HVV.out, HU.out]
          rw [HVV.out, HU.out] at HS
          go_wp2_with fail
          go_roundw
          case rel => exact ⟨k + 1, by omega, by go_num, by rw [← HS.out], HB5⟩
          case measure => simp [intOf]; omega
        · have hje : (((X.j k y : Nat) : Int) != (G : Int)) = true := by simp; omega
          have HS : Hid (weiT X.m X.j q A y G (k + 1) = weiT X.m X.j q A y G k) := by
            show _ = _
            unfold weiT; rw [sumI, if_neg hj]; omega
          clear hj
          generalize X.j k y = J at *
          go_wp2_with fail
          go_roundw
          case rel => exact ⟨k + 1, by omega, by go_num, by rw [HS.out], HB⟩
          case measure => simp [intOf]; omega
      · obtain rfl : k = q := by omega
        by_cases hyA : y = A
        · have hya : ((y : Int) == (A : Int)) = true := by simp; omega
          clear hyA
          go_wp2_with fail
          go_ret
          exact ⟨rfl, Below.then HB0.out HB.out⟩
        · have hya : ((y : Int) == (A : Int)) = false := by simp; omega
          have HZ : Hid (wz (weiT X.m X.j k A y G k) = 0) := by
            show _ = _
            have : weiT X.m X.j k A y G k = 0 := wei_zero HLAT.out hy HLOW.out HLS.out hyA (rkC (sB X.m) k G + 1) G HLG.out (by omega)
            rw [this]; simp [wz]
          rw [HZ.out]
          go_wp2_with fail
          go_ret
          exact ⟨rfl, Below.then HB0.out HB.out⟩
  · have hne : (c != 0) = true := by simpa using h0
    go_wp2_with fail
    go_ret
    exact ⟨rfl, Below.then HB0.out HB2.out⟩
end Go.Proofs.Ytgdbldfbhiaepab
