/-
  What hasselaw.filled answers of an order that can be filled up. Conditions: an order; at most forty cuts.
-/
import Derived.Test.YtkcogfjlpbfckaaFilled
namespace Go.Proofs.Ytkcogfjlpbfckaa
open Go.RowKit

/-- The lattice lies there, and each point's place in it. -/
def FdIs (len : Nat) (g : Nat → Nat) (e : Ending) (w' : World) : Prop :=
  ∃ T1 T2 R1 R2 pb, e = .returned (.tuple #[.agg #[.int .i64 ((cuts g len).length : Int), .slice (some ⟨T1, 0, none⟩) (cuts g len).length (cuts g len).length, .slice (some ⟨T2, 0, none⟩) (cuts g len).length (cuts g len).length], .slice (some ⟨pb, 0, none⟩) len len, .bool true]) ∧
    Tb w' T1 0 (cuts g len).length R1 (ctm g len) ∧ Tb w' T2 0 (cuts g len).length R2 (ctj g len) ∧ Row w' (some ⟨pb, 0, none⟩) len (fun k => (ctp g len k : Nat))
theorem Row.set3 {X : World} {B b : Nat} {n : Nat} {f : Nat → Int} (h : Row X (some ⟨b, 0, none⟩) n f) (u v y : Value) (hne : B ≠ b) : Row (((X.setCell ⟨B, 0, none⟩ u).setCell ⟨B, 1, none⟩ v).setCell ⟨B, 2, none⟩ y) (some ⟨b, 0, none⟩) n f := fun k hk => by
  obtain ⟨b', off, e, hc⟩ := h k hk
  have e1 : b = b' := by injection e with e; injection e
  subst e1
  have ne : ∀ i : Nat, (⟨B, i, none⟩ : Addr) ≠ ⟨b, off + k, none⟩ := fun i e => hne (by injection e)
  refine ⟨b, off, e, ?_⟩
  rw [World.cell?_setCell_other _ _ _ _ (ne _), World.cell?_setCell_other _ _ _ _ (ne _), World.cell?_setCell_other _ _ _ _ (ne _)]; exact hc
set_option maxHeartbeats 4000000 in
theorem filled_any (a : Option Addr) (len cap : Nat) (f : Nat → Int) (w : World) (hl : len ≤ maxLen) (hr : Row w a len f) (hc : Chk len len f 0) (hq : (cuts (nat f) len).length ≤ 40) :
    Calls Try.prog 22 #[.agg #[.int .i64 (len : Int), .slice a len cap]] w fun e w' => FdIs len (nat f) e w' ∧ Below w.heap.size w w' := by
  obtain ⟨W, HW⟩ : ∃ W, Hid (W = (w.alloc (.cells #[.int .i64 (len : Int), .slice a len cap] 24)).alloc (.cells #[.int .i64 0, .slice none 0 0, .slice none 0 0] 41)) := ⟨_, rfl⟩
  have B1 : Below w.heap.size w (w.alloc (.cells #[.int .i64 (len : Int), .slice a len cap] 24)) := (Below.refl _ _).alloc (Nat.le_refl _) _
  have B2 : Below w.heap.size w W := by rw [HW.out]; exact B1.alloc (by simp) _
  have K0 : Held W w.heap.size len a len cap f := by rw [HW.out]; exact (Held.box hr).step ((Below.refl _ _).alloc (Nat.le_refl _) _)
  have Z0 : ZL W (w.heap.size + 1) := by
    rw [HW.out]
    have := ZL.new (w.alloc (.cells #[.int .i64 (len : Int), .slice a len cap] 24))
    rw [World.size_alloc] at this; exact this
  have HSZ : Hid (W.heap.size = w.heap.size + 2) := by rw [Hid, HW.out]; simp
  have HB0 : Hid (Below w.heap.size w W) := B2
  have HZ : Hid (ZL W (w.heap.size + 1)) := Z0
  have HK : Hid (Held W w.heap.size len a len cap f) := K0
  have HC : Hid (Chk len len f 0) := hc
  obtain ⟨_, h10, hrng, _⟩ := hc.good
  have HGP : Hid (∀ k, k < len → nat f k < pw len) := hrng.small
  have k0 := K0.c0
  have k1 := K0.c1
  clear hr B1 B2 K0 Z0 hc hrng
  go_enter Try.func22, Try.ntmps22
  go_wp2_with fail
  rw [← HW.out]
  go_wp2_with fail
  refine (fill_any len a len cap f _ hl HK.out.row).mono ?_
  rintro e w1 ⟨hI, hb1⟩
  rcases hI with ⟨c, hbad, rfl⟩ | ⟨_, T1, T2, R1, R2, pb, rfl, ht1, ht2, hrow, hT, hR, hP⟩
  · exfalso
    rcases hbad with ⟨h0, h⟩ | ⟨_, _, h⟩
    · exact h0 (h.unique HC.out)
    · omega
  · have HPT : Hid (∀ k, k < len → ctp (nat f) len k < (cuts (nat f) len).length) := fun k hk => (ctp_is HGP.out hk).1
    have HLAT : Hid (Lat (cuts (nat f) len).length (ctm (nat f) len) (ctj (nat f) len)) := cuts_lat
    have HPOS : Hid (1 ≤ (cuts (nat f) len).length) := cuts_pos _ _
    obtain ⟨q, HQ⟩ : ∃ q, Hid (q = (cuts (nat f) len).length) := ⟨_, rfl⟩
    rw [← HQ.out] at hq ht1 ht2 hR HPT HLAT HPOS ⊢
    obtain ⟨w2, HW2⟩ : ∃ w2, Hid (w2 = w1.alloc (.cells #[.int .i64 (q : Int), .slice (some ⟨T1, 0, none⟩) q q, .slice (some ⟨T2, 0, none⟩) q q] 41)) := ⟨_, rfl⟩
    have hb2 : Below w1.heap.size w1 w2 := by rw [HW2.out]; exact (Below.refl _ _).alloc (Nat.le_refl _) _
    have X2 : LB w2 w1.heap.size (q : Int) (some ⟨T1, 0, none⟩) q q (some ⟨T2, 0, none⟩) q q := by rw [HW2.out]; exact LB.new _ _ _ _ _ _ _ _
    have hb12 := Below.then hb1 hb2
    have HK2 : Hid (Held w2 w.heap.size len a len cap f) := HK.out.step hb12
    have HZ2 : Hid (ZL w2 (w.heap.size + 1)) := HZ.out.step hb12
    have HB2 : Hid (Below w.heap.size w w2) := Below.then HB0.out hb12
    have HT1 : Hid (Tb w2 T1 0 q R1 (ctm (nat f) len)) := ht1.step hb2
    have HT2 : Hid (Tb w2 T2 0 q R2 (ctj (nat f) len)) := ht2.step hb2
    have HRW : Hid (Row w2 (some ⟨pb, 0, none⟩) len (fun k => ((ctp (nat f) len k : Nat) : Int))) := hrow.below hb2
    have HFR : Hid ((w.heap.size + 2 ≤ T1 ∧ w.heap.size + 2 ≤ T2) ∧ (∀ k, k < q → w.heap.size + 2 ≤ (R1 k).1 ∧ w.heap.size + 2 ≤ (R2 k).1) ∧ w.heap.size + 2 ≤ pb) := by rw [← HSZ.out]; exact ⟨hT, hR, hP⟩
    have HX2 : Hid (LB w2 w1.heap.size (q : Int) (some ⟨T1, 0, none⟩) q q (some ⟨T2, 0, none⟩) q q) := X2
    have X2e := X2
    rw [HW2.out] at X2e
    have x0 := X2e.1
    have x1 := X2e.2.1
    have x2 := X2e.2.2
    clear hb1 hb2 hb12 ht1 ht2 hrow hT hR hP HW k0 k1 X2
    go_wp2_with fail
    rw [← HW2.out]
    clear HW2 X2e x0 x1 x2
    refine (lCheck_any q _ q q _ _ _ q q _ _ _ (by unfold maxLen; omega) (by unfold maxLen; omega) (HT1.out.rr (by unfold maxLen; omega)) (HT2.out.rr (by unfold maxLen; omega))).mono ?_
    rintro e w3 ⟨⟨c, rfl, hc⟩, hb3⟩
    obtain rfl : c = 0 := hc.one (LCk.of HPOS.out hq (fun _ _ => rfl) (fun _ _ => rfl) HLAT.out)
    have HK3 : Hid (Held w3 w.heap.size len a len cap f) := HK2.out.step hb3
    have HZ3 : Hid (ZL w3 (w.heap.size + 1)) := HZ2.out.step hb3
    have HB3 : Hid (Below w.heap.size w w3) := Below.then HB2.out hb3
    have HT13 : Hid (Tb w3 T1 0 q R1 (ctm (nat f) len)) := HT1.out.step hb3
    have HT23 : Hid (Tb w3 T2 0 q R2 (ctj (nat f) len)) := HT2.out.step hb3
    have HR3 : Hid (Row w3 (some ⟨pb, 0, none⟩) len (fun k => ((ctp (nat f) len k : Nat) : Int))) := HRW.out.below hb3
    have HX3 : Hid (LB w3 w1.heap.size (q : Int) (some ⟨T1, 0, none⟩) q q (some ⟨T2, 0, none⟩) q q) := HX2.out.step hb3
    have k0 := HK3.out.c0
    clear hb3 hc HK2 HZ2 HB2 HT1 HT2 HRW HX2
    go_wp2_with fail
    clear k0
    go_loopw [8] (fun i wx => ∃ k : Nat, k ≤ len ∧ i = .int .i64 k ∧ Hid (Below w3.heap.size w3 wx)) (fun i _ => len - (intOf i).toNat)
    case atStart => exact ⟨0, Nat.zero_le _, rfl, Below.refl _ _⟩
    case round =>
      obtain ⟨k, hk, rfl, HWX⟩ := hrel
      have k0 := (HK3.out.step HWX.out).c0
      have X4 := HX3.out.step HWX.out
      have x0 := X4.1
      by_cases hlt : k < len
      · obtain ⟨rb, ro, e, hck⟩ := HR3.out.below HWX.out k hlt
        have e1 : rb = pb := by injection e with e; injection e with e1 _; exact e1.symm
        have e2 : ro = 0 := by injection e with e; injection e with _ e2; exact e2.symm
        subst e1
        subst e2
        rw [Nat.zero_add] at hck
        have hpt := HPT.out k hlt
        have i1 : (k : Int) < (len : Int) := by omega
        have i2 : ¬ ((q : Int) ≤ ((ctp (nat f) len k : Nat) : Int)) := by omega
        have i3 : decide (((ctp (nat f) len k : Nat) : Int) < 0) = false := by simp
        clear e X4
        go_wp2_with fail
        go_big_quiet (fail)
        go_wp2_with fail
        go_roundw
        case rel => exact ⟨k + 1, by omega, by go_num, below_drewN HWX.out _⟩
        case measure => simp [intOf]; omega
      · obtain rfl : k = len := by omega
        have x1 := X4.2.1
        have x2 := X4.2.2
        obtain ⟨⟨d0, d1, d2⟩, f0, f1, f2⟩ := HZ3.out.step HWX.out
        have HTF1 : Hid (Tb wr T1 0 q R1 (ctm (nat f) k)) := HT13.out.step HWX.out
        have HTF2 : Hid (Tb wr T2 0 q R2 (ctj (nat f) k)) := HT23.out.step HWX.out
        have HRF : Hid (Row wr (some ⟨pb, 0, none⟩) k (fun i => ((ctp (nat f) k i : Nat) : Int))) := HR3.out.below HWX.out
        have HBF : Hid (Below w.heap.size w wr) := Below.then HB3.out HWX.out
        have hfr := HFR.out
        clear X4 HWX
        go_wp2_with fail
        refine bodyPost_ret (v := .tuple #[.agg #[.int .i64 (q : Int), .slice (some ⟨T1, 0, none⟩) q q, .slice (some ⟨T2, 0, none⟩) q q], .slice (some ⟨pb, 0, none⟩) k k, .bool true]) ?_ rfl ⟨⟨T1, T2, R1, R2, pb, by rw [← HQ.out], ?_, ?_, ?_⟩, ?_⟩
        · simp [results, Try.results22, go_sem, d0, d1, d2]
        · rw [← HQ.out]; exact HTF1.out.set3 _ _ _ (by omega) (fun x hx => by have := hfr.2.1 x hx; omega)
        · rw [← HQ.out]; exact HTF2.out.set3 _ _ _ (by omega) (fun x hx => by have := hfr.2.1 x hx; omega)
        · exact HRF.out.set3 _ _ _ (by omega)
        · exact set3B HBF.out (Nat.le_succ _)
end Go.Proofs.Ytkcogfjlpbfckaa
