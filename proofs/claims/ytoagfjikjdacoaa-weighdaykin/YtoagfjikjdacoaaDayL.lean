/-
  For every number and lists that are handed in, hasselaw.WeighDaykin returns true, and writes nothing that was there. No condition.
-/
import Derived.Test.YtoagfjikjdacoaaSuL
namespace Go.Proofs.Ytoagfjikjdacoaa
set_option maxRecDepth 100000
open Go.RowKit

theorem wsum_le {n m : Nat} {aw : Option Addr × Nat × Nat} {f : Nat → Int} {S : Nat → Option Addr × Nat × Nat} {F : Nat → Nat → Int} (h : WChk (n : Int) (1 + m) (cns aw S) (cns f F) 0) : wsum n m f F ≤ 64 * 1000 ^ (m + 1) := by
  obtain ⟨n', e, hn6, hfr, hin⟩ := h.good
  obtain rfl : n' = n := by omega
  have q0 : aw.2.1 = pw n' := hfr 0 (by omega)
  have h1 : wsum n' m f F ≤ pw n' * 1000 ^ (m + 1) := by
    unfold wsum
    refine sumTo_le _ fun x hx => prd_le ?_ m fun i hi => ?_
    · have : 0 ≤ f x ∧ f x ≤ 1000 := hin 0 (by omega) x (by show x < aw.2.1; omega)
      unfold nt; omega
    · have q : (S i).2.1 = pw n' := hfr (i + 1) (by omega)
      have : 0 ≤ F i x ∧ F i x ≤ 1000 := hin (i + 1) (by omega) x (by show x < (S i).2.1; omega)
      unfold nt; omega
  exact Nat.le_trans h1 (Nat.mul_le_mul_right _ (pw6 hn6))
theorem mul_wrapB {A B : Nat} (hA : A ≤ 64000000000) (hB : B ≤ 64000000) : wrap64 ((A : Int) * (B : Int)) = ((A * B : Nat) : Int) := by
  have h := Nat.mul_le_mul hA hB
  rw [← Int.natCast_mul]
  generalize A * B = m at *
  exact IntWalk.wrap64_in _ ⟨by omega, by omega⟩
theorem cns_one {N : Int} {p : Option Addr × Nat × Nat} {f : Nat → Int} {m j : Nat} {S : Nat → Option Addr × Nat × Nat} {F : Nat → Nat → Int} {c : Int} {n : Nat} (h : WChk N (1 + 0) (cns p S0) (cns f F0) c) (hN : N = n) (hn : n ≤ 6) (hfr : Frm n m S) (hin : Inr m S F) (hj : j < m) (e1 : S j = p) (e2 : F j = f) : c = 0 := by
  refine h.unique (.inr ⟨n, hN, hn, .inr ⟨?_, .inr ⟨rfl, ?_⟩⟩⟩)
  · intro k hk
    obtain rfl : k = 0 := by omega
    show p.2.1 = pw n
    rw [← e1]; exact hfr j hj
  · intro k hk
    obtain rfl : k = 0 := by omega
    show ∀ y, y < p.2.1 → 0 ≤ f y ∧ f y ≤ 1000
    rw [← e1, ← e2]; exact hin j hj

set_option maxHeartbeats 4000000 in
theorem weighDaykin_any (N : Int) (a0 : Option Addr) (l0 k0 : Nat) (f0 : Nat → Int) (a1 : Option Addr) (l1 k1 : Nat) (f1 : Nat → Int) (a2 : Option Addr) (l2 k2 : Nat) (f2 : Nat → Int) (a3 : Option Addr) (l3 k3 : Nat) (f3 : Nat → Int) (w : World)
    (m0 : l0 ≤ maxLen) (m1 : l1 ≤ maxLen) (m2 : l2 ≤ maxLen) (m3 : l3 ≤ maxLen) (r0 : Row w a0 l0 f0) (r1 : Row w a1 l1 f1) (r2 : Row w a2 l2 f2) (r3 : Row w a3 l3 f3) :
    Calls Try.prog 8 #[.int .i64 N, .slice a0 l0 k0, .slice a1 l1 k1, .slice a2 l2 k2, .slice a3 l3 k3] w fun e w' => e = .returned (.bool true) ∧ Below w.heap.size w w' := by
  have R0 : Hid (Row w a0 l0 f0) := r0; have R1 : Hid (Row w a1 l1 f1) := r1; have R2 : Hid (Row w a2 l2 f2) := r2; have R3 : Hid (Row w a3 l3 f3) := r3
  have M0 : Hid (l0 ≤ maxLen) := m0; have M1 : Hid (l1 ≤ maxLen) := m1; have M2 : Hid (l2 ≤ maxLen) := m2; have M3 : Hid (l3 ≤ maxLen) := m3
  clear r0 r1 r2 r3 m0 m1 m2 m3
  go_enter Try.func8, Try.ntmps8
  go_wp2_with fail
  refine (weighBegun_any w).mono ?_
  rintro e w1 ⟨rfl, hb1⟩
  have HB1 : Hid (Below w.heap.size w w1) := hb1
  clear hb1
  go_wp2_with fail
  refine (four_any N a0 l0 k0 f0 a1 l1 k1 f1 a2 l2 k2 f2 a3 l3 k3 f3 w1 M0.out M1.out M2.out M3.out (R0.out.below HB1.out) (R1.out.below HB1.out) (R2.out.below HB1.out) (R3.out.below HB1.out)).mono ?_
  rintro e w2 ⟨⟨c, v, rfl, hc, hv⟩, hb2⟩
  have HB2 : Hid (Below w.heap.size w w2) := Below.then HB1.out hb2
  have HC : Hid (WChk N 4 (sel4 (a0, l0, k0) (a1, l1, k1) (a2, l2, k2) (a3, l3, k3)) (sel4 f0 f1 f2 f3) c) := hc
  have HV : Hid ((c ≠ 0 ∧ v = false) ∨ (c = 0 ∧ (v = true ↔ FourN N.toNat (nt f0) (nt f1) (nt f2) (nt f3)))) := hv
  clear hc hv hb2 HB1
  by_cases h0 : c = 0
  · subst h0
    obtain ⟨n, rfl, hn6, hfr, hin⟩ := HC.out.good
    have HFR := (show Hid (Frm _ _ _) from hfr); have HIN := (show Hid (Inr _ _ _) from hin)
    clear hfr hin HC
    cases v
    · go_wp2_with fail
      go_ret
      exact ⟨rfl, HB2.out⟩
    · have HF : Hid (FourN n (nt f0) (nt f1) (nt f2) (nt f3)) := by
        rcases HV.out with ⟨h, _⟩ | ⟨_, h⟩
        · exact absurd rfl h
        · exact h.1 rfl
      clear HV
      go_wp2_with fail
      refine (sum_any n a0 l0 k0 f0 none 0 0 S0 F0 w2 M0.out (Nat.zero_le _) (R0.out.below HB2.out) (rr0 _) (fun _ => ⟨rfl, rfl⟩)).mono ?_
      rintro e w3 ⟨⟨s0, c0, rfl, hs⟩, hb⟩
      obtain ⟨hc, hs⟩ := hs.two (by omega)
      obtain rfl : c0 = 0 := cns_one hc rfl hn6 HFR.out HIN.out (j := 0) (by omega) rfl rfl
      obtain rfl : s0 = ((wsum n 0 f0 F0 : Nat) : Int) := by
        rcases hs with ⟨h, _⟩ | ⟨_, h⟩
        · exact absurd rfl h
        · exact h
      have B0 : Hid (wsum n 0 f0 F0 ≤ 64000) := wsum_le hc
      have HB3 : Hid (Below w.heap.size w w3) := Below.then HB2.out hb
      clear hc hs hb HB2
      go_wp2_with fail
      refine (sum_any n a1 l1 k1 f1 none 0 0 S0 F0 w3 M1.out (Nat.zero_le _) (R1.out.below HB3.out) (rr0 _) (fun _ => ⟨rfl, rfl⟩)).mono ?_
      rintro e w4 ⟨⟨s1, c1, rfl, hs⟩, hb⟩
      obtain ⟨hc, hs⟩ := hs.two (by omega)
      obtain rfl : c1 = 0 := cns_one hc rfl hn6 HFR.out HIN.out (j := 1) (by omega) rfl rfl
      obtain rfl : s1 = ((wsum n 0 f1 F0 : Nat) : Int) := by
        rcases hs with ⟨h, _⟩ | ⟨_, h⟩
        · exact absurd rfl h
        · exact h
      have B1 : Hid (wsum n 0 f1 F0 ≤ 64000) := wsum_le hc
      have HB4 : Hid (Below w.heap.size w w4) := Below.then HB3.out hb
      clear hc hs hb HB3
      go_wp2_with fail
      refine (sum_any n a2 l2 k2 f2 none 0 0 S0 F0 w4 M2.out (Nat.zero_le _) (R2.out.below HB4.out) (rr0 _) (fun _ => ⟨rfl, rfl⟩)).mono ?_
      rintro e w5 ⟨⟨s2, c2, rfl, hs⟩, hb⟩
      obtain ⟨hc, hs⟩ := hs.two (by omega)
      obtain rfl : c2 = 0 := cns_one hc rfl hn6 HFR.out HIN.out (j := 2) (by omega) rfl rfl
      obtain rfl : s2 = ((wsum n 0 f2 F0 : Nat) : Int) := by
        rcases hs with ⟨h, _⟩ | ⟨_, h⟩
        · exact absurd rfl h
        · exact h
      have B2 : Hid (wsum n 0 f2 F0 ≤ 64000) := wsum_le hc
      have HB5 : Hid (Below w.heap.size w w5) := Below.then HB4.out hb
      clear hc hs hb HB4
      go_wp2_with fail
      refine (sum_any n a3 l3 k3 f3 none 0 0 S0 F0 w5 M3.out (Nat.zero_le _) (R3.out.below HB5.out) (rr0 _) (fun _ => ⟨rfl, rfl⟩)).mono ?_
      rintro e w6 ⟨⟨s3, c3, rfl, hs⟩, hb⟩
      obtain ⟨hc, hs⟩ := hs.two (by omega)
      obtain rfl : c3 = 0 := cns_one hc rfl hn6 HFR.out HIN.out (j := 3) (by omega) rfl rfl
      obtain rfl : s3 = ((wsum n 0 f3 F0 : Nat) : Int) := by
        rcases hs with ⟨h, _⟩ | ⟨_, h⟩
        · exact absurd rfl h
        · exact h
      have B3 : Hid (wsum n 0 f3 F0 ≤ 64000) := wsum_le hc
      have HB6 : Hid (Below w.heap.size w w6) := Below.then HB5.out hb
      clear hc hs hb HB5
      have HM : Hid (wsum n 0 f0 F0 * wsum n 0 f1 F0 ≤ wsum n 0 f2 F0 * wsum n 0 f3 F0) := four_all n (nt f0) (nt f1) (nt f2) (nt f3) HF.out
      have hm1 := mul_wrapB (A := wsum n 0 f0 F0) (B := wsum n 0 f1 F0) (Nat.le_trans B0.out (by decide)) (Nat.le_trans B1.out (by decide))
      have hm2 := mul_wrapB (A := wsum n 0 f2 F0) (B := wsum n 0 f3 F0) (Nat.le_trans B2.out (by decide)) (Nat.le_trans B3.out (by decide))
      clear B0 B1 B2 B3 HFR HIN HF R0 R1 R2 R3
      generalize wsum n 0 f0 F0 = A0 at *
      generalize wsum n 0 f1 F0 = A1 at *
      generalize wsum n 0 f2 F0 = A2 at *
      generalize wsum n 0 f3 F0 = A3 at *
      generalize A0 * A1 = P0 at *
      generalize A2 * A3 = P1 at *
      have hle : (P0 : Int) ≤ (P1 : Int) := by have := HM.out; omega
      go_wp2_with fail
      go_ret
      exact ⟨rfl, HB6.out⟩
  · have hne : (c != 0) = true := by simpa using h0
    clear HC HV h0
    go_wp2_with fail
    go_ret
    exact ⟨rfl, HB2.out⟩
end Go.Proofs.Ytoagfjikjdacoaa
