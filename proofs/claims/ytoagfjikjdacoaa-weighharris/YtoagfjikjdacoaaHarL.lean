/-
  For every number and lists that are handed in, hasselaw.WeighHarris returns true, and writes nothing that was there. No condition.
-/
import Derived.Test.YtoagfjikjdacoaaDayL
namespace Go.Proofs.Ytoagfjikjdacoaa
set_option maxRecDepth 100000
open Go.RowKit

theorem all_good {N : Int} {m n : Nat} {S : Nat → Option Addr × Nat × Nat} {F : Nat → Nat → Int} {c : Int} (h : WChk N m S F c) (hN : N = n) (hn : n ≤ 6) (hk : ∀ k, k < m → (S k).2.1 = pw n ∧ ∀ y, y < (S k).2.1 → 0 ≤ F k y ∧ F k y ≤ 1000) : c = 0 :=
  h.unique (.inr ⟨n, hN, hn, .inr ⟨fun k h => (hk k h).1, .inr ⟨rfl, fun k h => (hk k h).2⟩⟩⟩)

set_option maxHeartbeats 4000000 in
theorem weighHarris_any (N : Int) (a0 : Option Addr) (l0 k0 : Nat) (f0 : Nat → Int) (a1 : Option Addr) (l1 k1 : Nat) (f1 : Nat → Int) (a2 : Option Addr) (l2 k2 : Nat) (f2 : Nat → Int) (w : World)
    (m0 : l0 ≤ maxLen) (m1 : l1 ≤ maxLen) (m2 : l2 ≤ maxLen) (r0 : Row w a0 l0 f0) (r1 : Row w a1 l1 f1) (r2 : Row w a2 l2 f2) :
    Calls Try.prog 7 #[.int .i64 N, .slice a0 l0 k0, .slice a1 l1 k1, .slice a2 l2 k2] w fun e w' => e = .returned (.bool true) ∧ Below w.heap.size w w' := by
  have R0 : Hid (Row w a0 l0 f0) := r0; have R1 : Hid (Row w a1 l1 f1) := r1; have R2 : Hid (Row w a2 l2 f2) := r2
  have M0 : Hid (l0 ≤ maxLen) := m0; have M1 : Hid (l1 ≤ maxLen) := m1; have M2 : Hid (l2 ≤ maxLen) := m2
  clear r0 r1 r2 m0 m1 m2
  go_enter Try.func7, Try.ntmps7
  go_wp2_with fail
  refine (weighBegun_any w).mono ?_
  rintro e w1 ⟨rfl, hb1⟩
  have HB1 : Hid (Below w.heap.size w w1) := hb1
  clear hb1
  go_wp2_with fail
  refine (curved_any N a0 l0 k0 f0 w1 M0.out (R0.out.below HB1.out)).mono ?_
  rintro e w2 ⟨⟨c, v, rfl, hc, hv⟩, hb2⟩
  have HB2 : Hid (Below w.heap.size w w2) := Below.then HB1.out hb2
  have HC : Hid (WChk N 4 (sel4 (a0, l0, k0) (a0, l0, k0) (a0, l0, k0) (a0, l0, k0)) (sel4 f0 f0 f0 f0) c) := hc
  have HV : Hid ((c ≠ 0 ∧ v = false) ∨ (c = 0 ∧ (v = true ↔ FourN N.toNat (nt f0) (nt f0) (nt f0) (nt f0)))) := hv
  clear hc hv hb2 HB1
  go_wp2_with fail
  refine (rises_any N a1 l1 k1 f1 w2 M1.out (R1.out.below HB2.out)).mono ?_
  rintro e w3 ⟨⟨d, u, rfl, hc, hv⟩, hb⟩
  have HB3 : Hid (Below w.heap.size w w3) := Below.then HB2.out hb
  have HD : Hid (WChk N 1 (sel4 (a1, l1, k1) (a1, l1, k1) (a1, l1, k1) (a1, l1, k1)) (sel4 f1 f1 f1 f1) d) := hc
  have HDV : Hid ((d ≠ 0 ∧ u = false) ∨ (d = 0 ∧ (u = true ↔ RisN N.toNat (nt f1)))) := hv
  clear hc hv hb HB2
  go_wp2_with fail
  refine (rises_any N a2 l2 k2 f2 w3 M2.out (R2.out.below HB3.out)).mono ?_
  rintro e w4 ⟨⟨g, x, rfl, hc, hv⟩, hb⟩
  have HB4 : Hid (Below w.heap.size w w4) := Below.then HB3.out hb
  have HG : Hid (WChk N 1 (sel4 (a2, l2, k2) (a2, l2, k2) (a2, l2, k2) (a2, l2, k2)) (sel4 f2 f2 f2 f2) g) := hc
  have HGV : Hid ((g ≠ 0 ∧ x = false) ∨ (g = 0 ∧ (x = true ↔ RisN N.toNat (nt f2)))) := hv
  clear hc hv hb HB3
  by_cases hc : c = 0
  · subst hc
    by_cases hd : d = 0
    · subst hd
      by_cases hg : g = 0
      · subst hg
        cases v
        · go_wp2_with fail
          go_ret
          exact ⟨rfl, HB4.out⟩
        · cases u
          · go_wp2_with fail
            go_ret
            exact ⟨rfl, HB4.out⟩
          · cases x
            · go_wp2_with fail
              go_ret
              exact ⟨rfl, HB4.out⟩
            · obtain ⟨n, rfl, hn6, hfr, hin⟩ := HC.out.good
              have HF : Hid (FourN n (nt f0) (nt f0) (nt f0) (nt f0)) := by
                rcases HV.out with ⟨h, _⟩ | ⟨_, h⟩
                · exact absurd rfl h
                · exact h.1 rfl
              have HF1 : Hid (RisN n (nt f1)) := by
                rcases HDV.out with ⟨h, _⟩ | ⟨_, h⟩
                · exact absurd rfl h
                · exact h.1 rfl
              have HF2 : Hid (RisN n (nt f2)) := by
                rcases HGV.out with ⟨h, _⟩ | ⟨_, h⟩
                · exact absurd rfl h
                · exact h.1 rfl
              obtain ⟨n1, e1, _, hfr1, hin1⟩ := HD.out.good
              obtain rfl : n1 = n := by omega
              obtain ⟨n2, e2, _, hfr2, hin2⟩ := HG.out.good
              obtain rfl : n2 = n1 := by omega
              have K0 : Hid (l0 = pw n2 ∧ ∀ y, y < l0 → 0 ≤ f0 y ∧ f0 y ≤ 1000) := ⟨hfr 0 (by omega), hin 0 (by omega)⟩
              have K1 : Hid (l1 = pw n2 ∧ ∀ y, y < l1 → 0 ≤ f1 y ∧ f1 y ≤ 1000) := ⟨hfr1 0 (by omega), hin1 0 (by omega)⟩
              have K2 : Hid (l2 = pw n2 ∧ ∀ y, y < l2 → 0 ≤ f2 y ∧ f2 y ≤ 1000) := ⟨hfr2 0 (by omega), hin2 0 (by omega)⟩
              clear hfr hin hfr1 hin1 hfr2 hin2 e1 e2 HC HV HD HDV HG HGV
              go_wp2_with fail
              refine (sum_any n2 a0 l0 k0 f0 none 0 0 S0 F0 _ M0.out (by unfold maxLen; omega) (R0.out.below HB4.out) (rr0 _) (fun h => ⟨rfl, rfl⟩)).mono ?_
              rintro e w5 ⟨⟨s0, c0, rfl, hs⟩, hb⟩
              obtain ⟨hc, hs⟩ := hs.two (by omega)
              obtain rfl : c0 = 0 := all_good hc rfl hn6 (by
                intro k hk
                rcases (by omega : k = 0) with rfl
                · exact K0.out)
              obtain rfl : s0 = ((wsum n2 0 f0 F0 : Nat) : Int) := by
                rcases hs with ⟨h, _⟩ | ⟨_, h⟩
                · exact absurd rfl h
                · exact h
              have B0 : Hid (wsum n2 0 f0 F0 ≤ 64 * 1000 ^ (0 + 1)) := wsum_le hc
              have HX0 : Hid (Below w.heap.size w w5) := Below.then HB4.out hb
              clear hc hs hb
              have HL1 : Hid (RR (w5.alloc (.cells #[.slice a1 l1 k1] 22)) (some ⟨w5.heap.size, 0, none⟩) 1 (sel4 (a1, l1, k1) (a1, l1, k1) (a1, l1, k1) (a1, l1, k1)) (sel4 f1 f1 f1 f1)) := rr1 M1.out (R1.out.below HX0.out)
              have HY1 : Hid (Below w.heap.size w (w5.alloc (.cells #[.slice a1 l1 k1] 22))) := bel_more HX0.out _
              go_wp2_with fail
              refine (sum_any n2 a0 l0 k0 f0 _ 1 1 (sel4 (a1, l1, k1) (a1, l1, k1) (a1, l1, k1) (a1, l1, k1)) (sel4 f1 f1 f1 f1) _ M0.out (by unfold maxLen; omega) (R0.out.below HY1.out) HL1.out (fun h => by omega)).mono ?_
              rintro e w6 ⟨⟨s1, c1, rfl, hs⟩, hb⟩
              obtain ⟨hc, hs⟩ := hs.two (by omega)
              obtain rfl : c1 = 0 := all_good hc rfl hn6 (by
                intro k hk
                rcases (by omega : k = 0 ∨ k = 1) with rfl | rfl
                · exact K0.out
                · exact K1.out)
              obtain rfl : s1 = ((wsum n2 1 f0 (sel4 f1 f1 f1 f1) : Nat) : Int) := by
                rcases hs with ⟨h, _⟩ | ⟨_, h⟩
                · exact absurd rfl h
                · exact h
              have B1 : Hid (wsum n2 1 f0 (sel4 f1 f1 f1 f1) ≤ 64 * 1000 ^ (1 + 1)) := wsum_le hc
              have HX1 : Hid (Below w.heap.size w w6) := Below.then HY1.out hb
              clear hc hs hb
              have HL2 : Hid (RR (w6.alloc (.cells #[.slice a2 l2 k2] 22)) (some ⟨w6.heap.size, 0, none⟩) 1 (sel4 (a2, l2, k2) (a2, l2, k2) (a2, l2, k2) (a2, l2, k2)) (sel4 f2 f2 f2 f2)) := rr1 M2.out (R2.out.below HX1.out)
              have HY2 : Hid (Below w.heap.size w (w6.alloc (.cells #[.slice a2 l2 k2] 22))) := bel_more HX1.out _
              go_wp2_with fail
              refine (sum_any n2 a0 l0 k0 f0 _ 1 1 (sel4 (a2, l2, k2) (a2, l2, k2) (a2, l2, k2) (a2, l2, k2)) (sel4 f2 f2 f2 f2) _ M0.out (by unfold maxLen; omega) (R0.out.below HY2.out) HL2.out (fun h => by omega)).mono ?_
              rintro e w7 ⟨⟨s2, c2, rfl, hs⟩, hb⟩
              obtain ⟨hc, hs⟩ := hs.two (by omega)
              obtain rfl : c2 = 0 := all_good hc rfl hn6 (by
                intro k hk
                rcases (by omega : k = 0 ∨ k = 1) with rfl | rfl
                · exact K0.out
                · exact K2.out)
              obtain rfl : s2 = ((wsum n2 1 f0 (sel4 f2 f2 f2 f2) : Nat) : Int) := by
                rcases hs with ⟨h, _⟩ | ⟨_, h⟩
                · exact absurd rfl h
                · exact h
              have B2 : Hid (wsum n2 1 f0 (sel4 f2 f2 f2 f2) ≤ 64 * 1000 ^ (1 + 1)) := wsum_le hc
              have HX2 : Hid (Below w.heap.size w w7) := Below.then HY2.out hb
              clear hc hs hb
              have HL3 : Hid (RR (w7.alloc (.cells #[.slice a1 l1 k1, .slice a2 l2 k2] 22)) (some ⟨w7.heap.size, 0, none⟩) 2 (sel4 (a1, l1, k1) (a2, l2, k2) (a2, l2, k2) (a2, l2, k2)) (sel4 f1 f2 f2 f2)) := rr2 M1.out M2.out (R1.out.below HX2.out) (R2.out.below HX2.out)
              have HY3 : Hid (Below w.heap.size w (w7.alloc (.cells #[.slice a1 l1 k1, .slice a2 l2 k2] 22))) := bel_more HX2.out _
              go_wp2_with fail
              refine (sum_any n2 a0 l0 k0 f0 _ 2 2 (sel4 (a1, l1, k1) (a2, l2, k2) (a2, l2, k2) (a2, l2, k2)) (sel4 f1 f2 f2 f2) _ M0.out (by unfold maxLen; omega) (R0.out.below HY3.out) HL3.out (fun h => by omega)).mono ?_
              rintro e w8 ⟨⟨s3, c3, rfl, hs⟩, hb⟩
              obtain ⟨hc, hs⟩ := hs.two (by omega)
              obtain rfl : c3 = 0 := all_good hc rfl hn6 (by
                intro k hk
                rcases (by omega : k = 0 ∨ k = 1 ∨ k = 2) with rfl | rfl | rfl
                · exact K0.out
                · exact K1.out
                · exact K2.out)
              obtain rfl : s3 = ((wsum n2 2 f0 (sel4 f1 f2 f2 f2) : Nat) : Int) := by
                rcases hs with ⟨h, _⟩ | ⟨_, h⟩
                · exact absurd rfl h
                · exact h
              have B3 : Hid (wsum n2 2 f0 (sel4 f1 f2 f2 f2) ≤ 64 * 1000 ^ (2 + 1)) := wsum_le hc
              have HX3 : Hid (Below w.heap.size w w8) := Below.then HY3.out hb
              clear hc hs hb
              have HM : Hid (wsum n2 1 f0 (sel4 f1 f1 f1 f1) * wsum n2 1 f0 (sel4 f2 f2 f2 f2) ≤ wsum n2 2 f0 (sel4 f1 f2 f2 f2) * wsum n2 0 f0 F0) := harris HF.out HF1.out HF2.out
              have hm1 := mul_wrapB (A := wsum n2 2 f0 (sel4 f1 f2 f2 f2)) (B := wsum n2 0 f0 F0) (Nat.le_trans B3.out (by decide)) (Nat.le_trans B0.out (by decide))
              have hm2 := mul_wrapB (A := wsum n2 1 f0 (sel4 f1 f1 f1 f1)) (B := wsum n2 1 f0 (sel4 f2 f2 f2 f2)) (Nat.le_trans B1.out (by decide)) (Nat.le_trans B2.out (by decide))
              clear B0 B1 B2 B3 K0 K1 K2 HF HF1 HF2 R0 R1 R2 HL1 HL2 HL3 HY1 HY2 HY3 HX0 HX1 HX2
              generalize wsum n2 2 f0 (sel4 f1 f2 f2 f2) = A0 at *
              generalize wsum n2 0 f0 F0 = A1 at *
              generalize wsum n2 1 f0 (sel4 f1 f1 f1 f1) = A2 at *
              generalize wsum n2 1 f0 (sel4 f2 f2 f2 f2) = A3 at *
              generalize A0 * A1 = P0 at *
              generalize A2 * A3 = P1 at *
              have hle : (P1 : Int) ≤ (P0 : Int) := by have := HM.out; omega
              go_wp2_with fail
              go_ret
              exact ⟨rfl, HX3.out⟩
      · have hng : (g != 0) = true := by simpa using hg
        clear HC HV HD HDV HG HGV hg
        go_wp2_with fail
        go_ret
        exact ⟨rfl, HB4.out⟩
    · have hnd : (d != 0) = true := by simpa using hd
      clear HC HV HD HDV HG HGV hd
      go_wp2_with fail
      go_ret
      exact ⟨rfl, HB4.out⟩
  · have hnc : (c != 0) = true := by simpa using hc
    clear HC HV HD HDV HG HGV hc
    go_wp2_with fail
    go_ret
    exact ⟨rfl, HB4.out⟩
end Go.Proofs.Ytoagfjikjdacoaa
