/-
  For every number and lists that are handed in, hasselaw.WeighSums returns true, and writes nothing that was there. No condition.
-/
import Derived.Test.YtoagfjikjdacoaaRefW
import Derived.Test.YtoagfjikjdacoaaRefS
import Derived.Test.YtoagfjikjdacoaaWBeg
namespace Go.Proofs.Ytoagfjikjdacoaa
set_option maxRecDepth 100000
open Go.RowKit

theorem WChk.congr {N : Int} {m : Nat} {S S' : Nat → Option Addr × Nat × Nat} {F F' : Nat → Nat → Int} {c : Int} (h : WChk N m S F c) (hS : ∀ k, k < m → S k = S' k) (hF : ∀ k, k < m → F k = F' k) : WChk N m S' F' c := by
  have e1 : ∀ n, Frm n m S ↔ Frm n m S' := fun n => ⟨fun h k hk => by rw [← hS k hk]; exact h k hk, fun h k hk => by rw [hS k hk]; exact h k hk⟩
  have e2 : Inr m S F ↔ Inr m S' F' := ⟨fun h k hk => by rw [← hS k hk, ← hF k hk]; exact h k hk, fun h k hk => by rw [hS k hk, hF k hk]; exact h k hk⟩
  rcases h with h | ⟨n, e, hn, h⟩
  · exact .inl h
  · rw [e1, e2] at h
    exact .inr ⟨n, e, hn, h⟩
def S0 : Nat → Option Addr × Nat × Nat := fun _ => (none, 0, 0)
def F0 : Nat → Nat → Int := fun _ _ => 0
theorem rr0 (w : World) : RR w none 0 S0 F0 := fun _ hk => absurd hk (Nat.not_lt_zero _)
theorem rr2 {w : World} {a0 a1 : Option Addr} {l0 k0 l1 k1 : Nat} {f0 f1 : Nat → Int} (m0 : l0 ≤ maxLen) (m1 : l1 ≤ maxLen) (r0 : Row w a0 l0 f0) (r1 : Row w a1 l1 f1) :
    RR (w.alloc (.cells #[.slice a0 l0 k0, .slice a1 l1 k1] 22)) (some ⟨w.heap.size, 0, none⟩) 2 (sel4 (a0, l0, k0) (a1, l1, k1) (a1, l1, k1) (a1, l1, k1)) (sel4 f0 f1 f1 f1) := fun k hk => by
  have hb : Below w.heap.size w (w.alloc (.cells #[.slice a0 l0 k0, .slice a1 l1 k1] 22)) := bel_more (Below.refl _ _) _
  rcases (by omega : k = 0 ∨ k = 1) with rfl | rfl
  · exact ⟨_, _, rfl, by simp [sel4], m0, r0.below hb⟩
  · exact ⟨_, _, rfl, by simp [sel4], m1, r1.below hb⟩
theorem rr3 {w : World} {a0 a1 a2 : Option Addr} {l0 k0 l1 k1 l2 k2 : Nat} {f0 f1 f2 : Nat → Int} (m0 : l0 ≤ maxLen) (m1 : l1 ≤ maxLen) (m2 : l2 ≤ maxLen) (r0 : Row w a0 l0 f0) (r1 : Row w a1 l1 f1) (r2 : Row w a2 l2 f2) :
    RR (w.alloc (.cells #[.slice a0 l0 k0, .slice a1 l1 k1, .slice a2 l2 k2] 22)) (some ⟨w.heap.size, 0, none⟩) 3 (sel4 (a0, l0, k0) (a1, l1, k1) (a2, l2, k2) (a2, l2, k2)) (sel4 f0 f1 f2 f2) := fun k hk => by
  have hb : Below w.heap.size w (w.alloc (.cells #[.slice a0 l0 k0, .slice a1 l1 k1, .slice a2 l2 k2] 22)) := bel_more (Below.refl _ _) _
  rcases (by omega : k = 0 ∨ k = 1 ∨ k = 2) with rfl | rfl | rfl
  · exact ⟨_, _, rfl, by simp [sel4], m0, r0.below hb⟩
  · exact ⟨_, _, rfl, by simp [sel4], m1, r1.below hb⟩
  · exact ⟨_, _, rfl, by simp [sel4], m2, r2.below hb⟩
theorem SumIs.two {N : Int} {m : Nat} {aw : Option Addr × Nat × Nat} {f : Nat → Int} {S : Nat → Option Addr × Nat × Nat} {F : Nat → Nat → Int} {s c : Int} (h : SumIs N m aw f S F s c) (hm : m ≤ 2) : WChk N (1 + m) (cns aw S) (cns f F) c ∧ ((c ≠ 0 ∧ s = 0) ∨ (c = 0 ∧ s = ((wsum N.toNat m f F : Nat) : Int))) := by
  rcases h with ⟨h, _⟩ | ⟨_, h⟩
  · omega
  · exact h

set_option maxHeartbeats 4000000 in
theorem weighSums_any (N : Int) (a0 : Option Addr) (l0 k0 : Nat) (f0 : Nat → Int) (a1 : Option Addr) (l1 k1 : Nat) (f1 : Nat → Int) (a2 : Option Addr) (l2 k2 : Nat) (f2 : Nat → Int) (w : World)
    (m0 : l0 ≤ maxLen) (m1 : l1 ≤ maxLen) (m2 : l2 ≤ maxLen) (r0 : Row w a0 l0 f0) (r1 : Row w a1 l1 f1) (r2 : Row w a2 l2 f2) :
    Calls Try.prog 6 #[.int .i64 N, .slice a0 l0 k0, .slice a1 l1 k1, .slice a2 l2 k2] w fun e w' => e = .returned (.bool true) ∧ Below w.heap.size w w' := by
  have R0 : Hid (Row w a0 l0 f0) := r0; have R1 : Hid (Row w a1 l1 f1) := r1; have R2 : Hid (Row w a2 l2 f2) := r2
  have M0 : Hid (l0 ≤ maxLen) := m0; have M1 : Hid (l1 ≤ maxLen) := m1; have M2 : Hid (l2 ≤ maxLen) := m2
  clear r0 r1 r2 m0 m1 m2
  go_enter Try.func6, Try.ntmps6
  go_wp2_with fail
  refine (sum_any N a0 l0 k0 f0 none 0 0 S0 F0 w M0.out (Nat.zero_le _) R0.out (rr0 w) (fun _ => ⟨rfl, rfl⟩)).mono ?_
  rintro e w1 ⟨⟨s, c, rfl, hs⟩, hb1⟩
  obtain ⟨hc, hs⟩ := hs.two (by omega)
  have HC : Hid (WChk N 1 (cns (a0, l0, k0) S0) (cns f0 F0) c) := hc
  have HSC : Hid ((c ≠ 0 ∧ s = 0) ∨ (c = 0 ∧ s = ((wsum N.toNat 0 f0 F0 : Nat) : Int))) := hs
  have HB1 : Hid (Below w.heap.size w w1) := hb1
  have HL1 : Hid (RR (w1.alloc (.cells #[.slice a1 l1 k1, .slice a2 l2 k2] 22)) (some ⟨w1.heap.size, 0, none⟩) 2 (sel4 (a1, l1, k1) (a2, l2, k2) (a2, l2, k2) (a2, l2, k2)) (sel4 f1 f2 f2 f2)) := rr2 M1.out M2.out (R1.out.below hb1) (R2.out.below hb1)
  have HB2 : Hid (Below w.heap.size w (w1.alloc (.cells #[.slice a1 l1 k1, .slice a2 l2 k2] 22))) := bel_more hb1 _
  clear hc hs hb1
  go_wp2_with fail
  refine (sum_any N a0 l0 k0 f0 _ 2 2 _ _ _ M0.out (by unfold maxLen; omega) (R0.out.below HB2.out) HL1.out (fun h => by omega)).mono ?_
  rintro e w2 ⟨⟨t, d, rfl, hs⟩, hb2⟩
  obtain ⟨hc, hs⟩ := hs.two (by omega)
  have HD : Hid (WChk N 3 (cns (a0, l0, k0) (sel4 (a1, l1, k1) (a2, l2, k2) (a2, l2, k2) (a2, l2, k2))) (cns f0 (sel4 f1 f2 f2 f2)) d) := hc
  have HSD : Hid ((d ≠ 0 ∧ t = 0) ∨ (d = 0 ∧ t = ((wsum N.toNat 2 f0 (sel4 f1 f2 f2 f2) : Nat) : Int))) := hs
  have HB3 : Hid (Below w.heap.size w w2) := Below.then HB2.out hb2
  have HL2 : Hid (RR (w2.alloc (.cells #[.slice a1 l1 k1, .slice a2 l2 k2, .slice a0 l0 k0] 22)) (some ⟨w2.heap.size, 0, none⟩) 3 (sel4 (a1, l1, k1) (a2, l2, k2) (a0, l0, k0) (a0, l0, k0)) (sel4 f1 f2 f0 f0)) := rr3 M1.out M2.out M0.out (R1.out.below HB3.out) (R2.out.below HB3.out) (R0.out.below HB3.out)
  have HB4 : Hid (Below w.heap.size w (w2.alloc (.cells #[.slice a1 l1 k1, .slice a2 l2 k2, .slice a0 l0 k0] 22))) := bel_more HB3.out _
  clear hc hs hb2 HL1 HB1 HB2
  go_wp2_with fail
  refine (sum_any N a0 l0 k0 f0 _ 3 3 _ _ _ M0.out (by unfold maxLen; omega) (R0.out.below HB4.out) HL2.out (fun h => by omega)).mono ?_
  rintro e w3 ⟨⟨u, g, rfl, hs⟩, hb3⟩
  obtain ⟨rfl, rfl⟩ : g = 2 ∧ u = 0 := by
    rcases hs with ⟨_, h1, h2⟩ | ⟨h, _⟩
    · exact ⟨h1, h2⟩
    · omega
  have HB5 : Hid (Below w.heap.size w w3) := Below.then HB4.out hb3
  have HL3 : Hid (RR (w3.alloc (.cells #[.slice a0 l0 k0] 22)) (some ⟨w3.heap.size, 0, none⟩) 1 (sel4 (a0, l0, k0) (a0, l0, k0) (a0, l0, k0) (a0, l0, k0)) (sel4 f0 f0 f0 f0)) := fun j hj => by
    obtain rfl : j = 0 := by omega
    exact ⟨_, _, rfl, by simp [sel4], M0.out, (R0.out.below HB5.out).below (bel_more (Below.refl _ _) _)⟩
  have HB6 : Hid (Below w.heap.size w (w3.alloc (.cells #[.slice a0 l0 k0] 22))) := bel_more HB5.out _
  clear hs hb3 HL2 HB4 HB3
  go_wp2_with fail
  refine (checkWeights_any N _ 1 1 _ _ _ (by unfold maxLen; omega) HL3.out).mono ?_
  rintro e w4 ⟨⟨c', rfl, hc'⟩, hb4⟩
  obtain rfl := HC.out.unique (hc'.congr (by intro k hk; obtain rfl : k = 0 := (by omega); rfl) (by intro k hk; obtain rfl : k = 0 := (by omega); rfl))
  have HB7 : Hid (Below w.heap.size w w4) := Below.then HB6.out hb4
  have HL4 : Hid (RR (w4.alloc (.cells #[.slice a0 l0 k0, .slice a1 l1 k1, .slice a2 l2 k2] 22)) (some ⟨w4.heap.size, 0, none⟩) 3 (sel4 (a0, l0, k0) (a1, l1, k1) (a2, l2, k2) (a2, l2, k2)) (sel4 f0 f1 f2 f2)) := rr3 M0.out M1.out M2.out (R0.out.below HB7.out) (R1.out.below HB7.out) (R2.out.below HB7.out)
  have HB8 : Hid (Below w.heap.size w (w4.alloc (.cells #[.slice a0 l0 k0, .slice a1 l1 k1, .slice a2 l2 k2] 22))) := bel_more HB7.out _
  clear hc' hb4 HL3 HB5 HB6
  go_wp2_with fail
  refine (checkWeights_any N _ 3 3 _ _ _ (by unfold maxLen; omega) HL4.out).mono ?_
  rintro e w5 ⟨⟨d', rfl, hd'⟩, hb5⟩
  obtain rfl := HD.out.unique (hd'.congr (fun k hk => by rcases (by omega : k = 0 ∨ k = 1 ∨ k = 2) with rfl | rfl | rfl <;> rfl) (fun k hk => by rcases (by omega : k = 0 ∨ k = 1 ∨ k = 2) with rfl | rfl | rfl <;> rfl))
  have HB9 : Hid (Below w.heap.size w w5) := Below.then HB8.out hb5
  clear hd' hb5 HL4 HB7 HB8
  by_cases hd0 : d = 0
  · subst hd0
    obtain ⟨n, rfl, hn6, hfr, hin⟩ := HD.out.good
    have z1 : Frm n 1 (cns (a0, l0, k0) S0) := by
      intro k hk
      obtain rfl : k = 0 := by omega
      exact hfr 0 (by omega)
    have z2 : Inr 1 (cns (a0, l0, k0) S0) (cns f0 F0) := by
      intro k hk
      obtain rfl : k = 0 := by omega
      exact hin 0 (by omega)
    have hc0 : c = 0 := HC.out.unique (.inr ⟨n, rfl, hn6, .inr ⟨z1, .inr ⟨rfl, z2⟩⟩⟩)
    clear z1 z2
    subst hc0
    obtain rfl : s = ((wsum n 0 f0 F0 : Nat) : Int) := by
      rcases HSC.out with ⟨h, _⟩ | ⟨_, h⟩
      · exact absurd rfl h
      · exact h
    obtain rfl : t = ((wsum n 2 f0 (sel4 f1 f2 f2 f2) : Nat) : Int) := by
      rcases HSD.out with ⟨h, _⟩ | ⟨_, h⟩
      · exact absurd rfl h
      · exact h
    clear hfr hin HSC HSD
    go_wp2_with fail
    refine (weightSum_any n a0 l0 k0 f0 none 0 0 S0 F0 _ hn6 (by omega) (R0.out.below HB9.out) (rr0 _) HC.out).mono ?_
    rintro e w6 ⟨rfl, rfl⟩
    have HL5 : Hid (RR (w5.alloc (.cells #[.slice a1 l1 k1, .slice a2 l2 k2] 22)) (some ⟨w5.heap.size, 0, none⟩) 2 (sel4 (a1, l1, k1) (a2, l2, k2) (a2, l2, k2) (a2, l2, k2)) (sel4 f1 f2 f2 f2)) := rr2 M1.out M2.out (R1.out.below HB9.out) (R2.out.below HB9.out)
    have HB10 : Hid (Below w.heap.size w (w5.alloc (.cells #[.slice a1 l1 k1, .slice a2 l2 k2] 22))) := bel_more HB9.out _
    go_wp2_with fail
    refine (weightSum_any n a0 l0 k0 f0 _ 2 2 _ _ _ hn6 (by omega) (R0.out.below HB10.out) HL5.out HD.out).mono ?_
    rintro e w6 ⟨rfl, rfl⟩
    clear HL5 HB9 HC HD
    go_wp2_with fail
    refine (weighBegun_any _).mono ?_
    rintro e w6 ⟨rfl, hb6⟩
    have HB11 : Hid (Below w.heap.size w w6) := Below.then HB10.out hb6
    clear hb6 HB10
    go_wp2_with fail
    refine (numberIs_any _ 0 0 _ _ rfl (.inr ⟨rfl, rfl⟩)).mono ?_
    rintro e w7 ⟨rfl, rfl⟩
    go_wp2_with fail
    refine (numberIs_any _ 0 0 _ _ rfl (.inr ⟨rfl, rfl⟩)).mono ?_
    rintro e w7 ⟨rfl, rfl⟩
    go_wp2_with fail
    go_ret
    exact ⟨rfl, HB11.out⟩
  · have hne : (d == 0) = false := by simpa using hd0
    obtain rfl : t = 0 := by
      rcases HSD.out with ⟨_, h⟩ | ⟨h, _⟩
      · exact h
      · exact absurd h hd0
    have HD0 : Hid (d ≠ 0) := hd0
    clear hd0 HSD HD
    by_cases hc0 : c = 0
    · subst hc0
      obtain ⟨n, rfl, hn6, hfr, hin⟩ := HC.out.good
      obtain rfl : s = ((wsum n 0 f0 F0 : Nat) : Int) := by
        rcases HSC.out with ⟨h, _⟩ | ⟨_, h⟩
        · exact absurd rfl h
        · exact h
      clear hfr hin HSC
      go_wp2_with fail
      refine (weightSum_any n a0 l0 k0 f0 none 0 0 S0 F0 _ hn6 (by omega) (R0.out.below HB9.out) (rr0 _) HC.out).mono ?_
      rintro e w6 ⟨rfl, rfl⟩
      clear HC
      go_wp2_with fail
      refine (weighBegun_any _).mono ?_
      rintro e w6 ⟨rfl, hb6⟩
      have HB11 : Hid (Below w.heap.size w w6) := Below.then HB9.out hb6
      clear hb6 HB9
      go_wp2_with fail
      refine (numberIs_any _ 0 0 _ _ rfl (.inr ⟨rfl, rfl⟩)).mono ?_
      rintro e w7 ⟨rfl, rfl⟩
      go_wp2_with fail
      refine (numberIs_any 0 d d _ _ rfl (.inl ⟨HD0.out, rfl⟩)).mono ?_
      rintro e w7 ⟨rfl, rfl⟩
      go_wp2_with fail
      go_ret
      exact ⟨rfl, HB11.out⟩
    · have hne2 : (c == 0) = false := by simpa using hc0
      obtain rfl : s = 0 := by
        rcases HSC.out with ⟨_, h⟩ | ⟨h, _⟩
        · exact h
        · exact absurd h hc0
      have HC0 : Hid (c ≠ 0) := hc0
      clear hc0 HSC HC
      go_wp2_with fail
      refine (weighBegun_any _).mono ?_
      rintro e w6 ⟨rfl, hb6⟩
      have HB11 : Hid (Below w.heap.size w w6) := Below.then HB9.out hb6
      clear hb6 HB9
      go_wp2_with fail
      refine (numberIs_any 0 c c _ _ rfl (.inl ⟨HC0.out, rfl⟩)).mono ?_
      rintro e w7 ⟨rfl, rfl⟩
      go_wp2_with fail
      refine (numberIs_any 0 d d _ _ rfl (.inl ⟨HD0.out, rfl⟩)).mono ?_
      rintro e w7 ⟨rfl, rfl⟩
      go_wp2_with fail
      go_ret
      exact ⟨rfl, HB11.out⟩
end Go.Proofs.Ytoagfjikjdacoaa
