/-
  For every two orders that are handed in, hasselaw.OrderTimes returns true, and writes nothing that was there. Conditions: slices read as slices of numbers; the tables of math/bits lie in their variables.
-/
import Derived.Test.YtigbfahdfainmaaDoorTimes
import Derived.Test.YtigbfahdfainmaaDoorRefTimes
namespace Go.Proofs.YtigbfahdfainmaaDoor
open Go.RowKit

theorem ordErr_form {c n : Int} {len : Nat} {F : Nat → Int} {x : Value} {w : World} (h : OrdErr c n len F x w) : ∃ n' a l cap, x = .agg #[.int .i64 n', .slice a l cap] := by
  rcases h with ⟨_, rfl⟩ | ⟨_, a, cap, rfl, _⟩
  · exact ⟨0, none, 0, 0, rfl⟩
  · exact ⟨n, a, len, cap, rfl⟩

theorem ordErr_no {c n m : Int} {len : Nat} {F : Nat → Int} {a : Option Addr} {l cap : Nat} {w : World} (h0 : c ≠ 0) (h : OrdErr c n len F (.agg #[.int .i64 m, .slice a l cap]) w) : m = 0 ∧ a = none ∧ l = 0 ∧ cap = 0 := by
  rcases h with ⟨_, h⟩ | ⟨h, _⟩
  · simpa [noOrder] using h
  · exact absurd h h0

set_option maxHeartbeats 4000000 in
theorem orderTimes_any (n1 : Int) (a1 : Option Addr) (len1 cap1 : Nat) (f1 : Nat → Int) (n2 : Int) (a2 : Option Addr) (len2 cap2 : Nat) (f2 : Nat → Int) (w : World) (hl1 : len1 ≤ maxLen) (hl2 : len2 ≤ maxLen)
    (hr1 : Row w a1 len1 f1) (hr2 : Row w a2 len2 f2) (hT : Tab w) :
    Calls Tryd.prog 3 #[.agg #[.int .i64 n1, .slice a1 len1 cap1], .agg #[.int .i64 n2, .slice a2 len2 cap2]] w fun e w' => e = .returned (.bool true) ∧ Below w.heap.size w w' := by
  have b1 := (Below.refl w.heap.size w).alloc (Nat.le_refl _) (.cells #[.int .i64 n1, .slice a1 len1 cap1] 24)
  have X0 := (Box.new w n1 a1 len1 cap1).step ((Below.refl _ _).alloc (Nat.le_refl _) (.cells #[.int .i64 n2, .slice a2 len2 cap2] 24))
  have Y0 := Box.new (w.alloc (.cells #[.int .i64 n1, .slice a1 len1 cap1] 24)) n2 a2 len2 cap2
  simp only [World.size_alloc] at Y0
  have hb0 := b1.alloc (by simp) (.cells #[.int .i64 n2, .slice a2 len2 cap2] 24)
  have R10 := hr1.below hb0
  have R20 := hr2.below hb0
  have T0 := hT.step hb0
  have HB0 : Hid (Below w.heap.size w ((w.alloc (.cells #[.int .i64 n1, .slice a1 len1 cap1] 24)).alloc (.cells #[.int .i64 n2, .slice a2 len2 cap2] 24))) := hb0
  clear b1 hb0 hr1 hr2 hT
  go_enter Tryd.func3, Tryd.ntmps3
  go_wp2_with fail
  refine (times_any n1 a1 len1 cap1 f1 n2 a2 len2 cap2 f2 _ hl1 hl2 R10 R20 T0).mono ?_
  rintro e w1 ⟨⟨c, x, hc, rfl, hx⟩, hb⟩
  obtain ⟨nx, ax, lx, cx, rfl⟩ := ordErr_form hx
  have bW := (Below.refl w1.heap.size w1).alloc (Nat.le_refl _) (.cells #[.int .i64 nx, .slice ax lx cx] 24)
  have bV := (Below.refl (w1.alloc (.cells #[.int .i64 nx, .slice ax lx cx] 24)).heap.size _).alloc (Nat.le_refl _) (.cells #[.int .i64 n1, .slice a1 len1 cap1, .int .i64 n2, .slice a2 len2 cap2] 24)
  have bU := Below.then bW bV
  have X2 := (X0.step hb).step bU
  have Y2 := (Y0.step hb).step bU
  have R12 := (R10.below hb).below bU
  have R22 := (R20.below hb).below bU
  have P2 := (Box.new w1 nx ax lx cx).step bV
  have OX2 := hx.step bU
  have T2 := two_new (w1.alloc (.cells #[.int .i64 nx, .slice ax lx cx] 24)) n1 a1 len1 cap1 n2 a2 len2 cap2
  simp only [World.size_alloc] at T2
  obtain ⟨x0, x1⟩ := X0.step hb
  obtain ⟨y0, y1⟩ := Y0.step hb
  have hlw : w.heap.size + 1 < w1.heap.size := (Y0.step hb).lt
  have hlw0 : w.heap.size < w1.heap.size := by omega
  have HB2 : Hid (Below w.heap.size w ((w1.alloc (.cells #[.int .i64 nx, .slice ax lx cx] 24)).alloc (.cells #[.int .i64 n1, .slice a1 len1 cap1, .int .i64 n2, .slice a2 len2 cap2] 24))) := ((Below.then HB0.out hb).alloc (by omega) _).alloc (by simp; omega) _
  clear hb bW bV bU X0 Y0 R10 R20 HB0 hx T0
  go_wp2_with fail
  refine (checkOrders_any n1 a1 len1 cap1 f1 n2 a2 len2 cap2 f2 _ _ hl1 hl2 T2 R12 R22).mono ?_
  rintro e w3 ⟨⟨d, rfl, hd⟩, hb⟩
  have bA := (Below.refl w3.heap.size w3).alloc (Nat.le_refl _) (.cells #[.int .i64 0, .slice none 0 0] 24)
  have X3 := (X2.step hb).step bA
  have Y3 := (Y2.step hb).step bA
  have Z3 := ZBox.new w3
  have P3 := (P2.step hb).step bA
  have hl3 : w1.heap.size < w3.heap.size := (P2.step hb).lt
  obtain ⟨x30, x31⟩ := X2.step hb
  obtain ⟨y30, y31⟩ := Y2.step hb
  have HP3 : Hid (Box w3 w1.heap.size nx ax lx cx) := P2.step hb
  have HO3 : Hid (OrdErr c ((len1 * len2 : Nat) : Int) (len1 * len2) (fun k => (tmq (nat f1) (nat f2) len2 k : Nat)) (.agg #[.int .i64 nx, .slice ax lx cx]) w3) := OX2.step hb
  have HBZ : Hid (Below w.heap.size w w3) := Below.then HB2.out hb
  have HPW : Hid (Box (w3.alloc (.cells #[.int .i64 0, .slice none 0 0] 24)) w1.heap.size nx ax lx cx) := P3
  have HOX : Hid (OrdErr c ((len1 * len2 : Nat) : Int) (len1 * len2) (fun k => (tmq (nat f1) (nat f2) len2 k : Nat)) (.agg #[.int .i64 nx, .slice ax lx cx]) (w3.alloc (.cells #[.int .i64 0, .slice none 0 0] 24))) := (OX2.step hb).step bA
  have HR1 : Hid (Row (w3.alloc (.cells #[.int .i64 0, .slice none 0 0] 24)) a1 len1 f1) := (R12.below hb).below bA
  have HR2 : Hid (Row (w3.alloc (.cells #[.int .i64 0, .slice none 0 0] 24)) a2 len2 f2) := (R22.below hb).below bA
  have HB3 : Hid (Below w.heap.size w (w3.alloc (.cells #[.int .i64 0, .slice none 0 0] 24))) := (Below.then HB2.out hb).alloc (by omega) _
  have hw31 : w.heap.size < w3.heap.size := by omega
  have hw32 : w.heap.size + 1 < w3.heap.size := by omega
  obtain ⟨x40, x41⟩ := X3
  obtain ⟨y40, y41⟩ := Y3
  have HZ3 : Hid (ZBox (w3.alloc (.cells #[.int .i64 0, .slice none 0 0] 24)) w3.heap.size) := Z3
  obtain ⟨W4, HW4⟩ : ∃ W4, Hid (W4 = w3.alloc (.cells #[.int .i64 0, .slice none 0 0] 24)) := ⟨_, rfl⟩
  rw [← HW4.out] at HPW HOX HR1 HR2 HB3 HZ3
  have hs4 : W4.heap.size = w3.heap.size + 1 := by rw [HW4.out]; simp
  clear hb bA X2 Y2 R12 R22 P2 P3 OX2 T2 HB2 x0 x1 y0 y1 Z3
  obtain ⟨N, HN⟩ : ∃ N, Hid (N = len1 * len2) := ⟨_, rfl⟩
  rw [← HN.out] at HO3 HOX
  by_cases h0 : c = 0
  · subst h0
    obtain ⟨hc2, hn⟩ : Chk2 n1 len1 f1 n2 len2 f2 0 ∧ len1 * len2 ≤ 10 := by
      rcases hc with ⟨h, _⟩ | ⟨h, ⟨h2, _⟩ | ⟨_, h3⟩⟩
      · exact absurd rfl h
      · cases h2
      · exact ⟨h, h3⟩
    obtain rfl := hd.unique hc2
    obtain ⟨k1, k2⟩ := hc2.good
    obtain ⟨rfl, h10, hrng1, _⟩ := k1.good
    obtain ⟨rfl, h20, hrng2, _⟩ := k2.good
    have hmulN : (len1 : Int) * (len2 : Int) = (N : Int) := by rw [HN.out]; simp
    have hN10 : N ≤ 10 := by rw [HN.out]; exact hn
    have HNN : Hid (len1 * len2 ≤ 10) := hn
    have HS1 : Hid (∀ k, k < len1 → nat f1 k < pw len1) := hrng1.small
    have HS2 : Hid (∀ k, k < len2 → nat f2 k < pw len2) := hrng2.small
    have HQ1 : Hid (Row W4 a1 len1 (fun k => (nat f1 k : Nat))) := hrng1.row HR1.out
    have HQ2 : Hid (Row W4 a2 len2 (fun k => (nat f2 k : Nat))) := hrng2.row HR2.out
    clear hc hd hc2 k1 k2 hrng1 hrng2 HR1 HR2 hn x30 x31 y30 y31
    go_wp2_with fail
    try rw [← HW4.out]
    refine (refTimes_any a1 len1 cap1 (nat f1) a2 len2 cap2 (nat f2) _ h10 h20 HNN.out HS1.out HS2.out HQ1.out HQ2.out).mono ?_
    rintro e w5 ⟨⟨a8, cap8, rfl, hrow, hfr⟩, hb⟩
    rw [← HN.out]
    obtain ⟨r0, r1, r2, r3⟩ := HZ3.out.step hb
    have hS5 : Below w3.heap.size w3 w5 := Below.then (by rw [HW4.out]; exact (Below.refl _ _).alloc (Nat.le_refl _) _) hb
    have hS : Below w3.heap.size w3 ((w5.setCell ⟨w3.heap.size, 0, none⟩ (.int .i64 (N : Int))).setCell ⟨w3.heap.size, 1, none⟩ (.slice a8 N cap8)) := set2B hS5 (Nat.le_refl _)
    have F9 : Box ((w5.setCell ⟨w3.heap.size, 0, none⟩ (.int .i64 (N : Int))).setCell ⟨w3.heap.size, 1, none⟩ (.slice a8 N cap8)) w3.heap.size (N : Int) a8 N cap8 := Box.set2 (HZ3.out.step hb)
    have HR9 : Row ((w5.setCell ⟨w3.heap.size, 0, none⟩ (.int .i64 (N : Int))).setCell ⟨w3.heap.size, 1, none⟩ (.slice a8 N cap8)) a8 N (fun k => (tmq (nat f1) (nat f2) len2 k : Nat)) := by
      rw [← HN.out] at hrow hfr
      exact row_set2 hrow (hfr.mono (by omega))
    obtain ⟨W9, HW9⟩ : ∃ W9, Hid (W9 = (w5.setCell ⟨w3.heap.size, 0, none⟩ (.int .i64 (N : Int))).setCell ⟨w3.heap.size, 1, none⟩ (.slice a8 N cap8)) := ⟨_, rfl⟩
    rw [← HW9.out] at hS F9 HR9
    have HP9 : Hid (Box W9 w1.heap.size nx ax lx cx) := HP3.out.step hS
    have HX9 : Hid (OrdErr 0 (N : Int) N (fun k => (tmq (nat f1) (nat f2) len2 k : Nat)) (.agg #[.int .i64 nx, .slice ax lx cx]) W9) := HO3.out.step hS
    have HA9 : Hid (OrdErr 0 (N : Int) N (fun k => (tmq (nat f1) (nat f2) len2 k : Nat)) (.agg #[.int .i64 (N : Int), .slice a8 N cap8]) W9) := .inr ⟨rfl, a8, cap8, rfl, HR9⟩
    have HF9 : Hid (Box W9 w3.heap.size (N : Int) a8 N cap8) := F9
    have HB9 : Hid (Below w.heap.size w W9) := Below.then HBZ.out hS
    clear hb hrow hfr hS hS5 F9 HR9 HPW HOX HB3 HQ1 HQ2 x40 x41 y40 y41 HP3 HO3 HBZ
    go_wp2_with fail
    rw [← HW9.out]
    refine (orderBegun_any _).mono ?_
    rintro e w7 ⟨rfl, hb7⟩
    obtain ⟨p0, p1⟩ := HP9.out.step hb7
    obtain ⟨z0, z1⟩ := HF9.out.step hb7
    have HB7 : Hid (Below w.heap.size w w7) := Below.then HB9.out hb7
    have hX7 := HX9.out.step hb7
    have hA7 := HA9.out.step hb7
    clear hb7 HP9 HF9 HB9 HX9 HA9
    go_wp2_with fail
    refine (given_any 0 (N : Int) N _ _ _ _ (by unfold maxLen; omega) hX7 (.inl hA7)).mono ?_
    rintro e w8 ⟨rfl, hb8⟩
    have HB8 : Hid (Below w.heap.size w w8) := Below.then HB7.out hb8
    clear hb8 HB7 p0 p1 z0 z1 hX7 hA7
    go_wp2_with fail
    go_ret
    exact ⟨rfl, HB8.out⟩
  · have hne : (c == 0) = false := by simpa using h0
    obtain ⟨rfl, rfl, rfl, rfl⟩ := ordErr_no h0 HOX.out
    have HCASE : Hid (d = c ∨ (d = 0 ∧ n1 = (len1 : Int) ∧ n2 = (len2 : Int) ∧ len1 ≤ 10 ∧ len2 ≤ 10 ∧ c = 2 ∧ 10 < N)) := by
      rcases hc with ⟨_, h⟩ | ⟨h, ⟨h2, h3⟩ | ⟨h2, _⟩⟩
      · exact .inl (hd.unique h)
      · obtain rfl := hd.unique h
        obtain ⟨g1, g2⟩ := h.good
        exact .inr ⟨rfl, g1.good.1, g2.good.1, g1.good.2.1, g2.good.2.1, h2, by rw [HN.out]; exact h3⟩
      · exact absurd h2 h0
    have HZX : Hid (Box W4 w3.heap.size 0 none 0 0) := ⟨HZ3.out.1, HZ3.out.2.1⟩
    clear hc hd HP3 HO3 HBZ HOX HR1 HR2 x30 x31 y30 y31 HZ3
    rcases HCASE.out with rfl | ⟨rfl, rfl, rfl, hs1, hs2, rfl, hs3⟩
    · clear HCASE
      go_wp2_with fail
      rw [← HW4.out]
      refine (orderBegun_any _).mono ?_
      rintro e w7 ⟨rfl, hb7⟩
      obtain ⟨p0, p1⟩ := HPW.out.step hb7
      obtain ⟨z0, z1⟩ := HZX.out.step hb7
      have HB7 : Hid (Below w.heap.size w w7) := Below.then HB3.out hb7
      clear hb7 HPW HZX HB3 x40 x41 y40 y41
      go_wp2_with fail
      refine (given_any d 0 0 (fun _ => 0) _ _ _ (by unfold maxLen; omega) (.inl ⟨h0, rfl⟩) (.inl (.inl ⟨h0, rfl⟩))).mono ?_
      rintro e w8 ⟨rfl, hb8⟩
      have HB8 : Hid (Below w.heap.size w w8) := Below.then HB7.out hb8
      clear hb8 HB7 p0 p1 z0 z1
      go_wp2_with fail
      go_ret
      exact ⟨rfl, HB8.out⟩
    · clear HCASE
      have hmulN : (len1 : Int) * (len2 : Int) = (N : Int) := by rw [HN.out]; simp
      have hNb : N ≤ 100 := by rw [HN.out]; exact Nat.le_trans (Nat.mul_le_mul hs1 hs2) (by decide)
      go_wp2_with fail
      rw [← HW4.out]
      refine (orderBegun_any _).mono ?_
      rintro e w7 ⟨rfl, hb7⟩
      obtain ⟨p0, p1⟩ := HPW.out.step hb7
      obtain ⟨z0, z1⟩ := HZX.out.step hb7
      have HB7 : Hid (Below w.heap.size w w7) := Below.then HB3.out hb7
      clear hb7 HPW HZX HB3 x40 x41 y40 y41
      go_wp2_with fail
      refine (given_any 2 0 0 (fun _ => 0) _ _ _ (by unfold maxLen; omega) (.inl ⟨h0, rfl⟩) (.inl (.inl ⟨h0, rfl⟩))).mono ?_
      rintro e w8 ⟨rfl, hb8⟩
      have HB8 : Hid (Below w.heap.size w w8) := Below.then HB7.out hb8
      clear hb8 HB7 p0 p1 z0 z1
      go_wp2_with fail
      go_ret
      exact ⟨rfl, HB8.out⟩
end Go.Proofs.YtigbfahdfainmaaDoor
