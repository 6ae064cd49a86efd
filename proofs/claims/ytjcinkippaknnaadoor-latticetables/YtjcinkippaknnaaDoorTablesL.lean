/-
  hasselaw.LatticeTables returns true for every order. Conditions: the library's table lies in its variable; a slice reads as a slice of numbers.
-/
import Derived.Test.YtjcinkippaknnaaDoorRefTab
namespace Go.Proofs.YtjcinkippaknnaaDoor
open Go.RowKit

/-- What Tables hands back, as the law asks it. -/
def TabV (n : Int) (len : Nat) (f : Nat → Int) (c : Int) (ok : Bool) (vk : Int) (va : Option Addr) (vl : Nat) (vb : Option Addr) (vl2 : Nat) (w : World) : Prop :=
  Chk n len f c ∧ ((ok = false ∧ (vk = 0 ∧ va = none ∧ vl = 0 ∧ vb = none ∧ vl2 = 0) ∧ (c = 0 → ¬ (1 ≤ len ∧ AllMt (nat f) len ∧ AllMt (trn (nat f) len) len))) ∨
    (c = 0 ∧ ok = true ∧ (1 ≤ len ∧ AllMt (nat f) len ∧ AllMt (trn (nat f) len) len) ∧ ∃ b b' R R', (vk = (len : Int) ∧ va = some ⟨b, 0, none⟩ ∧ vl = len ∧ vb = some ⟨b', 0, none⟩ ∧ vl2 = len) ∧ Tb w b 0 len R (mF (nat f)) ∧ Tb w b' 0 len R' (mF (trn (nat f) len))))
theorem TabPost.form {n : Int} {len : Nat} {f : Nat → Int} {e : Ending} {w : World} (h : TabPost n len f e w) : ∃ c ok vk va vl vc vb vl2 vc2, e = .returned (.tuple #[.agg #[.int .i64 vk, .slice va vl vc, .slice vb vl2 vc2], .bool ok, .int .i64 c]) ∧ TabV n len f c ok vk va vl vb vl2 w ∧ (ok = false → vc = 0 ∧ vc2 = 0) := by
  obtain ⟨c, x, ok, hc, rfl, ⟨h0, rfl, rfl⟩ | ⟨rfl, ⟨rfl, rfl, hno⟩ | ⟨rfl, hy, b, cb, R, b', cb', R', rfl, ht1, ht2⟩⟩⟩ := h
  · exact ⟨c, false, 0, none, 0, 0, none, 0, 0, rfl, ⟨hc, .inl ⟨rfl, ⟨rfl, rfl, rfl, rfl, rfl⟩, fun e => absurd e h0⟩⟩, fun _ => ⟨rfl, rfl⟩⟩
  · exact ⟨0, false, 0, none, 0, 0, none, 0, 0, rfl, ⟨hc, .inl ⟨rfl, ⟨rfl, rfl, rfl, rfl, rfl⟩, fun _ => hno⟩⟩, fun _ => ⟨rfl, rfl⟩⟩
  · exact ⟨0, true, _, _, _, _, _, _, _, rfl, ⟨hc, .inr ⟨rfl, rfl, hy, b, b', R, R', ⟨rfl, rfl, rfl, rfl, rfl⟩, ht1, ht2⟩⟩, fun h => by cases h⟩

set_option maxHeartbeats 4000000 in
theorem latticeTables_any (n : Int) (a : Option Addr) (len cap : Nat) (f : Nat → Int) (w : World) (hl : len ≤ maxLen) (hr : Row w a len f) (hT : Tab w) :
    Calls Tryd.prog 4 #[.agg #[.int .i64 n, .slice a len cap]] w fun e w' => e = .returned (.bool true) ∧ Below w.heap.size w w' := by
  have K0 : Held (w.alloc (.cells #[.int .i64 n, .slice a len cap] 31)) w.heap.size n a len cap f := Held.box hr
  have HB0 : Hid (Below w.heap.size w (w.alloc (.cells #[.int .i64 n, .slice a len cap] 31))) := (Below.refl _ _).alloc (Nat.le_refl _) _
  have HT : Hid (Tab w) := hT
  clear hr hT
  go_enter Tryd.func4, Tryd.ntmps4
  go_wp2_with fail
  refine (tables2_any n a len cap f _ hl K0.row (HT.out.step HB0.out)).mono ?_
  rintro e w1 ⟨hI, hb1⟩
  obtain ⟨c, ok, vk, va, vl, vc, vb, vl2, vc2, rfl, ⟨hc, hV⟩, hz⟩ := hI.form
  obtain ⟨w2, HW2⟩ : ∃ w2, Hid (w2 = w1.alloc (.cells #[.int .i64 vk, .slice va vl vc, .slice vb vl2 vc2] 24)) := ⟨_, rfl⟩
  have hb2 : Below w1.heap.size w1 w2 := by rw [HW2.out]; exact (Below.refl _ _).alloc (Nat.le_refl _) _
  have X2 : LB w2 w1.heap.size vk va vl vc vb vl2 vc2 := by rw [HW2.out]; exact LB.new _ _ _ _ _ _ _ _
  have K2 := (K0.step hb1).step hb2
  have HB2 : Hid (Below w.heap.size w w2) := Below.then (Below.then HB0.out hb1) hb2
  have H12 : Hid (Below w1.heap.size w1 w2) := hb2
  have K2e := K2
  rw [HW2.out] at K2e
  have k0 := K2e.c0
  have k1 := K2e.c1
  clear hb1 hb2 K0 HB0 hI
  go_wp2_with fail
  rw [← HW2.out]
  clear HW2 K2e k0 k1
  refine (checkOrder_any n a len cap f _ hl K2.row).mono ?_
  rintro e w3 ⟨⟨c3, rfl, hc3⟩, hb3⟩
  obtain rfl := hc3.unique hc
  obtain ⟨w4, HW4⟩ : ∃ w4, Hid (w4 = w3.alloc (.cells #[.int .i64 0, .slice none 0 0, .slice none 0 0] 24)) := ⟨_, rfl⟩
  have hb4 : Below w3.heap.size w3 w4 := by rw [HW4.out]; exact (Below.refl _ _).alloc (Nat.le_refl _) _
  have hb34 := Below.then hb3 hb4
  have HZ4 : Hid (ZL w4 w3.heap.size) := by rw [Hid, HW4.out]; exact ZL.new _
  have HX4 : Hid (LB w4 w1.heap.size vk va vl vc vb vl2 vc2) := X2.step hb34
  have K4 := K2.step hb34
  have HB4 : Hid (Below w.heap.size w w4) := Below.then HB2.out hb34
  have H14 : Hid (Below w1.heap.size w1 w4) := Below.then H12.out hb34
  have HLT : Hid (w1.heap.size < w3.heap.size) := by
    have h1 : w1.heap.size < w2.heap.size := World.block_lt_of_cell? _ _ X2.1
    have h2 := hb3.size
    rw [Hid]; omega
  have HLW : Hid (w.heap.size ≤ w3.heap.size) := by
    have h1 := HB2.out.size
    have h2 := hb3.size
    rw [Hid]; omega
  have K4e := K4
  rw [HW4.out] at K4e
  have m0 := K4e.c0
  have m1 := K4e.c1
  have HK4 : Hid (Held w4 w.heap.size n a len cap f) := K4
  clear hb3 hb4 hb34 K2 X2 HB2 H12 K4 hc3
  by_cases h0 : c3 = 0
  · subst h0
    obtain ⟨rfl, h10, hrng, ho⟩ := hc.good
    have HR4 : Hid (Row w4 a len (fun k => ((nat f k : Nat) : Int))) := hrng.row HK4.out.row
    go_wp2_with fail
    rw [← HW4.out]
    clear HW4 K4e m0 m1
    refine (refTables_any a len cap (nat f) _ h10 hrng.small ho HR4.out).mono ?_
    rintro e w6 ⟨⟨y, is, rfl, hY⟩, hb6⟩
    have hX6 := HX4.out.step hb6
    have hZ6 := HZ4.out.step hb6
    have HB6 := Below.then HB4.out hb6
    have hlt := HLT.out
    rcases hV with ⟨rfl, ⟨rfl, rfl, rfl, rfl, rfl⟩, hno⟩ | ⟨_, rfl, hyes, b, b', R, R', ⟨rfl, rfl, rfl, rfl, rfl⟩, ht1, ht2⟩
    · rcases hY with ⟨rfl, rfl, _⟩ | ⟨_, hy, _⟩
      · obtain ⟨rfl, rfl⟩ := hz rfl
        obtain ⟨w7, HW7⟩ : ∃ w7, Hid (w7 = ((w6.setCell ⟨w3.heap.size, 0, none⟩ (.int .i64 0)).setCell ⟨w3.heap.size, 1, none⟩ (.slice none 0 0)).setCell ⟨w3.heap.size, 2, none⟩ (.slice none 0 0)) := ⟨_, rfl⟩
        have HX7 : Hid (LB w7 w1.heap.size 0 none 0 0 none 0 0) := by rw [Hid, HW7.out]; exact hX6.other _ _ _ (by omega)
        have HY7 : Hid (LB w7 w3.heap.size 0 none 0 0 none 0 0) := by rw [Hid, HW7.out]; exact hZ6.set3 _ _ _ _ _ _ _
        have HB7 : Hid (Below w.heap.size w w7) := by rw [Hid, HW7.out]; exact set3B HB6 HLW.out
        obtain ⟨⟨d0, d1, d2⟩, f0, f1, f2⟩ := hZ6
        clear hc hz hno hX6 HB6 hb6 hlt hrng ho
        unfold noLat
        go_wp2_with fail
        rw [← HW7.out]
        clear HW7 d0 d1 d2 f0 f1 f2
        refine (latticeBegun_any _ (HT.out.step HB7.out)).mono ?_
        rintro e w8 ⟨rfl, hb8⟩
        have X8 := HX7.out.step hb8
        have Y8 := HY7.out.step hb8
        have x0 := X8.1
        have x1 := X8.2.1
        have x2 := X8.2.2
        have y0 := Y8.1
        have y1 := Y8.2.1
        have y2 := Y8.2.2
        have HB8 : Hid (Below w.heap.size w w8) := Below.then HB7.out hb8
        clear hb8 X8 Y8
        go_wp2_with fail
        refine (latticeIs_ok 0 none none none none 0 0 0 0 0 0 _ (by unfold maxLen; omega) (by unfold maxLen; omega) (EqT.nil _) (EqT.nil _)).mono ?_
        rintro e w9 ⟨rfl, hb9⟩
        have HB9 : Hid (Below w.heap.size w w9) := Below.then HB8.out hb9
        clear hb9 HB8 x0 x1 x2 y0 y1 y2
        go_wp2_with fail
        go_ret
        exact ⟨rfl, HB9.out⟩
      · exact absurd hy (hno (by first | rfl | trivial))
    · rcases hY with ⟨_, _, hn⟩ | ⟨rfl, _, U1, d1, Q1, U2, d2, Q2, rfl, hu1, hu2, hU, hQ⟩
      · exact absurd hyes hn
      · obtain ⟨w7, HW7⟩ : ∃ w7, Hid (w7 = ((w6.setCell ⟨w3.heap.size, 0, none⟩ (.int .i64 (vl2 : Int))).setCell ⟨w3.heap.size, 1, none⟩ (.slice (some ⟨U1, 0, none⟩) vl2 d1)).setCell ⟨w3.heap.size, 2, none⟩ (.slice (some ⟨U2, 0, none⟩) vl2 d2)) := ⟨_, rfl⟩
        obtain ⟨g1, g2⟩ := ht1.low hyes.1
        obtain ⟨g3, g4⟩ := ht2.low hyes.1
        have hsz3 : w3.heap.size < w4.heap.size := World.block_lt_of_cell? _ _ HZ4.out.1.1
        have H16 := Below.then H14.out hb6
        have HX7 : Hid (LB w7 w1.heap.size (vl2 : Int) (some ⟨b, 0, none⟩) vl2 vc (some ⟨b', 0, none⟩) vl2 vc2) := by rw [Hid, HW7.out]; exact hX6.other _ _ _ (by omega)
        have HY7 : Hid (LB w7 w3.heap.size (vl2 : Int) (some ⟨U1, 0, none⟩) vl2 d1 (some ⟨U2, 0, none⟩) vl2 d2) := by rw [Hid, HW7.out]; exact hZ6.set3 _ _ _ _ _ _ _
        have HB7 : Hid (Below w.heap.size w w7) := by rw [Hid, HW7.out]; exact set3B HB6 HLW.out
        have HT17 : Hid (Tb w7 b 0 vl2 R (mF (nat f))) := by rw [Hid, HW7.out]; exact (ht1.step H16).set3 _ _ _ (by omega) (fun x hx => by have := g2 x hx; omega)
        have HT27 : Hid (Tb w7 b' 0 vl2 R' (mF (trn (nat f) vl2))) := by rw [Hid, HW7.out]; exact (ht2.step H16).set3 _ _ _ (by omega) (fun x hx => by have := g4 x hx; omega)
        have HU17 : Hid (Tb w7 U1 0 vl2 Q1 (mF (nat f))) := by rw [Hid, HW7.out]; exact hu1.set3 _ _ _ (by omega) (fun x hx => by have := (hQ x hx).1; omega)
        have HU27 : Hid (Tb w7 U2 0 vl2 Q2 (mF (trn (nat f) vl2))) := by rw [Hid, HW7.out]; exact hu2.set3 _ _ _ (by omega) (fun x hx => by have := (hQ x hx).2; omega)
        obtain ⟨⟨z0, z1, z2⟩, z3, z4, z5⟩ := hZ6
        clear hX6 hlt hsz3 g1 g2 g3 g4 H16 hb6 hu1 hu2 hU hQ ht1 ht2 hc hz hyes hrng ho HB6
        go_wp2_with fail
        rw [← HW7.out]
        clear HW7 z0 z1 z2 z3 z4 z5
        refine (latticeBegun_any _ (HT.out.step HB7.out)).mono ?_
        rintro e w8 ⟨rfl, hb8⟩
        have X8 := HX7.out.step hb8
        have Y8 := HY7.out.step hb8
        have x0 := X8.1
        have x1 := X8.2.1
        have x2 := X8.2.2
        have y0 := Y8.1
        have y1 := Y8.2.1
        have y2 := Y8.2.2
        have HE1 : Hid (EqT w8 (some ⟨b, 0, none⟩) (some ⟨U1, 0, none⟩) vl2) := EqT.of (HT17.out.step hb8) (HU17.out.step hb8) hl (fun _ _ _ _ => rfl)
        have HE2 : Hid (EqT w8 (some ⟨b', 0, none⟩) (some ⟨U2, 0, none⟩) vl2) := EqT.of (HT27.out.step hb8) (HU27.out.step hb8) hl (fun _ _ _ _ => rfl)
        have HB8 : Hid (Below w.heap.size w w8) := Below.then HB7.out hb8
        clear hb8 X8 Y8 HX7 HY7 HB7 HT17 HT27 HU17 HU27
        go_wp2_with fail
        refine (latticeIs_ok vl2 (some ⟨b, 0, none⟩) (some ⟨b', 0, none⟩) (some ⟨U1, 0, none⟩) (some ⟨U2, 0, none⟩) vl2 vl2 vc vc2 d1 d2 _ hl hl HE1.out HE2.out).mono ?_
        rintro e w9 ⟨rfl, hb9⟩
        have HB9 : Hid (Below w.heap.size w w9) := Below.then HB8.out hb9
        clear hb9 HB8 x0 x1 x2 y0 y1 y2
        go_wp2_with fail
        go_ret
        exact ⟨rfl, HB9.out⟩
  · have hne2 : (c3 == 0) = false := by simpa using h0
    rcases hV with ⟨rfl, ⟨rfl, rfl, rfl, rfl, rfl⟩, _⟩ | ⟨hz0, _⟩
    · obtain ⟨rfl, rfl⟩ := hz rfl
      clear hc hz
      go_wp2_with fail
      rw [← HW4.out]
      clear HW4 K4e m0 m1
      refine (latticeBegun_any _ (HT.out.step HB4.out)).mono ?_
      rintro e w5 ⟨rfl, hb5⟩
      have X5 := HX4.out.step hb5
      have Y5 := (HZ4.out.step hb5).toLB
      have x0 := X5.1
      have x1 := X5.2.1
      have x2 := X5.2.2
      have y0 := Y5.1
      have y1 := Y5.2.1
      have y2 := Y5.2.2
      have HB5 : Hid (Below w.heap.size w w5) := Below.then HB4.out hb5
      clear hb5 X5 Y5
      go_wp2_with fail
      refine (latticeIs_err c3 0 none none 0 0 0 0 _ h0).mono ?_
      rintro e w6 ⟨rfl, hb6⟩
      have HB6 : Hid (Below w.heap.size w w6) := Below.then HB5.out hb6
      clear hb6 HB5 x0 x1 x2 y0 y1 y2
      go_wp2_with fail
      go_ret
      exact ⟨rfl, HB6.out⟩
    · exact absurd hz0 h0
end Go.Proofs.YtjcinkippaknnaaDoor
