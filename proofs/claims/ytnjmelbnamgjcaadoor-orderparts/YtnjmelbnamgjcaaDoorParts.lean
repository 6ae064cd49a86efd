/-
  What the reference's Part and hasselaw.setOf answer; hasselaw.OrderParts returns true for every order and set. No condition but that a slice reads as a slice of numbers.
-/
import Derived.Test.YtnjmelbnamgjcaaDoorPart
import Derived.Deep.RegionHeld3
import Derived.Test.YtnjmelbnamgjcaaDoorOfPart
namespace Go.Proofs.YtnjmelbnamgjcaaDoor
open Go.RowKit

theorem p6_step {w w1 w2 : World} {b0 b1 b2 o2 x y : Nat} {u0 u1 u2 u3 u4 : Value}
    (h : w1.cell? ⟨b0, 0, none⟩ = some u0 ∧ w1.cell? ⟨b0, 1, none⟩ = some u1 ∧ w1.cell? ⟨b1, 0, none⟩ = some u2 ∧ w1.cell? ⟨b2, o2 + x, none⟩ = some u3 ∧ w1.cell? ⟨b2, o2 + y, none⟩ = some u4 ∧ Below w.heap.size w w1)
    (hb : Below w1.heap.size w1 w2) :
    w2.cell? ⟨b0, 0, none⟩ = some u0 ∧ w2.cell? ⟨b0, 1, none⟩ = some u1 ∧ w2.cell? ⟨b1, 0, none⟩ = some u2 ∧ w2.cell? ⟨b2, o2 + x, none⟩ = some u3 ∧ w2.cell? ⟨b2, o2 + y, none⟩ = some u4 ∧ Below w.heap.size w w2 := by
  obtain ⟨h1, h2, h3, h4, h5, h6⟩ := h
  exact ⟨(hb.cell (World.block_lt_of_cell? _ _ h1)).trans h1, (hb.cell (World.block_lt_of_cell? _ _ h2)).trans h2, (hb.cell (World.block_lt_of_cell? _ _ h3)).trans h3, (hb.cell (World.block_lt_of_cell? _ _ h4)).trans h4, (hb.cell (World.block_lt_of_cell? _ _ h5)).trans h5, Below.then h6 hb⟩
theorem p6_below {w w1 : World} {b0 b1 b2 o2 x y : Nat} {u0 u1 u2 u3 u4 : Value}
    (h : w1.cell? ⟨b0, 0, none⟩ = some u0 ∧ w1.cell? ⟨b0, 1, none⟩ = some u1 ∧ w1.cell? ⟨b1, 0, none⟩ = some u2 ∧ w1.cell? ⟨b2, o2 + x, none⟩ = some u3 ∧ w1.cell? ⟨b2, o2 + y, none⟩ = some u4 ∧ Below w.heap.size w w1) : Below w.heap.size w w1 := h.2.2.2.2.2

theorem part1_any (x y : Nat) (a a2 : Option Addr) (len cap m cap2 b0 b1 : Nat) (g : Nat → Nat) (L : List Nat) (w : World) (h10 : len ≤ 10) (hg : ∀ k, k < len → g k < 1024) (hx : x < m) (hy : y < m)
    (hL : ∀ k, k < m → nth L k < len) (hH : Held w b0 len a len cap (fun k => (g k : Nat))) (hb1 : w.cell? ⟨b1, 0, none⟩ = some (.slice a2 m cap2)) (hr2 : Row w a2 m (fun k => (nth L k : Nat))) :
    Calls Tryd.prog 17 #[.int .i64 x, .int .i64 y, .pointer (some ⟨b0, 0, none⟩), .pointer (some ⟨b1, 0, none⟩)] w fun e w' => e = .returned (.bool ((g (nth L y)).testBit (nth L x))) ∧ Below w.heap.size w w' := by
  obtain ⟨b2, o2, rfl, hc⟩ := hr2.at hx
  have cx := hc x hx
  have cy := hc y hy
  have hLx := hL x hx
  have hLy := hL y hy
  have hx' : (x : Int) < (m : Int) := by omega
  have hy' : (y : Int) < (m : Int) := by omega
  have HR : Hid (Row w a len (fun k => (g k : Nat))) := hH.row
  have HG : Hid (∀ k, k < len → g k < 1024) := hg
  have KK : w.drew.cell? ⟨b0, 0, none⟩ = some (.int .i64 (len : Int)) ∧ w.drew.cell? ⟨b0, 1, none⟩ = some (.slice a len cap) ∧ w.drew.cell? ⟨b1, 0, none⟩ = some (.slice (some ⟨b2, o2, none⟩) m cap2) ∧ w.drew.cell? ⟨b2, o2 + x, none⟩ = some (.int .i64 (nth L x : Nat)) ∧ w.drew.cell? ⟨b2, o2 + y, none⟩ = some (.int .i64 (nth L y : Nat)) ∧ Below w.heap.size w w.drew := ⟨hH.c0, hH.c1, hb1, cx, cy, (Below.refl _ _).drew⟩
  clear hc cx cy hH hb1 hr2 hg hL
  generalize nth L x = X at *
  generalize nth L y = Y at *
  go_enter Tryd.func17, Tryd.ntmps17
  go_wp2
  go_region_held3 (fun w' => w'.cell? ⟨b0, 0, none⟩ = some (.int .i64 (len : Int)) ∧ w'.cell? ⟨b0, 1, none⟩ = some (.slice a len cap) ∧ w'.cell? ⟨b1, 0, none⟩ = some (.slice (some ⟨b2, o2, none⟩) m cap2) ∧ w'.cell? ⟨b2, o2 + x, none⟩ = some (.int .i64 (X : Nat)) ∧ w'.cell? ⟨b2, o2 + y, none⟩ = some (.int .i64 (Y : Nat)) ∧ Below w.heap.size w w')
    (first | exact KK | assumption | exact p6_step (by assumption) (by assumption))
    (first
      | (go_at_call 18; refine (less_any len a len cap g X Y _ h10 HG.out (HR.out.below (p6_below (by assumption))) (by omega) hLy).mono ?_; rintro e w' ⟨rfl, hb⟩))
  all_goals go_wp2
  all_goals go_ret
  all_goals exact ⟨rfl, p6_below (by assumption)⟩

theorem refPart_any (a : Option Addr) (len cap s : Nat) (g : Nat → Nat) (w : World) (h10 : len ≤ 10) (hg : ∀ k, k < len → g k < 1024) (hs : s < 1024) (hr : Row w a len (fun k => (g k : Nat))) :
    Calls Tryd.prog 6 #[.agg #[.int .i64 (len : Int), .slice a len cap], .int .i64 s] w fun e w' => OrderPost w (pts s len).length (prt g (pts s len)) e w' ∧ Below w.heap.size w w' := by
  have HH : Hid (Held ((w.alloc (.cells #[.int .i64 (len : Int), .slice a len cap] 24)).alloc (.cells #[.int .i64 0, .slice none 0 0] 24)) w.heap.size len a len cap (fun k => (g k : Nat))) := (Held.box hr).step ((Below.refl _ _).alloc (Nat.le_refl _) _)
  have HB : Hid (Below w.heap.size w ((w.alloc (.cells #[.int .i64 (len : Int), .slice a len cap] 24)).alloc (.cells #[.int .i64 0, .slice none 0 0] 24))) := ((Below.refl _ _).alloc (Nat.le_refl _) _).alloc (by simp) _
  have HZ : Hid (ZBox ((w.alloc (.cells #[.int .i64 (len : Int), .slice a len cap] 24)).alloc (.cells #[.int .i64 0, .slice none 0 0] 24)) (w.heap.size + 1)) := by have := ZBox.new (w.alloc (.cells #[.int .i64 (len : Int), .slice a len cap] 24)); rw [World.size_alloc] at this; exact this
  have HG : Hid (∀ k, k < len → g k < 1024) := hg
  clear hg hr
  have hLlen := pts_len s len
  have HLT : Hid (∀ k, k < (pts s len).length → nth (pts s len) k < len) := fun k hk => nth_lt hk
  obtain ⟨L, HL⟩ : ∃ L, Hid (L = pts s len) := ⟨_, rfl⟩
  rw [← HL.out] at hLlen HLT
  rw [← HL.out]
  obtain ⟨m, HM⟩ : ∃ m, Hid (m = L.length) := ⟨_, rfl⟩
  rw [← HM.out] at hLlen HLT
  rw [← HM.out]
  go_enter Tryd.func6, Tryd.ntmps6
  go_wp2_with fail
  refine (points_any s len _ hs h10).mono ?_
  rintro e w1 ⟨⟨v, rfl, hv⟩, hb⟩
  rw [← HL.out] at hv
  obtain ⟨a2, cap2, rfl, hr2⟩ := hv
  rw [← HM.out] at hr2
  rw [← HM.out]
  have H1 := HH.out.step hb
  have Z1 := HZ.out.step hb
  have HB1 : Hid (Below w.heap.size w w1) := Below.then HB.out hb
  have H3 : Hid (Held (w1.alloc (.cells #[.slice a2 m cap2] 22)) w.heap.size len a len cap (fun k => (g k : Nat))) := H1.step ((Below.refl _ _).alloc (Nat.le_refl _) _)
  have Z3 : Hid (ZBox (w1.alloc (.cells #[.slice a2 m cap2] 22)) (w.heap.size + 1)) := Z1.step ((Below.refl _ _).alloc (Nat.le_refl _) _)
  have R3 : Hid (Row (w1.alloc (.cells #[.slice a2 m cap2] 22)) a2 m (fun k => (nth L k : Nat))) := hr2.below ((Below.refl _ _).alloc (Nat.le_refl _) _)
  have C3 : Hid ((w1.alloc (.cells #[.slice a2 m cap2] 22)).cell? ⟨w1.heap.size, 0, none⟩ = some (.slice a2 m cap2)) := (by simp : (w1.alloc (.cells #[.slice a2 m cap2] 22)).cell? ⟨w1.heap.size, 0, none⟩ = some (.slice a2 m cap2))
  have hl1 : w.heap.size + 1 < w1.heap.size := World.block_lt_of_cell? _ _ Z1.1
  have HB3 : Hid (Below w.heap.size w (w1.alloc (.cells #[.slice a2 m cap2] 22))) := HB1.out.alloc (by omega) _
  clear hb hr2 H1 Z1 HH HB HZ HB1 HL
  go_wp2_with fail
  refine (orderOf_part m w.heap.size w1.heap.size (fun x y => (g (nth L y)).testBit (nth L x)) _ (by omega) (fun x y wx hx hy hb => part1_any x y a a2 len cap m cap2 w.heap.size w1.heap.size g L wx h10 HG.out hx hy HLT.out (H3.out.step hb) ((hb.cell (World.block_lt_of_cell? _ _ C3.out)).trans C3.out) (R3.out.below hb))).mono ?_
  rintro e w4 ⟨⟨a4, cap4, rfl, hrow, hfr⟩, hb⟩
  obtain ⟨r0, r1, r2, r3⟩ := Z3.out.step hb
  have HB4 : Hid (Below w.heap.size w w4) := Below.then HB3.out hb
  have HR4 : Hid (Row w4 a4 m (fun k => (prt g L k : Nat))) := by unfold prt; rw [← HM.out]; exact hrow
  have HF4 : Hid (Fresh (w.heap.size + 1 + 1) a4 m) := hfr.mono (by simp; omega)
  clear hb hrow hfr Z3 HB3 H3 R3 C3 HG HLT
  go_wp2_with fail
  exact bodyPost_ret (v := .agg #[.int .i64 (m : Int), .slice a4 m cap4]) (by simp [results, Tryd.results6, go_sem, r0, r1]) rfl ⟨⟨a4, cap4, rfl, row_set2 HR4.out HF4.out, HF4.out.mono (by omega)⟩, set2B HB4.out (by omega)⟩

theorem lawIsSet_any (s : Int) (n : Nat) (w : World) (hn : n ≤ 10) :
    Calls Tryd.prog 14 #[.int .i64 s, .int .i64 n] w fun e w' => e = .returned (.bool (sts s n)) ∧ w = w' := by
  by_cases h0 : 0 ≤ s
  · by_cases h1 : s < (pw n : Nat)
    · go_enter Tryd.func14, Tryd.ntmps14
      go_wp2_with (go_at_call 27; refine (bit_any n _ (by omega)).mono ?_; rintro e w' ⟨rfl, rfl⟩)
      go_ret
      exact ⟨ret_bool (by simp [sts, h0, h1]), rfl⟩
    · go_enter Tryd.func14, Tryd.ntmps14
      go_wp2_with (go_at_call 27; refine (bit_any n _ (by omega)).mono ?_; rintro e w' ⟨rfl, rfl⟩)
      go_ret
      exact ⟨ret_bool (by simp [sts]; omega), rfl⟩
  · have h0' : decide (0 ≤ s) = false := by simp; omega
    go_enter Tryd.func14, Tryd.ntmps14
    go_wp2
    go_ret
    exact ⟨ret_bool (by simp [sts]; omega), rfl⟩

theorem setOf_any (n : Int) (a : Option Addr) (len cap : Nat) (f : Nat → Int) (set : Int) (w : World) (hl : len ≤ maxLen) (hr : Row w a len f) :
    Calls Tryd.prog 5 #[.agg #[.int .i64 n, .slice a len cap], .int .i64 set] w fun e w' => (∃ c : Int, e = .returned (.int .i64 c) ∧ PChk n len f set c) ∧ Below w.heap.size w w' := by
  have K0 : Held (w.alloc (.cells #[.int .i64 n, .slice a len cap] 24)) w.heap.size n a len cap f := Held.box hr
  have HB0 : Hid (Below w.heap.size w (w.alloc (.cells #[.int .i64 n, .slice a len cap] 24))) := (Below.refl _ _).alloc (Nat.le_refl _) _
  clear hr
  go_enter Tryd.func5, Tryd.ntmps5
  go_wp2_with fail
  refine (checkOrder_any n a len cap f _ hl K0.row).mono ?_
  rintro e w1 ⟨⟨c, rfl, hc⟩, hb⟩
  have K1 := K0.step hb
  have k0 := K1.c0
  have k1 := K1.c1
  have HB1 : Hid (Below w.heap.size w w1) := Below.then HB0.out hb
  clear hb K0 HB0 K1
  by_cases h0 : c = 0
  · subst h0
    obtain ⟨rfl, h10, _, _⟩ := hc.good
    have HC : Hid (Chk (len : Int) len f 0) := hc
    clear hc
    rcases (Bool.eq_false_or_eq_true (sts set len)).symm with hs | hs
    · go_wp2_with (go_at_call 14; refine (lawIsSet_any _ _ _ h10).mono ?_; rintro e w' ⟨rfl, rfl⟩)
      go_ret
      exact ⟨⟨_, rfl, .inr ⟨HC.out, .inl ⟨rfl, hs⟩⟩⟩, HB1.out⟩
    · go_wp2_with (go_at_call 14; refine (lawIsSet_any _ _ _ h10).mono ?_; rintro e w' ⟨rfl, rfl⟩)
      go_ret
      exact ⟨⟨_, rfl, .inr ⟨HC.out, .inr ⟨rfl, hs⟩⟩⟩, HB1.out⟩
  · have hne : (c == 0) = false := by simpa using h0
    have HC : Hid (Chk n len f c) := hc
    clear hc
    go_wp2_with fail
    go_ret
    exact ⟨⟨_, rfl, .inl ⟨h0, HC.out⟩⟩, HB1.out⟩

set_option maxHeartbeats 1000000 in
theorem orderParts_any (n : Int) (a : Option Addr) (len cap : Nat) (f : Nat → Int) (set : Int) (w : World) (hl : len ≤ maxLen) (hr : Row w a len f) (hT : Tab w) :
    Calls Tryd.prog 3 #[.agg #[.int .i64 n, .slice a len cap], .int .i64 set] w fun e w' => e = .returned (.bool true) ∧ Below w.heap.size w w' := by
  have K0 : Held (w.alloc (.cells #[.int .i64 n, .slice a len cap] 24)) w.heap.size n a len cap f := Held.box hr
  have HB0 : Hid (Below w.heap.size w (w.alloc (.cells #[.int .i64 n, .slice a len cap] 24))) := (Below.refl _ _).alloc (Nat.le_refl _) _
  have HT0 : Hid (Tab (w.alloc (.cells #[.int .i64 n, .slice a len cap] 24))) := hT.step HB0.out
  clear hr hT
  go_enter Tryd.func3, Tryd.ntmps3
  go_wp2_with fail
  refine (part_any n a len cap f set _ hl K0.row HT0.out).mono ?_
  rintro e w1 ⟨⟨c, x, hc, rfl, hx⟩, hb⟩
  have K1 := K0.step hb
  have HB1 : Hid (Below w.heap.size w w1) := Below.then HB0.out hb
  clear hb K0 HB0 HT0
  have hl1 : w.heap.size < w1.heap.size := World.block_lt_of_cell? _ _ K1.1
  by_cases h0 : c = 0
  · subst h0
    obtain ⟨hgd, hst⟩ : Chk n len f 0 ∧ sts set len = true := by
      rcases hc with ⟨h, _⟩ | ⟨h, ⟨h3, _⟩ | ⟨_, h2⟩⟩
      · exact absurd rfl h
      · cases h3
      · exact ⟨h, h2⟩
    obtain ⟨rfl, h10, hrng, _⟩ := hgd.good
    obtain ⟨hs0, hs1⟩ : 0 ≤ set ∧ set < (pw len : Nat) := by simpa [sts] using hst
    obtain ⟨s, rfl⟩ := Int.eq_ofNat_of_zero_le hs0
    have hsn : s < 1024 := by have := pw_le len h10; omega
    rw [Int.toNat_natCast] at hx
    have hll := Nat.le_trans (pts_len s len) h10
    obtain ⟨L, HL⟩ : ∃ L, Hid (L = pts s len) := ⟨_, rfl⟩
    rw [← HL.out] at hx hll
    obtain ⟨m, HM⟩ : ∃ m, Hid (m = L.length) := ⟨_, rfl⟩
    rw [← HM.out] at hx hll
    clear hs0 hs1 hgd hst
    rcases hx with ⟨h, _⟩ | ⟨_, a', cap', rfl, hrow⟩
    · exact absurd rfl h
    have K3 := K1.step ((Below.refl _ _).alloc (Nat.le_refl _) (.cells #[.int .i64 (m : Int), .slice a' m cap'] 24))
    have X3 := Box.new w1 (m : Int) a' m cap'
    have R3 := hrow.below ((Below.refl _ _).alloc (Nat.le_refl _) (.cells #[.int .i64 (m : Int), .slice a' m cap'] 24))
    have HB3 : Hid (Below w.heap.size w (w1.alloc (.cells #[.int .i64 (m : Int), .slice a' m cap'] 24))) := HB1.out.alloc (by omega) _
    have k0 := K1.c0
    have k1 := K1.c1
    clear hrow HB1
    go_wp2_with fail
    refine (setOf_any len a len cap f s _ hl K3.row).mono ?_
    rintro e w2 ⟨⟨c', rfl, hc'⟩, hb2⟩
    obtain rfl := PChk.unique hc' hc
    have K4 := (K3.step hb2).step ((Below.refl _ _).alloc (Nat.le_refl _) (.cells #[.int .i64 0, .slice none 0 0] 24))
    have k0' := (K3.step hb2).c0
    have k1' := (K3.step hb2).c1
    have Z4 := ZBox.new w2
    have X2 := X3.step hb2
    have R2 := R3.below hb2
    have hl2 : w1.heap.size < w2.heap.size := (X3.step hb2).lt
    have hl3 : w.heap.size < w2.heap.size := by omega
    have HB4 : Hid (Below w.heap.size w (w2.alloc (.cells #[.int .i64 0, .slice none 0 0] 24))) := (Below.then HB3.out hb2).alloc (by omega) _
    clear hb2 hc hc' K3 X3 R3 HB3 K1 k0 k1
    go_wp2_with fail
    refine (refPart_any a len cap s (nat f) _ h10 (hrng.small2 h10) hsn (hrng.row K4.row)).mono ?_
    rintro e w5 ⟨hpost5, hb5⟩
    rw [← HL.out, ← HM.out] at hpost5
    obtain ⟨a5, cap5, rfl, hrow5, hfr5⟩ := hpost5
    obtain ⟨z0, z1, z2, z3⟩ := Z4.step hb5
    obtain ⟨W6, HW6⟩ : ∃ W6, Hid (W6 = (w5.setCell ⟨w2.heap.size, 0, none⟩ (.int .i64 (m : Int))).setCell ⟨w2.heap.size, 1, none⟩ (.slice a5 m cap5)) := ⟨_, rfl⟩
    have hb6 : Below w2.heap.size w2 W6 := by
      rw [HW6.out]; exact set2B (Below.then ((Below.refl _ _).alloc (Nat.le_refl _) _) hb5) (Nat.le_refl _)
    have hr5 : Row W6 a5 m (fun k => (prt (nat f) L k : Nat)) := by
      rw [HW6.out]; exact row_set2 hrow5 (by simpa using hfr5)
    have hbx5 : Box W6 w2.heap.size m a5 m cap5 := by rw [HW6.out]; exact Box.set2 (Z4.step hb5)
    have HB6 : Hid (Below w.heap.size w W6) := by
      rw [HW6.out]; exact set2B (Below.then HB4.out hb5) (by omega)
    have hx6 : Box W6 w1.heap.size m a' m cap' := X2.step hb6
    have hr6 : Row W6 a' m (fun k => (prt (nat f) L k : Nat)) := R2.below hb6
    clear hb6 hb5 K4 HB4 Z4 hrow5 hfr5 X2 R2
    go_wp2_with fail
    rw [← HW6.out]
    refine (orderBegun_any _).mono ?_
    rintro e w7 ⟨rfl, hb7⟩
    have HB7 : Hid (Below w.heap.size w w7) := Below.then HB6.out hb7
    obtain ⟨x0, x1⟩ := hx6.step hb7
    obtain ⟨y0, y1⟩ := hbx5.step hb7
    have R7 := hr6.below hb7
    have S7 := hr5.below hb7
    clear hb7 HB6 hx6 hbx5 hr6 hr5 HW6 z0 z1 z2 z3 k0' k1'
    go_wp2_with fail
    refine (given_any 0 (m : Int) m (fun k => (prt (nat f) L k : Nat)) _ _ _ (by unfold maxLen; omega) (.inr ⟨rfl, _, _, rfl, R7⟩) (.inl (.inr ⟨rfl, _, _, rfl, S7⟩))).mono ?_
    rintro e w8 ⟨rfl, hb8⟩
    have HB8 : Hid (Below w.heap.size w w8) := Below.then HB7.out hb8
    clear hb8 HB7
    go_wp2_with fail
    go_ret
    exact ⟨rfl, HB8.out⟩
  · have hne : (c == 0) = false := by simpa using h0
    rcases hx with ⟨_, rfl⟩ | ⟨h, _⟩
    · unfold noOrder
      have K3 := K1.step ((Below.refl _ _).alloc (Nat.le_refl _) (.cells #[.int .i64 0, .slice none 0 0] 24))
      have X3 := Box.new w1 0 none 0 0
      have HB3 : Hid (Below w.heap.size w (w1.alloc (.cells #[.int .i64 0, .slice none 0 0] 24))) := HB1.out.alloc (by omega) _
      have k0 := K1.c0
      have k1 := K1.c1
      clear HB1
      go_wp2_with fail
      refine (setOf_any n a len cap f set _ hl K3.row).mono ?_
      rintro e w2 ⟨⟨c', rfl, hc'⟩, hb2⟩
      obtain rfl := PChk.unique hc' hc
      have X4 := (X3.step hb2).step ((Below.refl _ _).alloc (Nat.le_refl _) (.cells #[.int .i64 0, .slice none 0 0] 24))
      have Y4 := Box.new w2 0 none 0 0
      have hl2 : w1.heap.size < w2.heap.size := (X3.step hb2).lt
      have HB4 : Hid (Below w.heap.size w (w2.alloc (.cells #[.int .i64 0, .slice none 0 0] 24))) := (Below.then HB3.out hb2).alloc (by omega) _
      clear hb2 hc hc' K3 X3 HB3 K1 k0 k1
      go_wp2_with fail
      refine (orderBegun_any _).mono ?_
      rintro e w7 ⟨rfl, hb7⟩
      have HB7 : Hid (Below w.heap.size w w7) := Below.then HB4.out hb7
      obtain ⟨x0, x1⟩ := X4.step hb7
      obtain ⟨y0, y1⟩ := Y4.step hb7
      clear hb7 HB4 X4 Y4
      go_wp2_with fail
      refine (given_any c' 0 0 (fun _ => 0) _ _ _ (by unfold maxLen; omega) (.inl ⟨h0, rfl⟩) (.inl (.inl ⟨h0, rfl⟩))).mono ?_
      rintro e w8 ⟨rfl, hb8⟩
      have HB8 : Hid (Below w.heap.size w w8) := Below.then HB7.out hb8
      clear hb8 HB7
      go_wp2_with fail
      go_ret
      exact ⟨rfl, HB8.out⟩
    · exact absurd h h0
end Go.Proofs.YtnjmelbnamgjcaaDoor
