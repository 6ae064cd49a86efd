/-
  For every two orders that are handed in, hasselaw.OrderBesides returns true, and writes nothing that was there. Conditions: slices read as slices of numbers; a nil one has no room.
-/
import Derived.Test.YtnjmelbnamgjcabOver
import Derived.Test.YtnjmelbnamgjcabRefBeside
namespace Go.Proofs.Ytnjmelbnamgjcab
open Go.RowKit

theorem ordErr_no {c n m : Int} {len : Nat} {F : Nat → Int} {a : Option Addr} {l cap : Nat} {w : World} (h0 : c ≠ 0) (h : OrdErr c n len F (.agg #[.int .i64 m, .slice a l cap]) w) : m = 0 ∧ a = none ∧ l = 0 ∧ cap = 0 := by
  rcases h with ⟨_, h⟩ | ⟨h, _⟩
  · simpa [noOrder] using h
  · exact absurd h h0

theorem o5_setB {w w1 : World} {b0 b1 B : Nat} {u0 u1 u2 u3 x y : Value}
    (h : w1.cell? ⟨b0, 0, none⟩ = some u0 ∧ w1.cell? ⟨b0, 1, none⟩ = some u1 ∧ w1.cell? ⟨b1, 0, none⟩ = some u2 ∧ w1.cell? ⟨b1, 1, none⟩ = some u3 ∧ Below w.heap.size w w1) (h0 : b0 < w.heap.size) (h1 : b1 < w.heap.size) (hB : w.heap.size ≤ B) :
    ((w1.setCell ⟨B, 0, none⟩ x).setCell ⟨B, 1, none⟩ y).cell? ⟨b0, 0, none⟩ = some u0 ∧ ((w1.setCell ⟨B, 0, none⟩ x).setCell ⟨B, 1, none⟩ y).cell? ⟨b0, 1, none⟩ = some u1 ∧ ((w1.setCell ⟨B, 0, none⟩ x).setCell ⟨B, 1, none⟩ y).cell? ⟨b1, 0, none⟩ = some u2 ∧ ((w1.setCell ⟨B, 0, none⟩ x).setCell ⟨B, 1, none⟩ y).cell? ⟨b1, 1, none⟩ = some u3 ∧ Below w.heap.size w ((w1.setCell ⟨B, 0, none⟩ x).setCell ⟨B, 1, none⟩ y) := by
  have key : ∀ (b o : Nat), b < w.heap.size → ((w1.setCell ⟨B, 0, none⟩ x).setCell ⟨B, 1, none⟩ y).cell? ⟨b, o, none⟩ = w1.cell? ⟨b, o, none⟩ := fun b o hb => by
    rw [World.cell?_setCell_other _ _ _ _ (fun e => by injection e with e1; omega), World.cell?_setCell_other _ _ _ _ (fun e => by injection e with e1; omega)]
  obtain ⟨k1, k2, k3, k4, k6⟩ := h
  exact ⟨(key _ _ h0).trans k1, (key _ _ h0).trans k2, (key _ _ h1).trans k3, (key _ _ h1).trans k4, set2B k6 hB⟩

theorem four_set {X : World} {z : Nat} {n m : Int} {a8 a9 : Option Addr} {l cap8 cap9 : Nat} (hz : ZBox X z) (hv : ZBox X (z + 1)) :
    Box ((((X.setCell ⟨z, 0, none⟩ (.int .i64 n)).setCell ⟨z, 1, none⟩ (.slice a8 l cap8)).setCell ⟨z + 1, 0, none⟩ (.int .i64 m)).setCell ⟨z + 1, 1, none⟩ (.slice a9 l cap9)) z n a8 l cap8 ∧
    Box ((((X.setCell ⟨z, 0, none⟩ (.int .i64 n)).setCell ⟨z, 1, none⟩ (.slice a8 l cap8)).setCell ⟨z + 1, 0, none⟩ (.int .i64 m)).setCell ⟨z + 1, 1, none⟩ (.slice a9 l cap9)) (z + 1) m a9 l cap9 := by
  have b1 : Box ((X.setCell ⟨z, 0, none⟩ (.int .i64 n)).setCell ⟨z, 1, none⟩ (.slice a8 l cap8)) z n a8 l cap8 := Box.set2 hz
  have z1 : ZBox ((X.setCell ⟨z, 0, none⟩ (.int .i64 n)).setCell ⟨z, 1, none⟩ (.slice a8 l cap8)) (z + 1) := by
    obtain ⟨h1, h2, h3, h4⟩ := hv
    refine ⟨?_, ?_, ?_, ?_⟩
    · rw [World.cell?_setCell_other _ _ _ _ (fun e => by injection e with e1; omega), World.cell?_setCell_other _ _ _ _ (fun e => by injection e with e1; omega)]; exact h1
    · rw [World.cell?_setCell_other _ _ _ _ (fun e => by injection e with e1; omega), World.cell?_setCell_other _ _ _ _ (fun e => by injection e with e1; omega)]; exact h2
    · rw [World.frozen?_setCell, World.frozen?_setCell]; exact h3
    · rw [World.frozen?_setCell, World.frozen?_setCell]; exact h4
  refine ⟨⟨?_, ?_⟩, Box.set2 z1⟩
  · rw [World.cell?_setCell_other _ _ _ _ (fun e => by injection e with e1; omega), World.cell?_setCell_other _ _ _ _ (fun e => by injection e with e1; omega)]; exact b1.1
  · rw [World.cell?_setCell_other _ _ _ _ (fun e => by injection e with e1; omega), World.cell?_setCell_other _ _ _ _ (fun e => by injection e with e1; omega)]; exact b1.2

set_option maxHeartbeats 4000000 in
theorem orderBesides_any (n1 : Int) (a1 : Option Addr) (len1 cap1 : Nat) (f1 : Nat → Int) (n2 : Int) (a2 : Option Addr) (len2 cap2 : Nat) (f2 : Nat → Int) (w : World) (hl1 : len1 ≤ maxLen) (hl2 : len2 ≤ maxLen)
    (hz : a1 = none → len1 = 0 ∧ cap1 = 0) (hr1 : Row w a1 len1 f1) (hr2 : Row w a2 len2 f2) :
    Calls Try.prog 3 #[.agg #[.int .i64 n1, .slice a1 len1 cap1], .agg #[.int .i64 n2, .slice a2 len2 cap2]] w fun e w' => e = .returned (.bool true) ∧ Below w.heap.size w w' := by
  have b1 := (Below.refl w.heap.size w).alloc (Nat.le_refl _) (.cells #[.int .i64 n1, .slice a1 len1 cap1] 24)
  have X0 := (Box.new w n1 a1 len1 cap1).step ((Below.refl _ _).alloc (Nat.le_refl _) (.cells #[.int .i64 n2, .slice a2 len2 cap2] 24))
  have Y0 := Box.new (w.alloc (.cells #[.int .i64 n1, .slice a1 len1 cap1] 24)) n2 a2 len2 cap2
  simp only [World.size_alloc] at Y0
  have hb0 := b1.alloc (by simp) (.cells #[.int .i64 n2, .slice a2 len2 cap2] 24)
  have R10 := hr1.below hb0
  have R20 := hr2.below hb0
  have HB0 : Hid (Below w.heap.size w ((w.alloc (.cells #[.int .i64 n1, .slice a1 len1 cap1] 24)).alloc (.cells #[.int .i64 n2, .slice a2 len2 cap2] 24))) := hb0
  clear b1 hb0 hr1 hr2
  go_enter Try.func3, Try.ntmps3
  go_wp2_with fail
  refine (beside_any n1 a1 len1 cap1 f1 n2 a2 len2 cap2 f2 _ hl1 hl2 hz R10 R20).mono ?_
  rintro e w1 ⟨⟨c, x, hc, rfl, hx⟩, hb⟩
  obtain ⟨nx, ax, lx, cx, rfl⟩ := ordErr_form hx
  have bW := (Below.refl w1.heap.size w1).alloc (Nat.le_refl _) (.cells #[.int .i64 nx, .slice ax lx cx] 24)
  have X1 := (X0.step hb).step bW
  have Y1 := (Y0.step hb).step bW
  have R11 := (R10.below hb).below bW
  have R21 := (R20.below hb).below bW
  have P1 := Box.new w1 nx ax lx cx
  have OX1 := hx.step bW
  obtain ⟨x0, x1⟩ := X0.step hb
  obtain ⟨y0, y1⟩ := Y0.step hb
  have hlw : w.heap.size + 1 < w1.heap.size := (Y0.step hb).lt
  have HB1 : Hid (Below w.heap.size w (w1.alloc (.cells #[.int .i64 nx, .slice ax lx cx] 24))) := (Below.then HB0.out hb).alloc (by omega) _
  have hlw0 : w.heap.size < w1.heap.size := by omega
  clear hb bW X0 Y0 R10 R20 HB0 hx
  go_wp2_with fail
  refine (over_any n1 a1 len1 cap1 f1 n2 a2 len2 cap2 f2 _ hl1 hl2 hz R11 R21).mono ?_
  rintro e w2 ⟨⟨c', y, hc', rfl, hy⟩, hb⟩
  obtain rfl := JChk.unique hc' hc
  obtain ⟨ny, ay, ly, cy, rfl⟩ := ordErr_form hy
  have bW := (Below.refl w2.heap.size w2).alloc (Nat.le_refl _) (.cells #[.int .i64 ny, .slice ay ly cy] 24)
  have bV := (Below.refl (w2.alloc (.cells #[.int .i64 ny, .slice ay ly cy] 24)).heap.size _).alloc (Nat.le_refl _) (.cells #[.int .i64 n1, .slice a1 len1 cap1, .int .i64 n2, .slice a2 len2 cap2] 24)
  have bU := Below.then bW bV
  have X2 := (X1.step hb).step bU
  have Y2 := (Y1.step hb).step bU
  have R12 := (R11.below hb).below bU
  have R22 := (R21.below hb).below bU
  have P2 := (P1.step hb).step bU
  have Q2 := (Box.new w2 ny ay ly cy).step bV
  have OX2 := (OX1.step hb).step bU
  have OY2 := hy.step bU
  have T2 := two_new (w2.alloc (.cells #[.int .i64 ny, .slice ay ly cy] 24)) n1 a1 len1 cap1 n2 a2 len2 cap2
  simp only [World.size_alloc] at T2
  obtain ⟨x20, x21⟩ := X1.step hb
  obtain ⟨y20, y21⟩ := Y1.step hb
  have hl2w : w1.heap.size < w2.heap.size := (P1.step hb).lt
  have hlw2 : w.heap.size < w2.heap.size := by omega
  have hlw3 : w.heap.size + 1 < w2.heap.size := by omega
  have HB2 : Hid (Below w.heap.size w ((w2.alloc (.cells #[.int .i64 ny, .slice ay ly cy] 24)).alloc (.cells #[.int .i64 n1, .slice a1 len1 cap1, .int .i64 n2, .slice a2 len2 cap2] 24))) := ((Below.then HB1.out hb).alloc (by omega) _).alloc (by simp; omega) _
  clear hb bW bV bU X1 Y1 R11 R21 P1 OX1 HB1 hy hc' x0 x1 y0 y1
  go_wp2_with fail
  refine (checkOrders_any n1 a1 len1 cap1 f1 n2 a2 len2 cap2 f2 _ _ hl1 hl2 T2 R12 R22).mono ?_
  rintro e w3 ⟨⟨d, rfl, hd⟩, hb⟩
  have bA := (Below.refl w3.heap.size w3).alloc (Nat.le_refl _) (.cells #[.int .i64 0, .slice none 0 0] 24)
  have bC := (Below.refl (w3.alloc (.cells #[.int .i64 0, .slice none 0 0] 24)).heap.size _).alloc (Nat.le_refl _) (.cells #[.int .i64 0, .slice none 0 0] 24)
  have bD := Below.then bA bC
  have X3 := (X2.step hb).step bD
  have Y3 := (Y2.step hb).step bD
  have R13 := (R12.below hb).below bD
  have R23 := (R22.below hb).below bD
  have P3 := (P2.step hb).step bD
  have Q3 := (Q2.step hb).step bD
  have OX3 := (OX2.step hb).step bD
  have OY3 := (OY2.step hb).step bD
  have Z3 := (ZBox.new w3).step bC
  have V3 := ZBox.new (w3.alloc (.cells #[.int .i64 0, .slice none 0 0] 24))
  simp only [World.size_alloc] at V3
  have hl3 : w2.heap.size < w3.heap.size := (Q2.step hb).lt
  obtain ⟨x30, x31⟩ := X2.step hb
  obtain ⟨y30, y31⟩ := Y2.step hb
  have HPW : Hid (Box w3 w1.heap.size nx ax lx cx) := P2.step hb
  have HQW : Hid (Box w3 w2.heap.size ny ay ly cy) := Q2.step hb
  have HOX : Hid (OrdErr c' ((len1 + len2 : Nat) : Int) (len1 + len2) (fun k => (jn (nat f1) len1 (nat f2) 0 k : Nat)) (.agg #[.int .i64 nx, .slice ax lx cx]) w3) := OX2.step hb
  have HOY : Hid (OrdErr c' ((len1 + len2 : Nat) : Int) (len1 + len2) (fun k => (jn (nat f1) len1 (nat f2) (pw len1 - 1) k : Nat)) (.agg #[.int .i64 ny, .slice ay ly cy]) w3) := OY2.step hb
  have HBZ : Hid (Below w.heap.size w w3) := Below.then HB2.out hb
  have HR1 : Hid (Row w3 a1 len1 f1) := R12.below hb
  have HR2 : Hid (Row w3 a2 len2 f2) := R22.below hb
  have HB3 : Hid (Below w.heap.size w ((w3.alloc (.cells #[.int .i64 0, .slice none 0 0] 24)).alloc (.cells #[.int .i64 0, .slice none 0 0] 24))) := ((Below.then HB2.out hb).alloc (by omega) _).alloc (by simp; omega) _
  have hw31 : w.heap.size < w3.heap.size := by omega
  have hw32 : w.heap.size + 1 < w3.heap.size := by omega
  have hw33 : w1.heap.size < w3.heap.size := by omega
  clear hb bA bC bD X2 Y2 R12 R22 P2 Q2 OX2 OY2 T2 HB2 x20 x21 y20 y21
  clear R13 R23 P3 Q3 OX3 OY3
  by_cases h0 : c' = 0
  · subst h0
    obtain ⟨hc2, hn⟩ : Chk2 n1 len1 f1 n2 len2 f2 0 ∧ len1 + len2 ≤ 10 := by
      rcases hc with ⟨h, _⟩ | ⟨h, ⟨h2, _⟩ | ⟨_, h3⟩⟩
      · exact absurd rfl h
      · cases h2
      · exact ⟨h, h3⟩
    obtain rfl := hd.unique hc2
    obtain ⟨k1, k2⟩ := hc2.good
    obtain ⟨rfl, h10, hrng1, _⟩ := k1.good
    obtain ⟨rfl, h20, hrng2, _⟩ := k2.good
    have HS1 : Hid (∀ k, k < len1 → nat f1 k < pw len1) := hrng1.small
    have HS2 : Hid (∀ k, k < len2 → nat f2 k < pw len2) := hrng2.small
    have HQ1 : Hid (Row w3 a1 len1 (fun k => (nat f1 k : Nat))) := hrng1.row HR1.out
    have HQ2 : Hid (Row w3 a2 len2 (fun k => (nat f2 k : Nat))) := hrng2.row HR2.out
    have KK : Below w3.heap.size w3 ((w3.alloc (.cells #[.int .i64 0, .slice none 0 0] 24)).alloc (.cells #[.int .i64 0, .slice none 0 0] 24)).drew := (((Below.refl _ _).alloc (Nat.le_refl _) _).alloc (by simp) _).drew
    have HL : Hid (∀ w' : World, Below w3.heap.size w3 w' → w'.cell? ⟨w.heap.size, 0, none⟩ = some (.int .i64 (len1 : Int)) ∧ w'.cell? ⟨w.heap.size, 1, none⟩ = some (.slice a1 len1 cap1) ∧ w'.cell? ⟨w.heap.size + 1, 0, none⟩ = some (.int .i64 (len2 : Int)) ∧ w'.cell? ⟨w.heap.size + 1, 1, none⟩ = some (.slice a2 len2 cap2)) := fun w' h => ⟨(h.cell (p := ⟨w.heap.size, 0, none⟩) hw31).trans x30, (h.cell (p := ⟨w.heap.size, 1, none⟩) hw31).trans x31, (h.cell (p := ⟨w.heap.size + 1, 0, none⟩) hw32).trans y30, (h.cell (p := ⟨w.heap.size + 1, 1, none⟩) hw32).trans y31⟩
    have HZ3 : Hid (ZBox ((w3.alloc (.cells #[.int .i64 0, .slice none 0 0] 24)).alloc (.cells #[.int .i64 0, .slice none 0 0] 24)).drew w3.heap.size) := Z3
    have HV3 : Hid (ZBox ((w3.alloc (.cells #[.int .i64 0, .slice none 0 0] 24)).alloc (.cells #[.int .i64 0, .slice none 0 0] 24)).drew (w3.heap.size + 1)) := V3
    have hszz : ((w3.alloc (.cells #[.int .i64 0, .slice none 0 0] 24)).alloc (.cells #[.int .i64 0, .slice none 0 0] 24)).drew.heap.size = w3.heap.size + 2 := by simp
    have HSZ : Hid (((w3.alloc (.cells #[.int .i64 0, .slice none 0 0] 24)).alloc (.cells #[.int .i64 0, .slice none 0 0] 24)).drew.heap.size = w3.heap.size + 2) := hszz
    have hle10 : ¬ (10 : Int) < (len1 : Int) + (len2 : Int) := by omega
    obtain ⟨x40, x41⟩ := X3
    obtain ⟨y40, y41⟩ := Y3
    clear hc hd hc2 k1 k2 hrng1 hrng2 HR1 HR2 Z3 V3 x30 x31 y30 y31 hszz
    go_wp2_with fail
    clear x40 x41 y40 y41 HB3
    generalize (w3.alloc (.cells #[.int .i64 0, .slice none 0 0] 24)).alloc (.cells #[.int .i64 0, .slice none 0 0] 24) = W4 at *
    have HW1 : Hid (w.heap.size < w3.heap.size) := hw31
    have HW2 : Hid (w.heap.size + 1 < w3.heap.size) := hw32
    clear hw31 hw32 hw33 hlw hlw0 hl2w hlw2 hlw3 hl3 hle10
    have l1 : ∀ w' : World, Below w3.heap.size w3 w' → w'.cell? ⟨w.heap.size, 0, none⟩ = some (.int .i64 (len1 : Int)) := fun w' h => (HL.out w' h).1
    have l2 : ∀ w' : World, Below w3.heap.size w3 w' → w'.cell? ⟨w.heap.size, 1, none⟩ = some (.slice a1 len1 cap1) := fun w' h => (HL.out w' h).2.1
    have l3 : ∀ w' : World, Below w3.heap.size w3 w' → w'.cell? ⟨w.heap.size + 1, 0, none⟩ = some (.int .i64 (len2 : Int)) := fun w' h => (HL.out w' h).2.2.1
    have l4 : ∀ w' : World, Below w3.heap.size w3 w' → w'.cell? ⟨w.heap.size + 1, 1, none⟩ = some (.slice a2 len2 cap2) := fun w' h => (HL.out w' h).2.2.2
    go_region_held3 (fun w' => Below w3.heap.size w3 w')
      (first | exact KK | exact set2B (by assumption) (by omega) | exact Below.then (by assumption) (by assumption))
      (first
        | (go_at_call_of 11 (Value.bool false); refine (refBeside_any a1 len1 cap1 (nat f1) a2 len2 cap2 (nat f2) false _ hn HS1.out HS2.out (HQ1.out.below (by assumption)) (HQ2.out.below (by assumption))).mono ?_; rintro e wA ⟨⟨a8, cap8, rfl, hrow8, hfr8⟩, hb8⟩)
        | (go_at_call_of 11 (Value.bool true); refine (refBeside_any a1 len1 cap1 (nat f1) a2 len2 cap2 (nat f2) true _ hn HS1.out HS2.out (HQ1.out.below (by assumption)) (HQ2.out.below (by assumption))).mono ?_; rintro e wB ⟨⟨a9, cap9, rfl, hrow9, hfr9⟩, hb9⟩; obtain ⟨z0, z1, z2, z3⟩ := (HZ3.out.step hb8).step hb9; obtain ⟨v0, v1, v2, v3⟩ := (HV3.out.step hb8).step hb9))
    have hS : Below w3.heap.size w3 ((((wB.setCell ⟨w3.heap.size, 0, none⟩ (.int .i64 ((len1 : Int) + (len2 : Int)))).setCell ⟨w3.heap.size, 1, none⟩ (.slice a8 (len1 + len2) cap8)).setCell ⟨w3.heap.size + 1, 0, none⟩ (.int .i64 ((len1 : Int) + (len2 : Int)))).setCell ⟨w3.heap.size + 1, 1, none⟩ (.slice a9 (len1 + len2) cap9)) := by assumption
    obtain ⟨f1', f2'⟩ := four_set (n := (len1 : Int) + (len2 : Int)) (m := (len1 : Int) + (len2 : Int)) (a8 := a8) (a9 := a9) (l := len1 + len2) (cap8 := cap8) (cap9 := cap9) ((HZ3.out.step hb8).step hb9) ((HV3.out.step hb8).step hb9)
    have hfA : Fresh (w3.heap.size + 1 + 1) a8 (len1 + len2) := hfr8.mono (by rw [HSZ.out]; omega)
    have hfB : Fresh (w3.heap.size + 1 + 1) a9 (len1 + len2) := hfr9.mono (by have := hb8.size; rw [HSZ.out] at this; omega)
    have rA := row_set2 (B := w3.heap.size + 1) (u := .int .i64 ((len1 : Int) + (len2 : Int))) (v := .slice a9 (len1 + len2) cap9) (row_set2 (B := w3.heap.size) (u := .int .i64 ((len1 : Int) + (len2 : Int))) (v := .slice a8 (len1 + len2) cap8) (hrow8.below hb9) (hfA.mono (by omega))) hfA
    have rB := row_set2 (B := w3.heap.size + 1) (u := .int .i64 ((len1 : Int) + (len2 : Int))) (v := .slice a9 (len1 + len2) cap9) (row_set2 (B := w3.heap.size) (u := .int .i64 ((len1 : Int) + (len2 : Int))) (v := .slice a8 (len1 + len2) cap8) hrow9 (hfB.mono (by omega))) hfB
    clear l1 l2 l3 l4 z0 z1 z2 z3 v0 v1 v2 v3 hb8 hb9 hrow8 hrow9 hfr8 hfr9 hfA hfB HZ3 HV3 HSZ HL KK
    generalize hW9 : (((wB.setCell ⟨w3.heap.size, 0, none⟩ (.int .i64 ((len1 : Int) + (len2 : Int)))).setCell ⟨w3.heap.size, 1, none⟩ (.slice a8 (len1 + len2) cap8)).setCell ⟨w3.heap.size + 1, 0, none⟩ (.int .i64 ((len1 : Int) + (len2 : Int)))).setCell ⟨w3.heap.size + 1, 1, none⟩ (.slice a9 (len1 + len2) cap9) = W9 at *
    clear hW9
    have HP9 : Hid (Box W9 w1.heap.size nx ax lx cx) := HPW.out.step hS
    have HQ9 : Hid (Box W9 w2.heap.size ny ay ly cy) := HQW.out.step hS
    have HX9 : Hid (OrdErr 0 ((len1 + len2 : Nat) : Int) (len1 + len2) (fun k => (jn (nat f1) len1 (nat f2) 0 k : Nat)) (.agg #[.int .i64 nx, .slice ax lx cx]) W9) := HOX.out.step hS
    have HY9 : Hid (OrdErr 0 ((len1 + len2 : Nat) : Int) (len1 + len2) (fun k => (jn (nat f1) len1 (nat f2) (pw len1 - 1) k : Nat)) (.agg #[.int .i64 ny, .slice ay ly cy]) W9) := HOY.out.step hS
    have HA9 : Hid (OrdErr 0 ((len1 + len2 : Nat) : Int) (len1 + len2) (fun k => (jn (nat f1) len1 (nat f2) 0 k : Nat)) (.agg #[.int .i64 ((len1 : Int) + (len2 : Int)), .slice a8 (len1 + len2) cap8]) W9) := .inr ⟨rfl, a8, cap8, by simp, rA⟩
    have HE9 : Hid (OrdErr 0 ((len1 + len2 : Nat) : Int) (len1 + len2) (fun k => (jn (nat f1) len1 (nat f2) (pw len1 - 1) k : Nat)) (.agg #[.int .i64 ((len1 : Int) + (len2 : Int)), .slice a9 (len1 + len2) cap9]) W9) := .inr ⟨rfl, a9, cap9, by simp, rB⟩
    have HF1 : Hid (Box W9 w3.heap.size ((len1 : Int) + (len2 : Int)) a8 (len1 + len2) cap8) := f1'
    have HF2 : Hid (Box W9 (w3.heap.size + 1) ((len1 : Int) + (len2 : Int)) a9 (len1 + len2) cap9) := f2'
    have HB9 : Hid (Below w.heap.size w W9) := Below.then HBZ.out hS
    clear hS f1' f2' rA rB HPW HQW HOX HOY HBZ
    go_wp2_with fail
    refine (orderBegun_any _).mono ?_
    rintro e w7 ⟨rfl, hb7⟩
    obtain ⟨p0, p1⟩ := HP9.out.step hb7
    obtain ⟨z0, z1⟩ := HF1.out.step hb7
    have HQ7 : Hid (Box w7 w2.heap.size ny ay ly cy) := HQ9.out.step hb7
    have HV7 : Hid (Box w7 (w3.heap.size + 1) ((len1 : Int) + (len2 : Int)) a9 (len1 + len2) cap9) := HF2.out.step hb7
    have HB7 : Hid (Below w.heap.size w w7) := Below.then HB9.out hb7
    have hX7 := HX9.out.step hb7
    have hA7 := HA9.out.step hb7
    have HY7 : Hid (OrdErr 0 ((len1 + len2 : Nat) : Int) (len1 + len2) (fun k => (jn (nat f1) len1 (nat f2) (pw len1 - 1) k : Nat)) (.agg #[.int .i64 ny, .slice ay ly cy]) w7) := HY9.out.step hb7
    have HE7 : Hid (OrdErr 0 ((len1 + len2 : Nat) : Int) (len1 + len2) (fun k => (jn (nat f1) len1 (nat f2) (pw len1 - 1) k : Nat)) (.agg #[.int .i64 ((len1 : Int) + (len2 : Int)), .slice a9 (len1 + len2) cap9]) w7) := HE9.out.step hb7
    clear hb7 HP9 HF1 HQ9 HF2 HB9 HX9 HA9 HY9 HE9
    go_wp2_with fail
    refine (given_any 0 ((len1 + len2 : Nat) : Int) (len1 + len2) _ _ _ _ (by unfold maxLen; omega) hX7 (.inl hA7)).mono ?_
    rintro e w8 ⟨rfl, hb8⟩
    obtain ⟨q0, q1⟩ := HQ7.out.step hb8
    obtain ⟨v0, v1⟩ := HV7.out.step hb8
    have HB8 : Hid (Below w.heap.size w w8) := Below.then HB7.out hb8
    have hY8 := HY7.out.step hb8
    have hE8 := HE7.out.step hb8
    clear hb8 HB7 HQ7 HV7 p0 p1 z0 z1 hX7 hA7 HY7 HE7
    go_wp2_with fail
    refine (given_any 0 ((len1 + len2 : Nat) : Int) (len1 + len2) _ _ _ _ (by unfold maxLen; omega) hY8 (.inl hE8)).mono ?_
    rintro e w9 ⟨rfl, hb9⟩
    have HB9 : Hid (Below w.heap.size w w9) := Below.then HB8.out hb9
    clear hb9 HB8 q0 q1 v0 v1 hY8 hE8
    go_wp2_with fail
    go_ret
    exact ⟨rfl, HB9.out⟩
  · have hne : (c' == 0) = false := by simpa using h0
    obtain ⟨rfl, rfl, rfl, rfl⟩ := ordErr_no h0 HOX.out
    obtain ⟨rfl, rfl, rfl, rfl⟩ := ordErr_no h0 HOY.out
    have HCASE : Hid (d = c' ∨ (d = 0 ∧ n1 = (len1 : Int) ∧ n2 = (len2 : Int) ∧ len1 ≤ 10 ∧ len2 ≤ 10 ∧ c' = 2 ∧ 10 < len1 + len2)) := by
      rcases hc with ⟨_, h⟩ | ⟨h, ⟨h2, h3⟩ | ⟨h2, _⟩⟩
      · exact .inl (hd.unique h)
      · obtain rfl := hd.unique h
        obtain ⟨g1, g2⟩ := h.good
        exact .inr ⟨rfl, g1.good.1, g2.good.1, g1.good.2.1, g2.good.2.1, h2, h3⟩
      · exact absurd h2 h0
    have HPX : Hid (Box ((w3.alloc (.cells #[.int .i64 0, .slice none 0 0] 24)).alloc (.cells #[.int .i64 0, .slice none 0 0] 24)) w1.heap.size 0 none 0 0) := HPW.out.step (((Below.refl _ _).alloc (Nat.le_refl _) _).alloc (by simp) _)
    have HQX : Hid (Box ((w3.alloc (.cells #[.int .i64 0, .slice none 0 0] 24)).alloc (.cells #[.int .i64 0, .slice none 0 0] 24)) w2.heap.size 0 none 0 0) := HQW.out.step (((Below.refl _ _).alloc (Nat.le_refl _) _).alloc (by simp) _)
    have HZX : Hid (Box ((w3.alloc (.cells #[.int .i64 0, .slice none 0 0] 24)).alloc (.cells #[.int .i64 0, .slice none 0 0] 24)) w3.heap.size 0 none 0 0) := ⟨Z3.1, Z3.2.1⟩
    have HVX : Hid (Box ((w3.alloc (.cells #[.int .i64 0, .slice none 0 0] 24)).alloc (.cells #[.int .i64 0, .slice none 0 0] 24)) (w3.heap.size + 1) 0 none 0 0) := ⟨V3.1, V3.2.1⟩
    obtain ⟨x40, x41⟩ := X3
    obtain ⟨y40, y41⟩ := Y3
    clear hc hd Z3 V3 HPW HQW HOX HOY HBZ HR1 HR2 x30 x31 y30 y31
    rcases HCASE.out with rfl | ⟨rfl, rfl, rfl, hs1, hs2, rfl, hs3⟩
    · clear HCASE
      go_wp2_with fail
      refine (orderBegun_any _).mono ?_
      rintro e w7 ⟨rfl, hb7⟩
      obtain ⟨p0, p1⟩ := HPX.out.step hb7
      obtain ⟨z0, z1⟩ := HZX.out.step hb7
      have HQ7 : Hid (Box w7 w2.heap.size 0 none 0 0) := HQX.out.step hb7
      have HV7 : Hid (Box w7 (w3.heap.size + 1) 0 none 0 0) := HVX.out.step hb7
      have HB7 : Hid (Below w.heap.size w w7) := Below.then HB3.out hb7
      clear hb7 HPX HZX HQX HVX HB3 x40 x41 y40 y41
      go_wp2_with fail
      refine (given_any d 0 0 (fun _ => 0) _ _ _ (by unfold maxLen; omega) (.inl ⟨h0, rfl⟩) (.inl (.inl ⟨h0, rfl⟩))).mono ?_
      rintro e w8 ⟨rfl, hb8⟩
      obtain ⟨q0, q1⟩ := HQ7.out.step hb8
      obtain ⟨v0, v1⟩ := HV7.out.step hb8
      have HB8 : Hid (Below w.heap.size w w8) := Below.then HB7.out hb8
      clear hb8 HB7 HQ7 HV7 p0 p1 z0 z1
      go_wp2_with fail
      refine (given_any d 0 0 (fun _ => 0) _ _ _ (by unfold maxLen; omega) (.inl ⟨h0, rfl⟩) (.inl (.inl ⟨h0, rfl⟩))).mono ?_
      rintro e w9 ⟨rfl, hb9⟩
      have HB9 : Hid (Below w.heap.size w w9) := Below.then HB8.out hb9
      clear hb9 HB8 q0 q1 v0 v1
      go_wp2_with fail
      go_ret
      exact ⟨rfl, HB9.out⟩
    · clear HCASE
      have hgt : (10 : Int) < (len1 : Int) + (len2 : Int) := by omega
      go_wp2_with fail
      refine (orderBegun_any _).mono ?_
      rintro e w7 ⟨rfl, hb7⟩
      obtain ⟨p0, p1⟩ := HPX.out.step hb7
      obtain ⟨z0, z1⟩ := HZX.out.step hb7
      have HQ7 : Hid (Box w7 w2.heap.size 0 none 0 0) := HQX.out.step hb7
      have HV7 : Hid (Box w7 (w3.heap.size + 1) 0 none 0 0) := HVX.out.step hb7
      have HB7 : Hid (Below w.heap.size w w7) := Below.then HB3.out hb7
      clear hb7 HPX HZX HQX HVX HB3 x40 x41 y40 y41
      go_wp2_with fail
      refine (given_any 2 0 0 (fun _ => 0) _ _ _ (by unfold maxLen; omega) (.inl ⟨h0, rfl⟩) (.inl (.inl ⟨h0, rfl⟩))).mono ?_
      rintro e w8 ⟨rfl, hb8⟩
      obtain ⟨q0, q1⟩ := HQ7.out.step hb8
      obtain ⟨v0, v1⟩ := HV7.out.step hb8
      have HB8 : Hid (Below w.heap.size w w8) := Below.then HB7.out hb8
      clear hb8 HB7 HQ7 HV7 p0 p1 z0 z1
      go_wp2_with fail
      refine (given_any 2 0 0 (fun _ => 0) _ _ _ (by unfold maxLen; omega) (.inl ⟨h0, rfl⟩) (.inl (.inl ⟨h0, rfl⟩))).mono ?_
      rintro e w9 ⟨rfl, hb9⟩
      have HB9 : Hid (Below w.heap.size w w9) := Below.then HB8.out hb9
      clear hb9 HB8 q0 q1 v0 v1
      go_wp2_with fail
      go_ret
      exact ⟨rfl, HB9.out⟩
end Go.Proofs.Ytnjmelbnamgjcab
