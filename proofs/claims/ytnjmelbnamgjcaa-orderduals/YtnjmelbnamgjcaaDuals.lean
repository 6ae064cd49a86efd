/-
  What order.Dual and the reference's Dual answer; hasselaw.OrderDuals returns true for every order. No condition but that a slice reads as a slice of numbers.
-/
import Derived.Test.YtnjmelbnamgjcaaEnds
import Derived.Test.YtnjmelbnamgjcaaOfDual
import Derived.Test.YtnjmelbnamgjcaaGiven
namespace Go.Proofs.Ytnjmelbnamgjcaa
open Go.RowKit

theorem k3_step {w0 w1 w2 : World} {n : Int} {a : Option Addr} {len cap : Nat}
    (h : w1.cell? ⟨w0.heap.size, 0, none⟩ = some (.int .i64 n) ∧ w1.cell? ⟨w0.heap.size, 1, none⟩ = some (.slice a len cap) ∧ Below w0.heap.size w0 w1)
    (hb : Below w1.heap.size w1 w2) :
    w2.cell? ⟨w0.heap.size, 0, none⟩ = some (.int .i64 n) ∧ w2.cell? ⟨w0.heap.size, 1, none⟩ = some (.slice a len cap) ∧ Below w0.heap.size w0 w2 :=
  ⟨(hb.cell (World.block_lt_of_cell? _ _ h.1)).trans h.1, (hb.cell (World.block_lt_of_cell? _ _ h.2.1)).trans h.2.1, Below.then h.2.2 hb⟩
theorem k3_below {w0 w1 : World} {n : Int} {a : Option Addr} {len cap : Nat}
    (h : w1.cell? ⟨w0.heap.size, 0, none⟩ = some (.int .i64 n) ∧ w1.cell? ⟨w0.heap.size, 1, none⟩ = some (.slice a len cap) ∧ Below w0.heap.size w0 w1) : Below w0.heap.size w0 w1 := h.2.2
theorem k3_set2 {w0 w1 : World} {n : Int} {a : Option Addr} {len cap : Nat} {u v : Value}
    (h : w1.cell? ⟨w0.heap.size, 0, none⟩ = some (.int .i64 n) ∧ w1.cell? ⟨w0.heap.size, 1, none⟩ = some (.slice a len cap) ∧ Below w0.heap.size w0 w1) :
    ((w1.setCell ⟨w0.heap.size + 1, 0, none⟩ u).setCell ⟨w0.heap.size + 1, 1, none⟩ v).cell? ⟨w0.heap.size, 0, none⟩ = some (.int .i64 n) ∧ ((w1.setCell ⟨w0.heap.size + 1, 0, none⟩ u).setCell ⟨w0.heap.size + 1, 1, none⟩ v).cell? ⟨w0.heap.size, 1, none⟩ = some (.slice a len cap) ∧ Below w0.heap.size w0 ((w1.setCell ⟨w0.heap.size + 1, 0, none⟩ u).setCell ⟨w0.heap.size + 1, 1, none⟩ v) := by
  refine ⟨?_, ?_, set2B h.2.2 (by omega)⟩
  · rw [World.cell?_setCell_other _ _ _ _ (fun e => by injection e with e1; omega), World.cell?_setCell_other _ _ _ _ (fun e => by injection e with e1; omega)]; exact h.1
  · rw [World.cell?_setCell_other _ _ _ _ (fun e => by injection e with e1; omega), World.cell?_setCell_other _ _ _ _ (fun e => by injection e with e1; omega)]; exact h.2.1
theorem dual1_any (x y : Nat) (a : Option Addr) (len cap b0 : Nat) (g : Nat → Nat) (w : World) (h10 : len ≤ 10) (hg : ∀ k, k < len → g k < 1024) (hx : x < len) (hy : y < len)
    (hH : Held w b0 len a len cap (fun k => (g k : Nat))) :
    Calls Try.prog 36 #[.int .i64 x, .int .i64 y, .pointer (some ⟨b0, 0, none⟩)] w fun e w' => e = .returned (.bool ((g x).testBit y)) ∧ Below w.heap.size w w' := by
  have c0 := hH.c0
  have c1 := hH.c1
  go_enter Try.func36, Try.ntmps36
  go_wp2_with fail
  refine (less_any len a len cap g y x _ h10 hg hH.row (by omega) hx).mono ?_
  rintro e w1 ⟨rfl, hb1⟩
  have HB1 : Hid (Below w.heap.size w w1) := hb1
  clear hb1
  go_wp2_with fail
  go_ret
  exact ⟨rfl, HB1.out⟩

theorem refDual_any (a : Option Addr) (len cap : Nat) (g : Nat → Nat) (w : World) (h10 : len ≤ 10) (hg : ∀ k, k < len → g k < 1024) (hr : Row w a len (fun k => (g k : Nat))) :
    Calls Try.prog 20 #[.agg #[.int .i64 (len : Int), .slice a len cap]] w fun e w' => OrderPost w len (trn g len) e w' ∧ Below w.heap.size w w' := by
  have HH : Hid (Held ((w.alloc (.cells #[.int .i64 (len : Int), .slice a len cap] 24)).alloc (.cells #[.int .i64 0, .slice none 0 0] 24)) w.heap.size len a len cap (fun k => (g k : Nat))) := (Held.box hr).step ((Below.refl _ _).alloc (Nat.le_refl _) _)
  have HB : Hid (Below w.heap.size w ((w.alloc (.cells #[.int .i64 (len : Int), .slice a len cap] 24)).alloc (.cells #[.int .i64 0, .slice none 0 0] 24))) := ((Below.refl _ _).alloc (Nat.le_refl _) _).alloc (by simp) _
  have HZ : Hid (ZBox ((w.alloc (.cells #[.int .i64 (len : Int), .slice a len cap] 24)).alloc (.cells #[.int .i64 0, .slice none 0 0] 24)) (w.heap.size + 1)) := by have := ZBox.new (w.alloc (.cells #[.int .i64 (len : Int), .slice a len cap] 24)); rw [World.size_alloc] at this; exact this
  have HG : Hid (∀ k, k < len → g k < 1024) := hg
  clear hg hr
  go_enter Try.func20, Try.ntmps20
  go_wp2_with fail
  refine (orderOf_dual len w.heap.size (fun x y => (g x).testBit y) _ h10 (fun x y wx hx hy hb => dual1_any x y a len cap w.heap.size g wx h10 HG.out hx hy (HH.out.step hb))).mono ?_
  rintro e w1 ⟨⟨a', cap', rfl, hrow, hfr⟩, hb⟩
  obtain ⟨r0, r1, r2, r3⟩ := HZ.out.step hb
  have HB1 : Hid (Below w.heap.size w w1) := Below.then HB.out hb
  have HR1 : Hid (Row w1 a' len (fun k => (trn g len k : Nat))) := hrow
  have HF1 : Hid (Fresh (w.heap.size + 1 + 1) a' len) := (by simpa using hfr : Fresh (w.heap.size + 1 + 1) a' len)
  clear hb hrow hfr HZ HB HH HG
  go_wp2_with fail
  exact bodyPost_ret (v := .agg #[.int .i64 (len : Int), .slice a' len cap']) (by simp [results, Try.results20, go_sem, r0, r1]) rfl ⟨⟨a', cap', rfl, row_set2 HR1.out HF1.out, HF1.out.mono (by omega)⟩, set2B HB1.out (by omega)⟩

def DualPost (n : Int) (len : Nat) (f : Nat → Int) (e : Ending) (w' : World) : Prop :=
  ∃ (c : Int) (x : Value), Chk n len f c ∧ e = .returned (.tuple #[x, .int .i64 c]) ∧ OrdErr c (len : Int) len (fun k => (trn (nat f) len k : Nat)) x w'

theorem dual_any (n : Int) (a : Option Addr) (len cap : Nat) (f : Nat → Int) (w : World) (hl : len ≤ maxLen) (hr : Row w a len f) :
    Calls Try.prog 19 #[.agg #[.int .i64 n, .slice a len cap]] w fun e w' => DualPost n len f e w' ∧ Below w.heap.size w w' := by
  have HH : Hid (Held ((w.alloc (.cells #[.int .i64 n, .slice a len cap] 24)).alloc (.cells #[.int .i64 0, .slice none 0 0] 24)) w.heap.size n a len cap f) := (Held.box hr).step ((Below.refl _ _).alloc (Nat.le_refl _) _)
  have HB : Hid (Below w.heap.size w ((w.alloc (.cells #[.int .i64 n, .slice a len cap] 24)).alloc (.cells #[.int .i64 0, .slice none 0 0] 24))) := ((Below.refl _ _).alloc (Nat.le_refl _) _).alloc (by simp) _
  have HZ : Hid (ZBox ((w.alloc (.cells #[.int .i64 n, .slice a len cap] 24)).alloc (.cells #[.int .i64 0, .slice none 0 0] 24)) (w.heap.size + 1)) := by have := ZBox.new (w.alloc (.cells #[.int .i64 n, .slice a len cap] 24)); rw [World.size_alloc] at this; exact this
  have HR : Hid (Row w a len f) := hr
  clear hr
  go_enter Try.func19, Try.ntmps19
  go_wp2_with fail
  refine (check_any n a len cap f _ hl HH.out.row).mono ?_
  rintro e w1 ⟨⟨c, rfl, hc⟩, hb⟩
  have K1 := HH.out.step hb
  have Z1 := HZ.out.step hb
  have HB1 : Hid (Below w.heap.size w w1) := Below.then HB.out hb
  clear hb HH HB HZ
  by_cases h0 : c = 0
  · subst h0
    obtain ⟨rfl, h10, hrng, _⟩ := hc.good
    have KK : w1.drew.cell? ⟨w.heap.size, 0, none⟩ = some (.int .i64 (len : Int)) ∧ w1.drew.cell? ⟨w.heap.size, 1, none⟩ = some (.slice a len cap) ∧ Below w.heap.size w w1.drew := ⟨K1.c0, K1.c1, HB1.out.drew⟩
    have HRW : Hid (Row w a len (fun k => (nat f k : Nat))) := hrng.row HR.out
    have HC : Hid (Chk (len : Int) len f 0) := hc
    have HG : Hid (∀ k, k < len → nat f k < 1024) := hrng.small2 h10
    have HZ1 : Hid (ZBox w1.drew (w.heap.size + 1)) := Z1
    have hsz : w.heap.size + 1 < w1.heap.size := World.block_lt_of_cell? _ _ Z1.1
    clear K1 HB1 hc hrng Z1
    go_wp2_with fail
    go_region_held3 (fun w' => w'.cell? ⟨w.heap.size, 0, none⟩ = some (.int .i64 (len : Int)) ∧ w'.cell? ⟨w.heap.size, 1, none⟩ = some (.slice a len cap) ∧ Below w.heap.size w w')
      (first | exact KK | assumption | exact k3_step (by assumption) (by assumption) | exact k3_set2 (by assumption))
      (first
        | (go_at_call 32; refine (turn_any len (nat f) a cap _ h10 HG.out (HRW.out.below (k3_below (n := (len : Int)) (a := a) (len := len) (cap := cap) (by assumption)))).mono ?_; rintro e w' ⟨rfl, ho, hb⟩; obtain ⟨r0, r1, r2, r3⟩ := HZ1.out.step hb))
    all_goals go_wp2
    refine bodyPost_ret (v := .tuple #[.agg #[.int .i64 (len : Int), .slice (some ⟨w1.heap.size, 0, none⟩) len len], .int .i64 0]) ?_ rfl ⟨⟨0, _, HC.out, rfl, .inr ⟨rfl, _, _, rfl, ?_⟩⟩, ?_⟩
    · simp [results, Try.results19, go_sem, r0, r1]
    · exact row_set2 (Own.row ho) (fun _ => ⟨_, _, rfl, hsz⟩)
    · exact k3_below (n := (len : Int)) (a := a) (len := len) (cap := cap) (by assumption)
  · have hne : (c != 0) = true := by simpa using h0
    obtain ⟨r0, r1, r2, r3⟩ := Z1
    have HC : Hid (Chk n len f c) := hc
    clear hc
    go_wp2_with fail
    exact bodyPost_ret (v := .tuple #[noOrder, .int .i64 c]) (by simp [results, Try.results19, go_sem, noOrder, r0, r1]) rfl ⟨⟨c, _, HC.out, rfl, .inl ⟨h0, rfl⟩⟩, set2B HB1.out (by omega)⟩

/-- A box at block B holds an order. -/
def Box (X : World) (B : Nat) (n : Int) (a : Option Addr) (len cap : Nat) : Prop := X.cell? ⟨B, 0, none⟩ = some (.int .i64 n) ∧ X.cell? ⟨B, 1, none⟩ = some (.slice a len cap)
theorem Box.step {X X' : World} {B : Nat} {n : Int} {a : Option Addr} {len cap : Nat} (h : Box X B n a len cap) (hb : Below X.heap.size X X') : Box X' B n a len cap :=
  ⟨(hb.cell (World.block_lt_of_cell? _ _ h.1)).trans h.1, (hb.cell (World.block_lt_of_cell? _ _ h.2)).trans h.2⟩
theorem Box.new (w : World) (n : Int) (a : Option Addr) (len cap : Nat) : Box (w.alloc (.cells #[.int .i64 n, .slice a len cap] 24)) w.heap.size n a len cap := ⟨by simp, by simp⟩
theorem Box.lt {X : World} {B : Nat} {n : Int} {a : Option Addr} {len cap : Nat} (h : Box X B n a len cap) : B < X.heap.size := World.block_lt_of_cell? _ _ h.1
theorem Box.set2 {X : World} {B : Nat} {n : Int} {a : Option Addr} {len cap : Nat} (h : ZBox X B) : Box ((X.setCell ⟨B, 0, none⟩ (.int .i64 n)).setCell ⟨B, 1, none⟩ (.slice a len cap)) B n a len cap :=
  ⟨by rw [World.cell?_setCell_other _ _ _ _ (fun e => by injection e with _ e2; cases e2)]; exact World.cell?_setCell_same _ _ _ h.1,
   World.cell?_setCell_same _ _ _ (by rw [World.cell?_setCell_other _ _ _ _ (fun e => by injection e with _ e2; cases e2)]; exact h.2.1)⟩
theorem Held.toBox {w : World} {b0 : Nat} {n : Int} {a : Option Addr} {len cap : Nat} {f : Nat → Int} (h : Held w b0 n a len cap f) : Box w b0 n a len cap := ⟨h.1, h.2.1⟩

set_option maxHeartbeats 1000000 in
theorem orderDuals_any (n : Int) (a : Option Addr) (len cap : Nat) (f : Nat → Int) (w : World) (hl : len ≤ maxLen) (hr : Row w a len f) :
    Calls Try.prog 7 #[.agg #[.int .i64 n, .slice a len cap]] w fun e w' => e = .returned (.bool true) ∧ Below w.heap.size w w' := by
  have K0 : Held (w.alloc (.cells #[.int .i64 n, .slice a len cap] 24)) w.heap.size n a len cap f := Held.box hr
  have HB0 : Hid (Below w.heap.size w (w.alloc (.cells #[.int .i64 n, .slice a len cap] 24))) := (Below.refl _ _).alloc (Nat.le_refl _) _
  clear hr
  go_enter Try.func7, Try.ntmps7
  go_wp2_with fail
  refine (dual_any n a len cap f _ hl K0.row).mono ?_
  rintro e w1 ⟨⟨c, x, hc, rfl, hx⟩, hb⟩
  have K1 := K0.step hb
  have HB1 : Hid (Below w.heap.size w w1) := Below.then HB0.out hb
  clear hb K0 HB0
  have hl1 : w.heap.size < w1.heap.size := World.block_lt_of_cell? _ _ K1.1
  by_cases h0 : c = 0
  · subst h0
    obtain ⟨rfl, h10, hrng, _⟩ := hc.good
    rcases hx with ⟨h, _⟩ | ⟨_, a', cap', rfl, hrow⟩
    · exact absurd rfl h
    have K3 := K1.step ((Below.refl _ _).alloc (Nat.le_refl _) (.cells #[.int .i64 (len : Int), .slice a' len cap'] 24))
    have X3 := Box.new w1 (len : Int) a' len cap'
    have R3 := hrow.below ((Below.refl _ _).alloc (Nat.le_refl _) (.cells #[.int .i64 (len : Int), .slice a' len cap'] 24))
    have HB3 : Hid (Below w.heap.size w (w1.alloc (.cells #[.int .i64 (len : Int), .slice a' len cap'] 24))) := HB1.out.alloc (by omega) _
    have k0 := K1.c0
    have k1 := K1.c1
    clear hrow HB1
    go_wp2_with fail
    refine (checkOrder_any len a len cap f _ hl K3.row).mono ?_
    rintro e w2 ⟨⟨c', rfl, hc'⟩, hb2⟩
    obtain rfl := Chk.unique hc' hc
    have K4 := (K3.step hb2).step ((Below.refl _ _).alloc (Nat.le_refl _) (.cells #[.int .i64 0, .slice none 0 0] 24))
    have X4 := (X3.step hb2).step ((Below.refl _ _).alloc (Nat.le_refl _) (.cells #[.int .i64 0, .slice none 0 0] 24))
    have R4 := (R3.below hb2).below ((Below.refl _ _).alloc (Nat.le_refl _) (.cells #[.int .i64 0, .slice none 0 0] 24))
    have k0' := (K3.step hb2).c0
    have k1' := (K3.step hb2).c1
    have Z4 := ZBox.new w2
    have X2 := X3.step hb2
    have R2 := R3.below hb2
    have hl2 : w1.heap.size < w2.heap.size := (X3.step hb2).lt
    have hl3 : w.heap.size < w2.heap.size := by omega
    have HB4 : Hid (Below w.heap.size w (w2.alloc (.cells #[.int .i64 0, .slice none 0 0] 24))) := (Below.then HB3.out hb2).alloc (by omega) _
    clear hb2 hc hc' K3 X3 R3 HB3 K1 k0 k1
    go_wp2_with fail
    refine (refDual_any a len cap (nat f) _ h10 (hrng.small2 h10) (hrng.row K4.row)).mono ?_
    rintro e w5 ⟨⟨a5, cap5, rfl, hrow5, hfr5⟩, hb5⟩
    obtain ⟨z0, z1, z2, z3⟩ := Z4.step hb5
    obtain ⟨W6, HW6⟩ : ∃ W6, Hid (W6 = (w5.setCell ⟨w2.heap.size, 0, none⟩ (.int .i64 (len : Int))).setCell ⟨w2.heap.size, 1, none⟩ (.slice a5 len cap5)) := ⟨_, rfl⟩
    have hb6 : Below w2.heap.size w2 W6 := by
      rw [HW6.out]; exact set2B (Below.then ((Below.refl _ _).alloc (Nat.le_refl _) _) hb5) (Nat.le_refl _)
    have hr5 : Row W6 a5 len (fun k => (trn (nat f) len k : Nat)) := by
      rw [HW6.out]; exact row_set2 hrow5 (by simpa using hfr5)
    have hbx5 : Box W6 w2.heap.size len a5 len cap5 := by rw [HW6.out]; exact Box.set2 (Z4.step hb5)
    have HB6 : Hid (Below w.heap.size w W6) := by
      rw [HW6.out]; exact set2B (Below.then HB4.out hb5) (by omega)
    have hx6 : Box W6 w1.heap.size len a' len cap' := by
      refine ((Box.step (X := w2) (X' := W6) ?_ hb6))
      exact X2
    have hr6 : Row W6 a' len (fun k => (trn (nat f) len k : Nat)) := R2.below hb6
    clear hb6 hb5 K4 X4 R4 HB4 Z4 hrow5 hfr5 X2 R2
    go_wp2_with fail
    rw [← HW6.out]
    refine (orderBegun_any _).mono ?_
    rintro e w7 ⟨rfl, hb7⟩
    have HB7 : Hid (Below w.heap.size w w7) := Below.then HB6.out hb7
    obtain ⟨x0, x1⟩ := hx6.step hb7
    obtain ⟨y0, y1⟩ := hbx5.step hb7
    have R7 := hr6.below hb7
    have S7 := hr5.below hb7
    clear hb7 HB6 hx6 hbx5 hr6 hr5 HW6 z0 z1 z2 z3 k0' k1'
    go_wp2_with fail
    refine (given_any 0 (len : Int) len (fun k => (trn (nat f) len k : Nat)) _ _ _ hl (.inr ⟨rfl, _, _, rfl, R7⟩) (.inl (.inr ⟨rfl, _, _, rfl, S7⟩))).mono ?_
    rintro e w8 ⟨rfl, hb8⟩
    have HB8 : Hid (Below w.heap.size w w8) := Below.then HB7.out hb8
    clear hb8 HB7
    go_wp2_with fail
    go_ret
    exact ⟨rfl, HB8.out⟩
  · have hne : (c == 0) = false := by simpa using h0
    rcases hx with ⟨_, rfl⟩ | ⟨h, _⟩
    · unfold noOrder
      have K3 := K1.step ((Below.refl _ _).alloc (Nat.le_refl _) (.cells #[.int .i64 0, .slice none 0 0] 24))
      have X3 := Box.new w1 0 none 0 0
      have HB3 : Hid (Below w.heap.size w (w1.alloc (.cells #[.int .i64 0, .slice none 0 0] 24))) := HB1.out.alloc (by omega) _
      have k0 := K1.c0
      have k1 := K1.c1
      clear HB1
      go_wp2_with fail
      refine (checkOrder_any n a len cap f _ hl K3.row).mono ?_
      rintro e w2 ⟨⟨c', rfl, hc'⟩, hb2⟩
      obtain rfl := Chk.unique hc' hc
      have X4 := (X3.step hb2).step ((Below.refl _ _).alloc (Nat.le_refl _) (.cells #[.int .i64 0, .slice none 0 0] 24))
      have Y4 := Box.new w2 0 none 0 0
      have hl2 : w1.heap.size < w2.heap.size := (X3.step hb2).lt
      have HB4 : Hid (Below w.heap.size w (w2.alloc (.cells #[.int .i64 0, .slice none 0 0] 24))) := (Below.then HB3.out hb2).alloc (by omega) _
      clear hb2 hc hc' K3 X3 HB3 K1 k0 k1
      go_wp2_with fail
      refine (orderBegun_any _).mono ?_
      rintro e w7 ⟨rfl, hb7⟩
      have HB7 : Hid (Below w.heap.size w w7) := Below.then HB4.out hb7
      obtain ⟨x0, x1⟩ := X4.step hb7
      obtain ⟨y0, y1⟩ := Y4.step hb7
      clear hb7 HB4 X4 Y4
      go_wp2_with fail
      refine (given_any c' 0 0 (fun _ => 0) _ _ _ (by unfold maxLen; omega) (.inl ⟨h0, rfl⟩) (.inl (.inl ⟨h0, rfl⟩))).mono ?_
      rintro e w8 ⟨rfl, hb8⟩
      have HB8 : Hid (Below w.heap.size w w8) := Below.then HB7.out hb8
      clear hb8 HB7
      go_wp2_with fail
      go_ret
      exact ⟨rfl, HB8.out⟩
    · exact absurd h h0
end Go.Proofs.Ytnjmelbnamgjcaa
