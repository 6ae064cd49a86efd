/-
  What weigh.Four and Curved answer, whatever lists they are handed: the document's W2. No condition but that slices read as slices of numbers.
-/
import Derived.Test.YtoagfjikjdacoaaOfT
import Derived.Test.YtoagfjikjdacoaaWeiM
namespace Go.Proofs.Ytoagfjikjdacoaa
set_option maxRecDepth 100000
open Go.RowKit

/-- Is Four so of two sets? -/
def fouB (f0 f1 f2 f3 : Nat → Nat) (x y : Nat) : Bool := decide (f0 x * f1 y ≤ f2 (x ||| y) * f3 (x &&& y))
theorem fouB_all {n : Nat} {f0 f1 f2 f3 : Nat → Nat} : All2 (pw n) (fouB f0 f1 f2 f3) ↔ FourN n f0 f1 f2 f3 :=
  ⟨fun h x y hx hy => of_decide_eq_true (h x y hx hy), fun h x y hx hy => decide_eq_true (h x y hx hy)⟩
theorem ent_fou : Ent 28 := fun _ _ => by kernel_rfl
theorem mul_wrap {A B : Nat} (hA : A ≤ 1000) (hB : B ≤ 1000) : wrap64 ((A : Int) * (B : Int)) = ((A * B : Nat) : Int) := by
  have h := Nat.mul_le_mul hA hB
  rw [← Int.natCast_mul]
  generalize A * B = m at *
  exact IntWalk.wrap64_in _ ⟨by omega, by omega⟩
/-- A row of weights. -/
def WR (w : World) (b o m : Nat) (f : Nat → Nat) : Prop := ∀ x, x < m → w.cell? ⟨b, o + x, none⟩ = some (.int .i64 (f x : Nat)) ∧ f x ≤ 1000
theorem WR.step {w w' : World} {b o m : Nat} {f : Nat → Nat} (h : WR w b o m f) (hb : Below w.heap.size w w') : WR w' b o m f := fun x hx => ⟨cell_step hb (h x hx).1, (h x hx).2⟩

theorem four1_any (n B0 B1 B2 B3 b0 o0 k0 b1 o1 k1 b2 o2 k2 b3 o3 k3 : Nat) (f0 f1 f2 f3 : Nat → Nat) (w : World) (h6 : n ≤ 6)
    (c0 : w.cell? ⟨B0, 0, none⟩ = some (.slice (some ⟨b0, o0, none⟩) (pw n) k0)) (c1 : w.cell? ⟨B1, 0, none⟩ = some (.slice (some ⟨b1, o1, none⟩) (pw n) k1)) (c2 : w.cell? ⟨B2, 0, none⟩ = some (.slice (some ⟨b2, o2, none⟩) (pw n) k2)) (c3 : w.cell? ⟨B3, 0, none⟩ = some (.slice (some ⟨b3, o3, none⟩) (pw n) k3))
    (r0 : WR w b0 o0 (pw n) f0) (r1 : WR w b1 o1 (pw n) f1) (r2 : WR w b2 o2 (pw n) f2) (r3 : WR w b3 o3 (pw n) f3) :
    Clo2 (pw n) 28 #[.pointer (some ⟨B0, 0, none⟩), .pointer (some ⟨B1, 0, none⟩), .pointer (some ⟨B2, 0, none⟩), .pointer (some ⟨B3, 0, none⟩)] (fouB f0 f1 f2 f3) w := fun x y hx hy W hW => by
  show Calls Try.prog 28 #[.int .i64 (x : Nat), .int .i64 (y : Nat), .pointer (some ⟨B0, 0, none⟩), .pointer (some ⟨B1, 0, none⟩), .pointer (some ⟨B2, 0, none⟩), .pointer (some ⟨B3, 0, none⟩)] W _
  have hpw := pw6 h6
  have hor : x ||| y < pw n := Nat.or_lt_two_pow hx hy
  have hand : x &&& y < pw n := Nat.and_lt_two_pow _ hy
  have e0 := cell_step hW c0
  have e1 := cell_step hW c1
  have e2 := cell_step hW c2
  have e3 := cell_step hW c3
  obtain ⟨d0, s0⟩ := (r0.step hW) x hx
  obtain ⟨d1, s1⟩ := (r1.step hW) y hy
  obtain ⟨d2, s2⟩ := (r2.step hW) _ hor
  obtain ⟨d3, s3⟩ := (r3.step hW) _ hand
  have m1 := mul_wrap s0 s1
  have m2 := mul_wrap s2 s3
  have q1 := i64_or x y (by omega) (by omega)
  have q2 := i64_and x y (by omega) (by omega)
  unfold fouB
  clear hW c0 c1 c2 c3 r0 r1 r2 r3
  have hKK : Hid (Below W.heap.size W W) := Below.refl _ _
  generalize f0 x = A0 at *
  generalize f1 y = A1 at *
  generalize f2 (x ||| y) = A2 at *
  generalize f3 (x &&& y) = A3 at *
  generalize x ||| y = xo at *
  generalize x &&& y = xa at *
  generalize A0 * A1 = P0 at *
  generalize A2 * A3 = P1 at *
  go_enter Try.func28, Try.ntmps28
  go_wp2
  go_big_quiet (fail)
  go_wp2
  go_ret
  exact ⟨ret_bool (by simp), below_drewN hKK.out _⟩

theorem bel_more {w v : World} (h : Below w.heap.size w v) (c : Obj) : Below w.heap.size w (v.alloc c) := h.alloc h.size _
/-- One of four. -/
def sel4 {α : Type} (x0 x1 x2 x3 : α) : Nat → α
  | 0 => x0
  | 1 => x1
  | 2 => x2
  | _ => x3
def nt (f : Nat → Int) (k : Nat) : Nat := (f k).toNat
/-- A list of n points that is good is a row of weights. -/
theorem wr_of {w : World} {a : Option Addr} {m : Nat} {f : Nat → Int} (hr : Row w a m f) (h : ∀ y, y < m → 0 ≤ f y ∧ f y ≤ 1000) (hm : 0 < m) : ∃ b o, a = some ⟨b, o, none⟩ ∧ WR w b o m (nt f) := by
  obtain ⟨b, o, rfl, hc⟩ := hr.at hm
  refine ⟨b, o, rfl, fun x hx => ?_⟩
  have hx2 := h x hx
  have e : f x = ((nt f x : Nat) : Int) := by unfold nt; omega
  exact ⟨by rw [← e]; exact hc x hx, by unfold nt; omega⟩
theorem rr4 {w : World} {a0 a1 a2 a3 : Option Addr} {l0 k0 l1 k1 l2 k2 l3 k3 : Nat} {f0 f1 f2 f3 : Nat → Int} (m0 : l0 ≤ maxLen) (m1 : l1 ≤ maxLen) (m2 : l2 ≤ maxLen) (m3 : l3 ≤ maxLen) (r0 : Row w a0 l0 f0) (r1 : Row w a1 l1 f1) (r2 : Row w a2 l2 f2) (r3 : Row w a3 l3 f3) :
    RR (w.alloc (.cells #[.slice a0 l0 k0, .slice a1 l1 k1, .slice a2 l2 k2, .slice a3 l3 k3] 22)) (some ⟨w.heap.size, 0, none⟩) 4 (sel4 (a0, l0, k0) (a1, l1, k1) (a2, l2, k2) (a3, l3, k3)) (sel4 f0 f1 f2 f3) := fun k hk => by
  have hb : Below w.heap.size w (w.alloc (.cells #[.slice a0 l0 k0, .slice a1 l1 k1, .slice a2 l2 k2, .slice a3 l3 k3] 22)) := (Below.refl _ _).alloc (Nat.le_refl _) _
  rcases (by omega : k = 0 ∨ k = 1 ∨ k = 2 ∨ k = 3) with rfl | rfl | rfl | rfl
  · exact ⟨_, _, rfl, by simp [sel4], m0, r0.below hb⟩
  · exact ⟨_, _, rfl, by simp [sel4], m1, r1.below hb⟩
  · exact ⟨_, _, rfl, by simp [sel4], m2, r2.below hb⟩
  · exact ⟨_, _, rfl, by simp [sel4], m3, r3.below hb⟩
/-- What Four must answer. -/
def FouIs (N : Int) (S : Nat → Option Addr × Nat × Nat) (F : Nat → Nat → Int) (c : Int) (v : Bool) : Prop :=
  WChk N 4 S F c ∧ ((c ≠ 0 ∧ v = false) ∨ (c = 0 ∧ (v = true ↔ FourN N.toNat (nt (F 0)) (nt (F 1)) (nt (F 2)) (nt (F 3)))))
def FouPost (N : Int) (S : Nat → Option Addr × Nat × Nat) (F : Nat → Nat → Int) (e : Ending) : Prop := ∃ c v, e = .returned (.tuple #[.bool v, .int .i64 c]) ∧ FouIs N S F c v

theorem new1 (w : World) (v : Value) : (w.alloc (.cells #[v] 22)).cell? ⟨w.heap.size, 0, none⟩ = some v := by simp
theorem box4 (w : World) (v0 v1 v2 v3 : Value) (W4 : World) (h : (((w.alloc (.cells #[v0] 22)).alloc (.cells #[v1] 22)).alloc (.cells #[v2] 22)).alloc (.cells #[v3] 22) = W4) :
    Below w.heap.size w W4 ∧ W4.cell? ⟨w.heap.size, 0, none⟩ = some v0 ∧ W4.cell? ⟨w.heap.size + 1, 0, none⟩ = some v1 ∧ W4.cell? ⟨w.heap.size + 1 + 1, 0, none⟩ = some v2 ∧ W4.cell? ⟨w.heap.size + 1 + 1 + 1, 0, none⟩ = some v3 := by
  subst h
  have s1 : (w.alloc (.cells #[v0] 22)).heap.size = w.heap.size + 1 := by simp
  have s2 : ((w.alloc (.cells #[v0] 22)).alloc (.cells #[v1] 22)).heap.size = w.heap.size + 1 + 1 := by simp
  have s3 : (((w.alloc (.cells #[v0] 22)).alloc (.cells #[v1] 22)).alloc (.cells #[v2] 22)).heap.size = w.heap.size + 1 + 1 + 1 := by simp
  refine ⟨bel_more (bel_more (bel_more (bel_more (Below.refl _ _) _) _) _) _, ?_, ?_, ?_, ?_⟩
  · exact cell_step (bel_more (bel_more (bel_more (Below.refl _ _) _) _) _) (new1 _ _)
  · rw [← s1]; exact cell_step (bel_more (bel_more (Below.refl _ _) _) _) (new1 _ _)
  · rw [← s2]; exact cell_step (bel_more (Below.refl _ _) _) (new1 _ _)
  · rw [← s3]; exact new1 _ _

set_option maxHeartbeats 2000000 in
theorem four_any (N : Int) (a0 : Option Addr) (l0 k0 : Nat) (f0 : Nat → Int) (a1 : Option Addr) (l1 k1 : Nat) (f1 : Nat → Int) (a2 : Option Addr) (l2 k2 : Nat) (f2 : Nat → Int) (a3 : Option Addr) (l3 k3 : Nat) (f3 : Nat → Int) (w : World)
    (m0 : l0 ≤ maxLen) (m1 : l1 ≤ maxLen) (m2 : l2 ≤ maxLen) (m3 : l3 ≤ maxLen) (r0 : Row w a0 l0 f0) (r1 : Row w a1 l1 f1) (r2 : Row w a2 l2 f2) (r3 : Row w a3 l3 f3) :
    Calls Try.prog 16 #[.int .i64 N, .slice a0 l0 k0, .slice a1 l1 k1, .slice a2 l2 k2, .slice a3 l3 k3] w fun e w' => FouPost N (sel4 (a0, l0, k0) (a1, l1, k1) (a2, l2, k2) (a3, l3, k3)) (sel4 f0 f1 f2 f3) e ∧ Below w.heap.size w w' := by
  have R0 : Hid (Row w a0 l0 f0) := r0; have R1 : Hid (Row w a1 l1 f1) := r1; have R2 : Hid (Row w a2 l2 f2) := r2; have R3 : Hid (Row w a3 l3 f3) := r3
  clear r0 r1 r2 r3
  obtain ⟨S, HS⟩ : ∃ S, Hid (sel4 (a0, l0, k0) (a1, l1, k1) (a2, l2, k2) (a3, l3, k3) = S) := ⟨_, rfl⟩
  obtain ⟨F, HF⟩ : ∃ F, Hid (sel4 f0 f1 f2 f3 = F) := ⟨_, rfl⟩
  rw [HS.out, HF.out]
  go_enter Try.func16, Try.ntmps16
  generalize hC : Code.region 1 _ false = C
  go_wp2_with fail
  generalize hW : (((w.alloc (.cells #[.slice a0 l0 k0] 22)).alloc (.cells #[.slice a1 l1 k1] 22)).alloc (.cells #[.slice a2 l2 k2] 22)).alloc (.cells #[.slice a3 l3 k3] 22) = W4
  obtain ⟨hb4, e0, e1, e2, e3⟩ := box4 w _ _ _ _ W4 hW
  have Q0 := R0.out.below hb4; have Q1 := R1.out.below hb4; have Q2 := R2.out.below hb4; have Q3 := R3.out.below hb4
  have HR : Hid (RR (W4.alloc (.cells #[.slice a0 l0 k0, .slice a1 l1 k1, .slice a2 l2 k2, .slice a3 l3 k3] 22)) (some ⟨W4.heap.size, 0, none⟩) 4 (sel4 (a0, l0, k0) (a1, l1, k1) (a2, l2, k2) (a3, l3, k3)) (sel4 f0 f1 f2 f3)) := rr4 m0 m1 m2 m3 Q0 Q1 Q2 Q3
  rw [HS.out, HF.out] at HR
  have HBn : Hid (Below W4.heap.size W4 (W4.alloc (.cells #[.slice a0 l0 k0, .slice a1 l1 k1, .slice a2 l2 k2, .slice a3 l3 k3] 22))) := bel_more (Below.refl _ _) _
  have HB4 : Hid (Below w.heap.size w W4) := hb4
  have H0 : Hid (Row W4 a0 l0 f0) := Q0; have H1 : Hid (Row W4 a1 l1 f1) := Q1; have H2 : Hid (Row W4 a2 l2 f2) := Q2; have H3 : Hid (Row W4 a3 l3 f3) := Q3
  clear R0 R1 R2 R3 Q0 Q1 Q2 Q3 hb4 hW
  generalize hn0 : w.heap.size = B0 at *
  rw [← hC]
  clear hC C
  go_wp2_with fail
  refine (wCheck_any N _ 4 4 _ _ _ (by unfold maxLen; omega) HR.out).mono ?_
  rintro e w' ⟨⟨c, rfl, hc⟩, rfl⟩
  generalize W4.alloc (.cells #[.slice a0 l0 k0, .slice a1 l1 k1, .slice a2 l2 k2, .slice a3 l3 k3] 22) = W5 at *
  clear HR
  have d0 := cell_step HBn.out e0; have d1 := cell_step HBn.out e1; have d2 := cell_step HBn.out e2; have d3 := cell_step HBn.out e3
  have HB5 : Hid (Below w.heap.size w W5) := Below.then (by rw [hn0]; exact HB4.out) HBn.out
  have G0 : Hid (Row W5 a0 l0 f0) := H0.out.below HBn.out; have G1 : Hid (Row W5 a1 l1 f1) := H1.out.below HBn.out; have G2 : Hid (Row W5 a2 l2 f2) := H2.out.below HBn.out; have G3 : Hid (Row W5 a3 l3 f3) := H3.out.below HBn.out
  clear H0 H1 H2 H3 e0 e1 e2 e3 HB4 HBn
  by_cases h0 : c = 0
  · subst h0
    obtain ⟨n, rfl, hn6, hfr, hin⟩ := hc.good
    have q0 : l0 = pw n := by have := hfr 0 (by omega); rw [← HS.out] at this; exact this
    have q1 : l1 = pw n := by have := hfr 1 (by omega); rw [← HS.out] at this; exact this
    have q2 : l2 = pw n := by have := hfr 2 (by omega); rw [← HS.out] at this; exact this
    have q3 : l3 = pw n := by have := hfr 3 (by omega); rw [← HS.out] at this; exact this
    have i0 : ∀ y, y < l0 → 0 ≤ f0 y ∧ f0 y ≤ 1000 := by have := hin 0 (by omega); rw [← HS.out, ← HF.out] at this; exact this
    have i1 : ∀ y, y < l1 → 0 ≤ f1 y ∧ f1 y ≤ 1000 := by have := hin 1 (by omega); rw [← HS.out, ← HF.out] at this; exact this
    have i2 : ∀ y, y < l2 → 0 ≤ f2 y ∧ f2 y ≤ 1000 := by have := hin 2 (by omega); rw [← HS.out, ← HF.out] at this; exact this
    have i3 : ∀ y, y < l3 → 0 ≤ f3 y ∧ f3 y ≤ 1000 := by have := hin 3 (by omega); rw [← HS.out, ← HF.out] at this; exact this
    have HC : Hid (WChk n 4 S F 0) := hc
    have hpos := pw_pos n
    subst q0
    rw [q1] at d1 G1 i1
    rw [q2] at d2 G2 i2
    rw [q3] at d3 G3 i3
    obtain ⟨b0, o0, rfl, w0⟩ := wr_of G0.out i0 hpos
    obtain ⟨b1, o1, rfl, w1⟩ := wr_of G1.out i1 hpos
    obtain ⟨b2, o2, rfl, w2⟩ := wr_of G2.out i2 hpos
    obtain ⟨b3, o3, rfl, w3⟩ := wr_of G3.out i3 hpos
    have HQ := (show Hid (Clo2 _ _ _ _ _) from four1_any n B0 (B0 + 1) (B0 + 1 + 1) (B0 + 1 + 1 + 1) b0 o0 k0 b1 o1 k1 b2 o2 k2 b3 o3 k3 _ _ _ _ W5 hn6 d0 d1 d2 d3 w0 w1 w2 w3)
    clear hfr hin hc i0 i1 i2 i3 hpos w0 w1 w2 w3 G0 G1 G2 G3
    go_wp2_with fail
    refine (ofEachTwo_any n 28 _ _ _ hn6 ent_fou HQ.out).mono ?_
    rintro e w2 ⟨⟨v, rfl, hv⟩, hb2⟩
    have HB6 : Hid (Below w.heap.size w w2) := Below.then HB5.out hb2
    have HV : Hid (v = true ↔ FourN (n : Int).toNat (nt (F 0)) (nt (F 1)) (nt (F 2)) (nt (F 3))) := by rw [← HF.out]; exact hv.trans fouB_all
    clear hb2 hv HB5 HQ
    go_wp2_with fail
    go_ret2
    exact ⟨⟨_, _, rfl, HC.out, .inr ⟨rfl, HV.out⟩⟩, HB6.out⟩
  · have hne : (c != 0) = true := by simpa using h0
    have HC : Hid (WChk N 4 S F c) := hc
    have H0 : Hid (c ≠ 0) := h0
    clear hc h0
    go_wp2_with fail
    go_ret2
    exact ⟨⟨_, _, rfl, HC.out, .inl ⟨H0.out, rfl⟩⟩, HB5.out⟩
theorem curved_any (N : Int) (a : Option Addr) (l k : Nat) (f : Nat → Int) (w : World) (m : l ≤ maxLen) (r : Row w a l f) :
    Calls Try.prog 14 #[.int .i64 N, .slice a l k] w fun e w' => FouPost N (sel4 (a, l, k) (a, l, k) (a, l, k) (a, l, k)) (sel4 f f f f) e ∧ Below w.heap.size w w' := by
  have R : Hid (Row w a l f) := r
  clear r
  go_enter Try.func14, Try.ntmps14
  go_wp2_with fail
  refine (four_any N a l k f a l k f a l k f a l k f w m m m m R.out R.out R.out R.out).mono ?_
  rintro e w1 ⟨⟨c, v, rfl, hc⟩, hb⟩
  have HC : Hid (FouIs N (sel4 (a, l, k) (a, l, k) (a, l, k) (a, l, k)) (sel4 f f f f) c v) := hc
  have HB : Hid (Below w.heap.size w w1) := hb
  clear hc hb
  go_wp2_with fail
  go_ret2
  exact ⟨⟨_, _, rfl, HC.out⟩, HB.out⟩
end Go.Proofs.Ytoagfjikjdacoaa
