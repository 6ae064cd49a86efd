/-
  hasselaw.GaloisMeets returns true for every two lattices and list. No condition but that slices read as slices of rows and of numbers.
-/
import Derived.Test.YtfbgcadlahiljaaGalL3
namespace Go.Proofs.Ytfbgcadlahiljaa
open Go.RowKit

theorem bne_no {a b : Nat} (h : a = b) : (((a : Nat) : Int) != ((b : Nat) : Int)) = false := by rw [h]; simp
set_option maxHeartbeats 8000000 in
theorem galoisMeets_all (A B : LA) (f : MA) (w : World) (hA : A.In w) (hB : B.In w) (hf : f.In w) :
    Calls Try.prog 7 #[A.v, B.v, f.v] w fun e w' => e = .returned (.bool true) ∧ Below w.heap.size w w' := by
  have HB1 : Hid (Below w.heap.size w (two w A B)) := two_below w A B
  have hG := GS.new hA hB hf
  have eW : Hid (two w A B = (w.alloc (.cells #[.int .i64 A.n, .slice A.a A.la A.ca, .slice A.b A.lb A.cb] 24)).alloc (.cells #[.int .i64 B.n, .slice B.a B.la B.ca, .slice B.b B.lb B.cb] 24)) := rfl
  generalize two w A B = W at *
  obtain ⟨X, hX⟩ : ∃ X, X = A := ⟨_, rfl⟩
  obtain ⟨Y, hY⟩ : ∃ Y, Y = B := ⟨_, rfl⟩
  obtain ⟨Z, hZ⟩ : ∃ Z, Z = f := ⟨_, rfl⟩
  have HG : Hid (GS X Y Z w.heap.size W) := by rw [hX, hY, hZ]; exact hG
  clear hG
  have Cback : Hid (∀ wx, GS X Y Z w.heap.size wx → Calls Try.prog 14 #[X.v, Y.v, Z.v] wx fun e w' => BPost X Y Z e w' ∧ Below wx.heap.size wx w') := fun wx h => back_any X Y Z wx h.ia h.ib h.fi
  have HE : Hid (X = A ∧ Y = B ∧ Z = f) := ⟨hX, hY, hZ⟩
  have HV : Hid (X.v = A.v ∧ Y.v = B.v ∧ Z.v = f.v) := by rw [hX, hY, hZ]; exact ⟨rfl, rfl, rfl⟩
  have HX : Hid (∀ wx, GS X Y Z w.heap.size wx → A.Bx wx w.heap.size ∧ B.Bx wx (w.heap.size + 1)) := fun wx h => by
    have h1 := h.xa
    have h2 := h.xb
    rw [hX] at h1
    rw [hY] at h2
    exact ⟨h1, h2⟩
  rw [HV.out.1, HV.out.2.1, HV.out.2.2] at Cback
  clear hX hY hZ hA hB hf HV
  obtain ⟨n, a, la, ca, SA, FA, b, lb, cb, SB, FB⟩ := A
  obtain ⟨n', a', la', ca', SA', FA', b', lb', cb', SB', FB'⟩ := B
  obtain ⟨fa, fl, fc, F⟩ := f
  simp only [LA.v, MA.v, LA.Bx] at *
  obtain ⟨⟨l0, l1, l2⟩, k0, k1, k2⟩ := HX.out _ HG.out
  go_enter Try.func7, Try.ntmps7
  go_wp2_with fail
  rw [← eW.out]
  go_wp2_with fail
  clear eW
  refine (galoisBegun_any _).mono ?_
  rintro e w0 ⟨rfl, hb0⟩
  have HB0 : Hid (Below w.heap.size w w0) := Below.then HB1.out hb0
  have HG0 : Hid (GS X Y Z w.heap.size w0) := HG.out.step hb0
  clear hb0 HG HB1 l0 l1 l2 k0 k1 k2
  obtain ⟨⟨l0, l1, l2⟩, k0, k1, k2⟩ := HX.out _ HG0.out
  go_wp2_with fail
  refine (Cback.out _ HG0.out).mono ?_
  rintro e w2 ⟨⟨c, gv, ok, hc, rfl, hg⟩, hb2⟩
  have HB3 : Hid (Below w.heap.size w w2) := Below.then HB0.out hb2
  have HG2 : Hid (GS X Y Z w.heap.size w2) := HG0.out.step hb2
  have HC : Hid (GCk X Y Z c) := hc
  clear hb2 HG0 HB0 l0 l1 l2 k0 k1 k2 hc Cback
  rcases hg with ⟨h0, rfl, rfl⟩ | ⟨rfl, hg2⟩
  · have hne : (c != 0) = true := by simpa using h0
    go_wp2_with fail
    go_ret
    exact ⟨rfl, HB3.out⟩
  · rcases hg2 with ⟨rfl, rfl, hk⟩ | ⟨rfl, hk, hs⟩
    · clear hk
      go_wp2_with fail
      go_ret
      exact ⟨rfl, HB3.out⟩
    · obtain ⟨q, b1, o1, b2, o2, q', b1', o1', b2', o2', fb, fo, eA, eB, eF, h1, h40, h1', h40', eq, eq', ht1, ht1', hr⟩ := HG2.out.open HC.out
      obtain ⟨hEX, hEY, hEZ⟩ := HE.out
      rw [eA] at hEX
      rw [eB] at hEY
      rw [eF] at hEZ
      simp only [LA.mk.injEq] at hEX hEY
      simp only [MA.mk.injEq] at hEZ
      obtain ⟨rfl, rfl, rfl, _, _, _, rfl, rfl, _, _, _⟩ := hEX
      obtain ⟨rfl, rfl, rfl, _, _, _, rfl, rfl, _, _, _⟩ := hEY
      obtain ⟨rfl, rfl, _, _⟩ := hEZ
      have gg := HC.out.gg.1
      obtain ⟨gb, go, gc, rfl, hgc⟩ := hs.cells (by rw [bkL_len]; omega)
      rw [bkL_len, ← eq'] at hgc
      rw [bkL_len, ← eq']
      obtain ⟨g, Hg⟩ : ∃ g, Hid (g = bk X.q X.m X.j Y.m Z.f) := ⟨_, rfl⟩
      have HGL : Hid (∀ y, g y < q) := fun y => by rw [Hg.out, eq]; exact bk_lt gg.la gg.a1 y
      have HFL : Hid (Mp q q' Z.f) := by rw [eq, eq']; exact gg.mp
      obtain ⟨W4, eW4⟩ : ∃ W4, W4 = w2 := ⟨_, rfl⟩
      rw [← eW4] at hgc ht1 ht1' hr
      have HGC : Hid (∀ wx, Below W4.heap.size W4 wx → ∀ y, y < q' → wx.cell? ⟨gb, go + y, none⟩ = some (.int .i64 (g y : Nat))) := fun wx hx y hy => by
        rw [hgc wx hx y hy, bkL_at _ _ _ (by omega), Hg.out]
      have HGI : Hid (MA.In ⟨some ⟨gb, go, none⟩, q', gc, fun y => (g y : Nat)⟩ W4) := ⟨show q' ≤ maxLen by unfold maxLen; omega, fun k hk => ⟨gb, go, rfl, HGC.out _ (Below.refl _ _) k hk⟩⟩
      have HGM : Hid (MCk (q' : Nat) (q : Nat) q' (fun y => (g y : Nat)) 0) := .inr ⟨rfl, .inr ⟨rfl, fun k _ => by
        have := HGL.out k
        show 0 ≤ ((g k : Nat) : Int) ∧ ((g k : Nat) : Int) < ((q : Nat) : Int)
        omega⟩⟩
      obtain ⟨R1, HT1⟩ : ∃ R1 : Nat → Nat × Nat × Nat, Hid (∀ wx, Below W4.heap.size W4 wx → Tb wx b1 o1 q R1 X.m) := ⟨_, ht1⟩
      obtain ⟨R1', HT1'⟩ : ∃ R1' : Nat → Nat × Nat × Nat, Hid (∀ wx, Below W4.heap.size W4 wx → Tb wx b1' o1' q' R1' Y.m) := ⟨_, ht1'⟩
      have HR : Hid (∀ wx, Below W4.heap.size W4 wx → ∀ k, k < q → wx.cell? ⟨fb, fo + k, none⟩ = some (.int .i64 (Z.f k : Nat))) := hr
      have HLL : Hid (∀ wx, Below W4.heap.size W4 wx → LB wx w.heap.size (q : Nat) (some ⟨b1, o1, none⟩) q ca (some ⟨b2, o2, none⟩) q cb ∧ LB wx (w.heap.size + 1) (q' : Nat) (some ⟨b1', o1', none⟩) q' ca' (some ⟨b2', o2', none⟩) q' cb') := fun wx hx => HX.out wx (HG2.out.step (by rw [← eW4]; exact hx))
      have HF : Hid (∀ x, x < q → (((Z.f (g (Z.f x)) : Nat) : Int) != ((Z.f x : Nat) : Int)) = false) := fun x hx => by
        rw [Hg.out]; exact bne_no (bk_there gg.la gg.a1 gg.lb gg.b1 gg.mp hk (by omega))
      have HM : Hid (∀ y z, y < q' → z < q' → (((g (Y.m y z) : Nat) : Int) != ((X.m (g y) (g z) : Nat) : Int)) = false) := fun y z hy hz => by
        rw [Hg.out]; exact bne_no (bk_meet gg.la gg.a1 gg.lb gg.b1 gg.mp hk (by omega) (by omega))
      have HN : Hid (∀ y, y < q' → (((g (Z.f (g y)) : Nat) : Int) != ((g y : Nat) : Int)) = false) := fun y hy => by
        rw [Hg.out]; exact bne_no (bk_back gg.la gg.a1 gg.lb gg.b1 gg.mp hk (by omega))
      have HIM : Hid (Inn q' Y.m) := by rw [eq']; exact gg.lb.im
      rw [← eW4] at HB3 ⊢
      obtain ⟨⟨l0, l1, l2⟩, k0, k1, k2⟩ := HLL.out _ (Below.refl _ _)
      clear hk hs hgc ht1 ht1' hr gg Hg HG2 HX HE eA eB eF eq eq' HC eW4
      go_wp2_with fail
      refine (mapped_any ⟨some ⟨gb, go, none⟩, q', gc, fun y => (g y : Nat)⟩ (q' : Nat) (q : Nat) _ HGI.out).mono ?_
      rintro e w3 ⟨⟨c, rfl, hc⟩, rfl⟩
      obtain rfl : c = 0 := hc.one HGM.out
      clear hc HGM HGI
      go_wp2_with fail
      clear l0 l1 l2 k0 k1 k2
      obtain ⟨f, hf⟩ : ∃ f, f = Z.f := ⟨_, rfl⟩
      rw [← hf] at HF HN HR HFL
      clear hf
      generalize X.m = m at *
      generalize Y.m = m' at *
      go_loopw [10] (fun i wx => ∃ x : Nat, x ≤ q ∧ i = .int .i64 x ∧ Hid (Below W4.heap.size W4 wx)) (fun i _ => q - (intOf i).toNat)
      case atStart => exact ⟨0, Nat.zero_le _, rfl, Below.refl _ _⟩
      case round =>
        obtain ⟨x, hx, rfl, HW⟩ := hrel
        obtain ⟨⟨l0, l1, l2⟩, k0, k1, k2⟩ := HLL.out _ HW.out
        by_cases hxl : x < q
        · have hfx := HFL.out x hxl
          have hgf := HGL.out (f x)
          have r1 := HR.out _ HW.out x hxl
          have r2 := HGC.out _ HW.out _ hfx
          have r3 := HR.out _ HW.out _ hgf
          have i1 : (x : Int) < (q : Int) := by omega
          have i2 : ((f x : Nat) : Int) < (q' : Int) := by omega
          have i3 : ((g (f x) : Nat) : Int) < (q : Int) := by omega
          have hcmp := HF.out x hxl
          go_wp2
          go_big_quiet (fail)
          go_wp2_with fail
          go_roundw
          case rel => exact ⟨x + 1, by omega, by go_num, below_drewN HW.out _⟩
          case measure => simp [intOf]; omega
        · obtain rfl : x = q := by omega
          go_wp2_with fail
          clear l0 l1 l2 k0 k1 k2
          go_loopw [11] (fun i wx => ∃ y : Nat, y ≤ q' ∧ i = .int .i64 y ∧ Hid (Below W4.heap.size W4 wx)) (fun i _ => q' - (intOf i).toNat)
          case atStart => exact ⟨0, Nat.zero_le _, rfl, HW⟩
          case round =>
            clear HW
            obtain ⟨y, hy, rfl, HW⟩ := hrel
            obtain ⟨⟨l0, l1, l2⟩, k0, k1, k2⟩ := HLL.out _ HW.out
            by_cases hyl : y < q'
            · go_wp2_with fail
              clear l0 l1 l2 k0 k1 k2
              go_loopw [12] (fun i wx => ∃ z : Nat, z ≤ q' ∧ i = .int .i64 z ∧ Hid (Below W4.heap.size W4 wx)) (fun i _ => q' - (intOf i).toNat)
              case atStart => exact ⟨0, Nat.zero_le _, rfl, HW⟩
              case round =>
                clear HW
                obtain ⟨z, hz, rfl, HW⟩ := hrel
                obtain ⟨⟨l0, l1, l2⟩, k0, k1, k2⟩ := HLL.out _ HW.out
                by_cases hzl : z < q'
                · have hgy := HGL.out y
                  have hgz := HGL.out z
                  have hyz := HIM.out y z hyl hzl
                  have hfg := HFL.out _ hgy
                  have r1 := (HT1'.out _ HW.out y hyl).1
                  have r2 := (HT1'.out _ HW.out y hyl).2 z hzl
                  have r3 := HGC.out _ HW.out _ hyz
                  have r4 := HGC.out _ HW.out y hyl
                  have r5 := HGC.out _ HW.out z hzl
                  have r6 := (HT1.out _ HW.out _ hgy).1
                  have r7 := (HT1.out _ HW.out _ hgy).2 _ hgz
                  have r8 := HR.out _ HW.out _ hgy
                  have r9 := HGC.out _ HW.out _ hfg
                  have i1 : (y : Int) < (q' : Int) := by omega
                  have i2 : (z : Int) < (q' : Int) := by omega
                  have i3 : ((m' y z : Nat) : Int) < (q' : Int) := by omega
                  have i4 : ((g y : Nat) : Int) < (x : Int) := by omega
                  have i5 : ((g z : Nat) : Int) < (x : Int) := by omega
                  have i6 : ((f (g y) : Nat) : Int) < (q' : Int) := by omega
                  have hc1 := HM.out y z hyl hzl
                  have hc2 := HN.out y hyl
                  go_wp2
                  go_big_quiet (fail)
                  go_wp2_with fail
                  go_roundw
                  case rel => exact ⟨z + 1, by omega, by go_num, below_drewN HW.out _⟩
                  case measure => simp [intOf]; omega
                · obtain rfl : z = q' := by omega
                  go_wp2_with fail
                  go_roundw
                  case rel => exact ⟨y + 1, by omega, by go_num, HW⟩
                  case measure => simp [intOf]; omega
            · obtain rfl : y = q' := by omega
              go_wp2_with fail
              go_ret
              exact ⟨rfl, Below.then HB3.out HW.out⟩
theorem galoisMeets_any (n0 : Int) (a0 : Option Addr) (la0 ca0 : Nat) (SA0 : Nat → Option Addr × Nat × Nat) (FA0 : Nat → Nat → Int) (b0 : Option Addr) (lb0 cb0 : Nat) (SB0 : Nat → Option Addr × Nat × Nat) (FB0 : Nat → Nat → Int)
    (n1 : Int) (a1 : Option Addr) (la1 ca1 : Nat) (SA1 : Nat → Option Addr × Nat × Nat) (FA1 : Nat → Nat → Int) (b1 : Option Addr) (lb1 cb1 : Nat) (SB1 : Nat → Option Addr × Nat × Nat) (FB1 : Nat → Nat → Int) (a2 : Option Addr) (b2 c2 : Nat) (f2 : Nat → Int) (w : World)
    (hla0 : la0 ≤ maxLen) (hlb0 : lb0 ≤ maxLen) (hla1 : la1 ≤ maxLen) (hlb1 : lb1 ≤ maxLen) (hl2 : b2 ≤ maxLen) (hra0 : RR w a0 la0 SA0 FA0) (hrb0 : RR w b0 lb0 SB0 FB0) (hra1 : RR w a1 la1 SA1 FA1) (hrb1 : RR w b1 lb1 SB1 FB1) (hr2 : Row w a2 b2 f2) :
    Calls Try.prog 7 #[.agg #[.int .i64 n0, .slice a0 la0 ca0, .slice b0 lb0 cb0], .agg #[.int .i64 n1, .slice a1 la1 ca1, .slice b1 lb1 cb1], .slice a2 b2 c2] w fun e w' => e = .returned (.bool true) ∧ Below w.heap.size w w' :=
  galoisMeets_all ⟨n0, a0, la0, ca0, SA0, FA0, b0, lb0, cb0, SB0, FB0⟩ ⟨n1, a1, la1, ca1, SA1, FA1, b1, lb1, cb1, SB1, FB1⟩ ⟨a2, b2, c2, f2⟩ w ⟨hla0, hlb0, hra0, hrb0⟩ ⟨hla1, hlb1, hra1, hrb1⟩ ⟨hl2, hr2⟩
end Go.Proofs.Ytfbgcadlahiljaa
