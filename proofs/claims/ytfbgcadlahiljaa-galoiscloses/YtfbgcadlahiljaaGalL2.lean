/-
  hasselaw.GaloisClosed returns true for every two lattices and list. No condition but that slices read as slices of rows and of numbers.
-/
import Derived.Test.YtfbgcadlahiljaaGal6
namespace Go.Proofs.Ytfbgcadlahiljaa
open Go.RowKit

/-- The rows of a right map and of its way back, as the walk reads them. -/
theorem GS.cells {A B : LA} {f : MA} {u : Nat} {w : World} (h : GS A B f u w) (hc : GCk A B f 0) : ∃ fb fo q q' : Nat, f.a = some ⟨fb, fo, none⟩ ∧ f.la = q ∧ A.n = (q : Nat) ∧ B.n = (q' : Nat) ∧ q = A.q ∧ q' = B.q ∧ 1 ≤ q ∧ q ≤ 40 ∧ 1 ≤ q' ∧ q' ≤ 40 ∧ Mp q q' f.f ∧ ∀ wx, Below w.heap.size w wx → ∀ k, k < q → wx.cell? ⟨fb, fo + k, none⟩ = some (.int .i64 (f.f k : Nat)) := by
  obtain ⟨q, b1, o1, b2, o2, q', b1', o1', b2', o2', fb, fo, e1, e2, e3, e4, e5, e1', e2', e3', e4', e5', e6, el, h1, h40, hlat, h1', h40', hlat', hmp, eq, eq', ht1, ht2, ht1', ht2', hr⟩ := h.good hc
  exact ⟨fb, fo, q, q', e6, el.symm, e1, e1', eq, eq', h1, h40, h1', h40', hmp, fun wx hx k hk => cell_step hx (hr k hk)⟩
theorem NSl.cells {w : World} {v : Value} {l : List Nat} (h : NSl w v l) (hl : 1 ≤ l.length) : ∃ b o c : Nat, v = .slice (some ⟨b, o, none⟩) l.length c ∧ ∀ wx, Below w.heap.size w wx → ∀ k, k < l.length → wx.cell? ⟨b, o + k, none⟩ = some (.int .i64 (nth l k : Nat)) := by
  obtain ⟨a, c, rfl, hr⟩ := h
  obtain ⟨b, o, rfl, hc⟩ := hr.here hl
  exact ⟨b, o, c, rfl, fun wx hx k hk => cell_step hx (hc k hk)⟩
set_option maxHeartbeats 8000000 in
theorem galoisClosed_all (A B : LA) (f : MA) (w : World) (hA : A.In w) (hB : B.In w) (hf : f.In w) :
    Calls Try.prog 5 #[A.v, B.v, f.v] w fun e w' => e = .returned (.bool true) ∧ Below w.heap.size w w' := by
  have HB1 : Hid (Below w.heap.size w (two w A B)) := two_below w A B
  have hG := GS.new hA hB hf
  have eW : Hid (two w A B = (w.alloc (.cells #[.int .i64 A.n, .slice A.a A.la A.ca, .slice A.b A.lb A.cb] 24)).alloc (.cells #[.int .i64 B.n, .slice B.a B.la B.ca, .slice B.b B.lb B.cb] 24)) := rfl
  generalize two w A B = W at *
  obtain ⟨X, hX⟩ : ∃ X, X = A := ⟨_, rfl⟩
  obtain ⟨Y, hY⟩ : ∃ Y, Y = B := ⟨_, rfl⟩
  obtain ⟨Z, hZ⟩ : ∃ Z, Z = f := ⟨_, rfl⟩
  have HG : Hid (GS X Y Z w.heap.size W) := by rw [hX, hY, hZ]; exact hG
  clear hG
  have Cclosed : Hid (∀ wx, GS X Y Z w.heap.size wx → Calls Try.prog 17 #[X.v, Y.v, Z.v] wx fun e w' => CPost X Y Z e w' ∧ Below wx.heap.size wx w') := fun wx h => closed_any X Y Z wx h.ia h.ib h.fi
  have Cboth : Hid (∀ wx, GS X Y Z w.heap.size wx → Calls Try.prog 10 #[X.v, Y.v, Z.v] wx fun e w' => (∃ c, e = .returned (.int .i64 c) ∧ GCk X Y Z c) ∧ Below wx.heap.size wx w') := fun wx h => checkBoth_any X Y Z wx h.ia h.ib h.fi
  have Crback : Hid (∀ wx, GS X Y Z w.heap.size wx → GCk X Y Z 0 → Calls Try.prog 15 #[X.v, Y.v, Z.v] wx fun e w' => (∃ v ok, e = .returned (.tuple #[v, .bool ok]) ∧ ((ok = false ∧ v = .slice none 0 0 ∧ ¬ KeepL X Y Z) ∨ (ok = true ∧ KeepL X Y Z ∧ NSl w' v (bkL X Y Z)))) ∧ Below wx.heap.size wx w') := fun wx h hc => backOfL_any h hc
  have HE : Hid (X = A ∧ Y = B ∧ Z = f) := ⟨hX, hY, hZ⟩
  have HV : Hid (X.v = A.v ∧ Y.v = B.v ∧ Z.v = f.v) := by rw [hX, hY, hZ]; exact ⟨rfl, rfl, rfl⟩
  have HX : Hid (∀ wx, GS X Y Z w.heap.size wx → A.Bx wx w.heap.size ∧ B.Bx wx (w.heap.size + 1)) := fun wx h => by
    have h1 := h.xa
    have h2 := h.xb
    rw [hX] at h1
    rw [hY] at h2
    exact ⟨h1, h2⟩
  rw [HV.out.1, HV.out.2.1, HV.out.2.2] at Cclosed
  rw [HV.out.1, HV.out.2.1, HV.out.2.2] at Cboth
  rw [HV.out.1, HV.out.2.1, HV.out.2.2] at Crback
  clear hX hY hZ hA hB hf HV
  obtain ⟨n, a, la, ca, SA, FA, b, lb, cb, SB, FB⟩ := A
  obtain ⟨n', a', la', ca', SA', FA', b', lb', cb', SB', FB'⟩ := B
  obtain ⟨fa, fl, fc, F⟩ := f
  simp only [LA.v, MA.v, LA.Bx] at *
  obtain ⟨i0, hi, hz0, hz1, hz2⟩ := info_parts Try.info3
  obtain ⟨⟨l0, l1, l2⟩, k0, k1, k2⟩ := HX.out _ HG.out
  go_enter Try.func5, Try.ntmps5
  go_wp2_with fail
  rw [← eW.out]
  go_wp2_with fail
  clear eW
  refine (Cclosed.out _ HG.out).mono ?_
  rintro e w1 ⟨⟨c0, c, v, hc, hcc, rfl, hv⟩, hb1⟩
  have HB2 : Hid (Below w.heap.size w w1) := Below.then HB1.out hb1
  have HG1 : Hid (GS X Y Z w.heap.size w1) := HG.out.step hb1
  have HC : Hid (GCk X Y Z c0) := hc
  have HCC : Hid (CCk X Y Z c0 c) := hcc
  have HVA : Hid ((c ≠ 0 ∧ v = .slice none 0 0) ∨ (c = 0 ∧ NSl w1 v (filt (cloB X Y Z) X.q))) := hv
  clear hb1 HG HB1 l0 l1 l2 k0 k1 k2 hc hcc hv Cclosed
  obtain ⟨⟨l0, l1, l2⟩, k0, k1, k2⟩ := HX.out _ HG1.out
  go_wp2_with fail
  refine (Cboth.out _ HG1.out).mono ?_
  rintro e w2 ⟨⟨c', rfl, hc'⟩, hb2⟩
  obtain rfl := hc'.one HC.out
  have HB3 : Hid (Below w.heap.size w w2) := Below.then HB2.out hb2
  have HG2 : Hid (GS X Y Z w.heap.size w2) := HG1.out.step hb2
  have hv2 : (c ≠ 0 ∧ v = .slice none 0 0) ∨ (c = 0 ∧ NSl w2 v (filt (cloB X Y Z) X.q)) := by
    rcases HVA.out with h | ⟨h0, h⟩
    · exact .inl h
    · exact .inr ⟨h0, h.below hb2⟩
  have HV2 : Hid ((c ≠ 0 ∧ v = .slice none 0 0) ∨ (c = 0 ∧ NSl w2 v (filt (cloB X Y Z) X.q))) := hv2
  clear hb2 HG1 HB2 l0 l1 l2 k0 k1 k2 hc' Cboth HVA hv2
  by_cases h0 : c' = 0
  · subst h0
    obtain ⟨⟨l0, l1, l2⟩, k0, k1, k2⟩ := HX.out _ HG2.out
    go_wp2_with fail
    refine (Crback.out _ HG2.out HC.out).mono ?_
    rintro e w3 ⟨⟨v', ok', rfl, hv'⟩, hb3⟩
    have HB4 : Hid (Below w.heap.size w w3) := Below.then HB3.out hb3
    have HG3 : Hid (GS X Y Z w.heap.size w3) := HG2.out.step hb3
    have hv3 : (c ≠ 0 ∧ v = .slice none 0 0) ∨ (c = 0 ∧ NSl w3 v (filt (cloB X Y Z) X.q)) := by
      rcases HV2.out with h | ⟨h0, h⟩
      · exact .inl h
      · exact .inr ⟨h0, h.below hb3⟩
    have HV3 : Hid ((c ≠ 0 ∧ v = .slice none 0 0) ∨ (c = 0 ∧ NSl w3 v (filt (cloB X Y Z) X.q))) := hv3
    clear hb3 HB3 HG2 HV2 hv3 l0 l1 l2 k0 k1 k2
    obtain ⟨fb, fo, q, q', e6, el, en, en', eq, eq', h1, h40, h1', h40', hmp, hr⟩ := HG3.out.cells HC.out
    obtain ⟨hEX, hEY, hEZ⟩ := HE.out
    have e6' : fa = some ⟨fb, fo, none⟩ := by rw [hEZ] at e6; exact e6
    have el' : q = fl := by rw [hEZ] at el; exact el.symm
    have en2 : n = (q : Nat) := by rw [hEX] at en; exact en
    subst e6'
    subst el'
    subst en2
    obtain ⟨⟨l0, l1, l2⟩, k0, k1, k2⟩ := HX.out _ HG3.out
    clear e6 el en en' hEX hEY hEZ HE
    rcases hv' with ⟨rfl, rfl, hk⟩ | ⟨rfl, hk, hs⟩
    · obtain rfl : c = 5 := HCC.out.one (.inr ⟨rfl, .inl ⟨rfl, hk⟩⟩)
      have HVV : Hid (v = .slice none 0 0) := by
        rcases HV3.out with ⟨_, h⟩ | ⟨h, _⟩
        · exact h
        · cases h
      clear hk HCC HV3 hr hmp eq eq' HG3 HC Crback
      go_wp2_with fail
      go_loopw [10, 13] (fun v i wx => ∃ k : Nat, k ≤ q ∧ i = .int .i64 k ∧ v = .slice none 0 0 ∧ wx = w3) (fun _ i _ => q - (intOf i).toNat)
      case atStart => exact ⟨0, Nat.zero_le _, rfl, rfl, rfl⟩
      case round =>
        obtain ⟨k, hk, rfl, rfl, rfl⟩ := hrel
        by_cases hlt : k < q
        · have hlt2 : (k : Int) < (q : Int) := by omega
          go_wp2_with fail
          refine (galoisBegun_any _).mono ?_
          rintro e w4 ⟨rfl, hb4⟩
          have HB5 : Hid (Below w.heap.size w w4) := Below.then HB4.out hb4
          clear hb4 HB4
          have hvv := HVV.out
          subst hvv
          go_wp2_with fail
          refine (numbersAre_any 5 [] _ _ _ (by unfold maxLen; simp) (.inl ⟨by decide, rfl, rfl⟩)).mono ?_
          rintro e w5 ⟨rfl, hb5⟩
          have HB6 : Hid (Below w.heap.size w w5) := Below.then HB5.out hb5
          clear hb5 HB5
          go_wp2_with fail
          go_ret
          exact ⟨rfl, HB6.out⟩
        · have hlt2 : ¬ ((k : Int) < (q : Int)) := by omega
          go_wp2_with fail
          refine (galoisBegun_any _).mono ?_
          rintro e w4 ⟨rfl, hb4⟩
          have HB5 : Hid (Below w.heap.size w w4) := Below.then HB4.out hb4
          clear hb4 HB4
          have hvv := HVV.out
          subst hvv
          go_wp2_with fail
          refine (numbersAre_any 5 [] _ _ _ (by unfold maxLen; simp) (.inl ⟨by decide, rfl, rfl⟩)).mono ?_
          rintro e w5 ⟨rfl, hb5⟩
          have HB6 : Hid (Below w.heap.size w w5) := Below.then HB5.out hb5
          clear hb5 HB5
          go_wp2_with fail
          go_ret
          exact ⟨rfl, HB6.out⟩
    · obtain rfl : c = 0 := HCC.out.one (.inr ⟨rfl, .inr ⟨rfl, hk⟩⟩)
      have HVV : Hid (NSl w3 v (filt (cloB X Y Z) q)) := by
        rw [eq]
        rcases HV3.out with ⟨h, _⟩ | ⟨_, h⟩
        · exact absurd rfl h
        · exact h
      obtain ⟨bb, bo, bc, rfl, hbc⟩ := hs.cells (by rw [bkL_len]; omega)
      rw [bkL_len, ← eq'] at hbc
      rw [bkL_len, ← eq']
      have HBC : Hid (∀ wx, Below w3.heap.size w3 wx → ∀ y, y < q' → wx.cell? ⟨bb, bo + y, none⟩ = some (.int .i64 (bk X.q X.m X.j Y.m Z.f y : Nat))) := fun wx hx y hy => by
        rw [hbc wx hx y hy, bkL_at _ _ _ (by omega)]
      obtain ⟨I, HI⟩ : ∃ I, Hid (I = cloB X Y Z) := ⟨_, rfl⟩
      have HIA : Hid (∀ x, (((bk X.q X.m X.j Y.m Z.f (Z.f x) : Nat) : Int) == (x : Int)) = I x) := fun x => by rw [HI.out, int_beq]; rfl
      have HR : Hid (∀ wx, Below w3.heap.size w3 wx → ∀ k, k < q → wx.cell? ⟨fb, fo + k, none⟩ = some (.int .i64 (Z.f k : Nat))) := hr
      have HM : Hid (Mp q q' Z.f) := hmp
      have HL0 : Hid (∀ wx, Below w3.heap.size w3 wx → wx.cell? ⟨w.heap.size, 0, none⟩ = some (.int .i64 (q : Nat))) := fun wx hx => cell_step hx l0
      rw [← HI.out] at HVV
      clear hbc hk hs HCC HV3 hr hmp HG3 HX HI l0 l1 l2 k0 k1 k2 HC Crback eq eq'
      generalize Z.f = f at *
      generalize bk X.q X.m X.j Y.m f = g at *
      go_wp2_with fail
      go_loopw [10, 13] (fun v i wx => ∃ k : Nat, k ≤ q ∧ i = .int .i64 k ∧ Hid (wx.ownsRow w3.heap.size 3 1 v (filt I k).length (natVals (filt I k))) ∧ Hid (Below w3.heap.size w3 wx)) (fun _ i _ => q - (intOf i).toNat)
      case atStart => exact ⟨0, Nat.zero_le _, rfl, World.ownsRow_nil _ _ _ _, Below.refl _ _⟩
      case round =>
        obtain ⟨k, hk, rfl, HOW, HW⟩ := hrel
        have l0 := HL0.out _ HW.out
        by_cases hlt : k < q
        · have hfk := HM.out k hlt
          have r1 := HR.out _ HW.out k hlt
          have r2 := HBC.out _ HW.out _ hfk
          have j1 : (k : Int) < (q : Int) := by omega
          have j2 : ((f k : Nat) : Int) < (q' : Int) := by omega
          have hlen := filt_len I k
          have hcmp := HIA.out k
          rcases ho : I k with _ | _
          · have HN : Hid (filt I (k + 1) = filt I k) := filt_no ho
            rw [ho] at hcmp
            go_wp2_with fail
            go_roundw
            case rel => exact ⟨k + 1, by omega, by go_num, by rw [HN.out]; exact HOW.out, HW.out⟩
            case measure => simp [intOf]; omega
          · have HN : Hid (filt I (k + 1) = filt I k ++ [k]) := filt_yes ho
            rw [ho] at hcmp
            have hown := HOW.out
            have hsz := HW.out.size
            generalize filt I k = P at *
            go_wp2_with (at_builtin; refine wpList_append_own _ rfl _ _ 25 rfl w3.heap.size 3 i0 (.int .i64 0) 1 8 Try.underlying25 hi hz0 hz1 hz2 rfl (by decide) _ _ _ rfl (hown.alloc _) ⟨wr.heap.size, 0, none⟩ 1 1 [.int .i64 (k : Nat)] rfl rfl ?c1 ?c2 ?c3 ?c4 ?c5 ?_)
            case c1 =>
              intro j u hj
              match j, hj with
              | 0, hj => simp at hj; subst hj; simp [Addr.add]
            case c2 => intro u hu; simp at hu; subst hu; rfl
            case c3 => unfold maxLen; omega
            case c4 => omega
            case c5 => simp; omega
            intro v' w6 hown' hgrow _
            have HW6 : Hid (Below w3.heap.size w3 w6) := (HW.out.alloc hsz _).grown hgrow (by simp; omega) (owns_block hown)
            have HO6 : Hid (w6.ownsRow w3.heap.size 3 1 v' (P ++ [k]).length (natVals (P ++ [k]))) := by
              rw [natVals_append, List.length_append]; exact hown'
            clear hown' hgrow hown HOW HW
            go_wp2_with fail
            go_roundw
            case rel => exact ⟨k + 1, by omega, by go_num, by rw [HN.out]; exact HO6.out, HW6.out⟩
            case measure => simp [intOf]; omega
        · obtain rfl : k = q := by omega
          have HF : Hid (NSl wr u10 (filt I k)) := owns_nats HOW.out
          have HF2 : Hid (NSl wr v (filt I k)) := HVV.out.below HW.out
          have HBR : Hid (Below w.heap.size w wr) := Below.then HB4.out HW.out
          have hln : (filt I k).length ≤ maxLen := Nat.le_trans (filt_len _ _) (by unfold maxLen; omega)
          clear HOW HW HVV HB4
          go_wp2_with fail
          refine (galoisBegun_any _).mono ?_
          rintro e w4 ⟨rfl, hb4⟩
          have HB5 : Hid (Below w.heap.size w w4) := Below.then HBR.out hb4
          have HM1 : Hid (NSl w4 u10 (filt I k)) := HF.out.below hb4
          have HM2 : Hid (NSl w4 v (filt I k)) := HF2.out.below hb4
          clear hb4 HBR HF HF2
          go_wp2_with fail
          refine (numbersAre_any 0 (filt I k) _ _ _ hln (.inr ⟨rfl, HM2.out, HM1.out⟩)).mono ?_
          rintro e w5 ⟨rfl, hb5⟩
          have HB6 : Hid (Below w.heap.size w w5) := Below.then HB5.out hb5
          clear hb5 HB5
          go_wp2_with fail
          go_ret
          exact ⟨rfl, HB6.out⟩
  · have hne : (c' == 0) = false := by simpa using h0
    obtain rfl : c = c' := HCC.out.one (.inl ⟨h0, rfl⟩)
    have HVV : Hid (v = .slice none 0 0) := by
      rcases HV2.out with ⟨_, h⟩ | ⟨h, _⟩
      · exact h
      · exact absurd h h0
    clear HV2 HCC
    go_wp2_with fail
    refine (galoisBegun_any _).mono ?_
    rintro e w4 ⟨rfl, hb4⟩
    have HB5 : Hid (Below w.heap.size w w4) := Below.then HB3.out hb4
    clear hb4 HB3
    have hvv := HVV.out
    subst hvv
    go_wp2_with fail
    refine (numbersAre_any c [] _ _ _ (by unfold maxLen; simp) (.inl ⟨h0, rfl, rfl⟩)).mono ?_
    rintro e w5 ⟨rfl, hb5⟩
    have HB6 : Hid (Below w.heap.size w w5) := Below.then HB5.out hb5
    clear hb5 HB5
    go_wp2_with fail
    go_ret
    exact ⟨rfl, HB6.out⟩
theorem galoisClosed_any (n0 : Int) (a0 : Option Addr) (la0 ca0 : Nat) (SA0 : Nat → Option Addr × Nat × Nat) (FA0 : Nat → Nat → Int) (b0 : Option Addr) (lb0 cb0 : Nat) (SB0 : Nat → Option Addr × Nat × Nat) (FB0 : Nat → Nat → Int)
    (n1 : Int) (a1 : Option Addr) (la1 ca1 : Nat) (SA1 : Nat → Option Addr × Nat × Nat) (FA1 : Nat → Nat → Int) (b1 : Option Addr) (lb1 cb1 : Nat) (SB1 : Nat → Option Addr × Nat × Nat) (FB1 : Nat → Nat → Int) (a2 : Option Addr) (b2 c2 : Nat) (f2 : Nat → Int) (w : World)
    (hla0 : la0 ≤ maxLen) (hlb0 : lb0 ≤ maxLen) (hla1 : la1 ≤ maxLen) (hlb1 : lb1 ≤ maxLen) (hl2 : b2 ≤ maxLen) (hra0 : RR w a0 la0 SA0 FA0) (hrb0 : RR w b0 lb0 SB0 FB0) (hra1 : RR w a1 la1 SA1 FA1) (hrb1 : RR w b1 lb1 SB1 FB1) (hr2 : Row w a2 b2 f2) :
    Calls Try.prog 5 #[.agg #[.int .i64 n0, .slice a0 la0 ca0, .slice b0 lb0 cb0], .agg #[.int .i64 n1, .slice a1 la1 ca1, .slice b1 lb1 cb1], .slice a2 b2 c2] w fun e w' => e = .returned (.bool true) ∧ Below w.heap.size w w' :=
  galoisClosed_all ⟨n0, a0, la0, ca0, SA0, FA0, b0, lb0, cb0, SB0, FB0⟩ ⟨n1, a1, la1, ca1, SA1, FA1, b1, lb1, cb1, SB1, FB1⟩ ⟨a2, b2, c2, f2⟩ w ⟨hla0, hlb0, hra0, hrb0⟩ ⟨hla1, hlb1, hra1, hrb1⟩ ⟨hl2, hr2⟩
end Go.Proofs.Ytfbgcadlahiljaa
