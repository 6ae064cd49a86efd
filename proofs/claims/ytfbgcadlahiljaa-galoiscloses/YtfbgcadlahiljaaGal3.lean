/-
  What galois.Closed and hasselaw.checkBoth answer. No condition but that slices read as slices of rows and of numbers.
-/
import Derived.Test.YtfbgcadlahiljaaGal2
import Derived.Test.YtfbgcadlahiljaaRefLat
namespace Go.Proofs.Ytfbgcadlahiljaa
open Go.RowKit

/-- Two lattices, boxed, and a list lie there. -/
structure GS (A B : LA) (f : MA) (u : Nat) (w : World) : Prop where
  xa : A.Bx w u
  xb : B.Bx w (u + 1)
  ia : A.In w
  ib : B.In w
  fi : f.In w
theorem GS.step {A B : LA} {f : MA} {u : Nat} {w w' : World} (h : GS A B f u w) (hb : Below w.heap.size w w') : GS A B f u w' := ⟨LB.step h.xa hb, LB.step h.xb hb, h.ia.step hb, h.ib.step hb, h.fi.step hb⟩
theorem GS.new {A B : LA} {f : MA} {w : World} (hA : A.In w) (hB : B.In w) (hf : f.In w) : GS A B f w.heap.size (two w A B) :=
  ⟨two_a w A B, two_b w A B, hA.step (two_below w A B), hB.step (two_below w A B), hf.step (two_below w A B)⟩
/-- Right ones, in the world that lies there. -/
theorem GS.good {A B : LA} {f : MA} {u : Nat} {w : World} (h : GS A B f u w) (hc : GCk A B f 0) :
    ∃ q b1 o1 b2 o2 q' b1' o1' b2' o2' fb fo : Nat, A.n = (q : Nat) ∧ A.a = some ⟨b1, o1, none⟩ ∧ q = A.la ∧ A.b = some ⟨b2, o2, none⟩ ∧ q = A.lb ∧ B.n = (q' : Nat) ∧ B.a = some ⟨b1', o1', none⟩ ∧ q' = B.la ∧ B.b = some ⟨b2', o2', none⟩ ∧ q' = B.lb ∧ f.a = some ⟨fb, fo, none⟩ ∧ q = f.la ∧
      1 ≤ q ∧ q ≤ 40 ∧ Lat q A.m A.j ∧ 1 ≤ q' ∧ q' ≤ 40 ∧ Lat q' B.m B.j ∧ Mp q q' f.f ∧ q = A.q ∧ q' = B.q ∧
      Tb w b1 o1 q (fun x => rAt (A.SA x)) A.m ∧ Tb w b2 o2 q (fun x => rAt (A.SB x)) A.j ∧ Tb w b1' o1' q' (fun x => rAt (B.SA x)) B.m ∧ Tb w b2' o2' q' (fun x => rAt (B.SB x)) B.j ∧ ∀ k, k < q → w.cell? ⟨fb, fo + k, none⟩ = some (.int .i64 (f.f k : Nat)) := by
  obtain ⟨gg, cA, cB, hFF⟩ := hc.gg
  obtain ⟨q, b1, o1, b2, o2, e1, e2, e3, e4, e5, h1, h40, hlat, ht1, ht2⟩ := LCk.open cA h.ia.2.2.1 h.ia.2.2.2
  obtain ⟨q', b1', o1', b2', o2', e1', e2', e3', e4', e5', h1', h40', hlat', ht1', ht2'⟩ := LCk.open cB h.ib.2.2.1 h.ib.2.2.2
  have eq : q = A.q := by unfold LA.q; omega
  have eq' : q' = B.q := by unfold LA.q; omega
  have el : q = f.la := by rw [gg.ln]; exact eq
  obtain ⟨fb, fo, e6, hr⟩ := h.fi.2.here (by omega)
  have hmp := gg.mp
  rw [← eq, ← eq'] at hmp
  exact ⟨q, b1, o1, b2, o2, q', b1', o1', b2', o2', fb, fo, e1, e2, e3, e4, e5, e1', e2', e3', e4', e5', e6, el, h1, h40, hlat, h1', h40', hlat', hmp, eq, eq', ht1, ht2, ht1', ht2', fun k hk => by rw [hr k (by omega), hFF k (by omega)]⟩

/-- The closed elements. -/
def cloB (A B : LA) (f : MA) (x : Nat) : Bool := bk A.q A.m A.j B.m f.f (f.f x) == x
/-- What Closed answers. -/
def CCk (A B : LA) (f : MA) (c0 c : Int) : Prop := (c0 ≠ 0 ∧ c = c0) ∨ (c0 = 0 ∧ ((c = 5 ∧ ¬ KeepL A B f) ∨ (c = 0 ∧ KeepL A B f)))
theorem CCk.one {A B : LA} {f : MA} {c0 c d : Int} (h : CCk A B f c0 c) (h' : CCk A B f c0 d) : c = d := by
  rcases h with ⟨h0, rfl⟩ | ⟨h0, ⟨rfl, h⟩ | ⟨rfl, h⟩⟩ <;> rcases h' with ⟨h0', rfl⟩ | ⟨h0', ⟨rfl, h'⟩ | ⟨rfl, h'⟩⟩ <;> first | rfl | exact absurd h0 h0' | exact absurd h0' h0 | exact absurd h h' | exact absurd h' h
def CPost (A B : LA) (f : MA) (e : Ending) (w' : World) : Prop :=
  ∃ c0 c v, GCk A B f c0 ∧ CCk A B f c0 c ∧ e = .returned (.tuple #[v, .int .i64 c]) ∧ ((c ≠ 0 ∧ v = .slice none 0 0) ∨ (c = 0 ∧ NSl w' v (filt (cloB A B f) A.q)))

set_option maxHeartbeats 4000000 in
theorem closed_any (A B : LA) (f : MA) (w : World) (hA : A.In w) (hB : B.In w) (hf : f.In w) :
    Calls Try.prog 17 #[A.v, B.v, f.v] w fun e w' => CPost A B f e w' ∧ Below w.heap.size w w' := by
  obtain ⟨i0, hi, hz0, hz1, hz2⟩ := info_parts Try.info3
  have HB1 : Hid (Below w.heap.size w (two w A B)) := two_below w A B
  have hG := GS.new hA hB hf
  have eW : Hid (two w A B = (w.alloc (.cells #[.int .i64 A.n, .slice A.a A.la A.ca, .slice A.b A.lb A.cb] 24)).alloc (.cells #[.int .i64 B.n, .slice B.a B.la B.ca, .slice B.b B.lb B.cb] 24)) := rfl
  generalize two w A B = W at *
  obtain ⟨X, hX⟩ : ∃ X, X = A := ⟨_, rfl⟩
  obtain ⟨Y, hY⟩ : ∃ Y, Y = B := ⟨_, rfl⟩
  obtain ⟨Z, hZ⟩ : ∃ Z, Z = f := ⟨_, rfl⟩
  have HG : Hid (GS X Y Z w.heap.size W) := by rw [hX, hY, hZ]; exact hG
  rw [← hX, ← hY, ← hZ]
  clear hG
  have HCALL : Hid (∀ wx, GS X Y Z w.heap.size wx → Calls Try.prog 14 #[X.v, Y.v, Z.v] wx fun e w' => BPost X Y Z e w' ∧ Below wx.heap.size wx w') := fun wx h => back_any X Y Z wx h.ia h.ib h.fi
  have hxa := HG.out.xa
  have hxb := HG.out.xb
  rw [hX] at hxa
  rw [hY] at hxb
  have HE : Hid (X = A ∧ Y = B ∧ Z = f) := ⟨hX, hY, hZ⟩
  have HV : Hid (X.v = A.v ∧ Y.v = B.v ∧ Z.v = f.v) := by rw [hX, hY, hZ]; exact ⟨rfl, rfl, rfl⟩
  rw [HV.out.1, HV.out.2.1, HV.out.2.2]
  rw [HV.out.1, HV.out.2.1, HV.out.2.2] at HCALL
  clear hX hY hZ hA hB hf
  obtain ⟨n, a, la, ca, SA, FA, b, lb, cb, SB, FB⟩ := A
  obtain ⟨n', a', la', ca', SA', FA', b', lb', cb', SB', FB'⟩ := B
  obtain ⟨fa, fl, fc, F⟩ := f
  simp only [LA.v, MA.v, LA.Bx] at *
  obtain ⟨l0, l1, l2⟩ := hxa
  obtain ⟨k0, k1, k2⟩ := hxb
  go_enter Try.func17, Try.ntmps17
  go_wp2_with fail
  rw [← eW.out]
  go_wp2_with fail
  refine (HCALL.out _ HG.out).mono ?_
  rintro e w1 ⟨⟨c, v, ok, hc, rfl, hv⟩, hb1⟩
  have HB3 : Hid (Below w.heap.size w w1) := Below.then HB1.out hb1
  have HG1 : Hid (GS X Y Z w.heap.size w1) := HG.out.step hb1
  have HC : Hid (GCk X Y Z c) := hc
  clear hb1 HB1 HG l0 l1 l2 k0 k1 k2 HCALL hc
  by_cases h0 : c = 0
  · subst h0
    have hv2 : (ok = false ∧ v = .slice none 0 0 ∧ ¬ KeepL X Y Z) ∨ (ok = true ∧ KeepL X Y Z ∧ NSl w1 v (bkL X Y Z)) := by
      rcases hv with ⟨h, _⟩ | ⟨_, h⟩
      · exact absurd rfl h
      · exact h
    clear hv
    rcases hv2 with ⟨rfl, rfl, hk⟩ | ⟨rfl, hk, hs⟩
    · have HK : Hid (¬ KeepL X Y Z) := hk
      clear hk
      go_wp2_with fail
      go_ret2
      exact ⟨⟨0, 5, _, HC.out, .inr ⟨rfl, .inl ⟨rfl, HK.out⟩⟩, rfl, .inl ⟨by decide, rfl⟩⟩, HB3.out⟩
    · have HK : Hid (KeepL X Y Z) := hk
      obtain ⟨q, b1, o1, b2, o2, q', b1', o1', b2', o2', fb, fo, e1, e2, e3, e4, e5, e1', e2', e3', e4', e5', e6, el, h1, h40, hlat, h1', h40', hlat', hmp, eq, eq', ht1, ht2, ht1', ht2', hr⟩ := HG1.out.good HC.out
      obtain ⟨hEX, hEY, hEZ⟩ := HE.out
      have e6' : fa = some ⟨fb, fo, none⟩ := by rw [hEZ] at e6; exact e6
      have el' : q = fl := by rw [hEZ] at el; exact el
      subst e6'
      subst el'
      obtain ⟨ba, bc, rfl, hbr⟩ := hs
      obtain ⟨I, HI⟩ : ∃ I, Hid (I = cloB X Y Z) := ⟨_, rfl⟩
      have HR : Hid (∀ k, k < q → w1.cell? ⟨fb, fo + k, none⟩ = some (.int .i64 (Z.f k : Nat))) := hr
      have HM : Hid (Mp q q' Z.f) := hmp
      obtain ⟨bb, bo, rfl, hbc⟩ := hbr.here (by rw [bkL_len]; omega)
      have hLE : (bkL X Y Z).length = q' := by rw [bkL_len]; omega
      rw [hLE] at hbc ⊢
      have HBC : Hid (∀ y, y < q' → w1.cell? ⟨bb, bo + y, none⟩ = some (.int .i64 (bk X.q X.m X.j Y.m Z.f y : Nat))) := fun y hy => by
        rw [hbc y hy, bkL_at _ _ _ (by omega)]
      have HIA : Hid (∀ x, (((bk X.q X.m X.j Y.m Z.f (Z.f x) : Nat) : Int) == (x : Int)) = I x) := fun x => by rw [HI.out, int_beq]; rfl
      have HQ : Hid (q = X.q) := eq
      clear hbr hbc hLE hk ht1 ht2 ht1' ht2' hr e1 e2 e3 e4 e5 e1' e2' e3' e4' e5' e6 el hlat hlat' hmp eq eq' hEX hEY hEZ HE
      generalize Z.f = f at *
      generalize bk X.q X.m X.j Y.m f = g at *
      go_wp2_with fail
      go_loopw [11, 29] (fun v i wx => ∃ k : Nat, k ≤ q ∧ i = .int .i64 k ∧ Hid (wx.ownsRow w1.heap.size 3 1 v (filt I k).length (natVals (filt I k))) ∧ Hid (Below w1.heap.size w1 wx)) (fun _ i _ => q - (intOf i).toNat)
      case atStart => exact ⟨0, Nat.zero_le _, rfl, World.ownsRow_nil _ _ _ _, Below.refl _ _⟩
      case round =>
        obtain ⟨k, hk, rfl, HOW, HW⟩ := hrel
        by_cases hlt : k < q
        · have hfk := HM.out k hlt
          have r1 := cell_step HW.out (HR.out k hlt)
          have r2 := cell_step HW.out (HBC.out _ hfk)
          have j1 : (k : Int) < (q : Int) := by omega
          have j2 : ((f k : Nat) : Int) < (q' : Int) := by omega
          have hlen := filt_len I k
          have hcmp := HIA.out k
          rcases ho : I k with _ | _
          · have HN : Hid (filt I (k + 1) = filt I k) := filt_no ho
            rw [ho] at hcmp
            go_wp2_with fail
            go_roundw
            case rel => exact ⟨k + 1, by omega, by go_num, by rw [HN.out]; exact HOW.out, HW.out⟩
            case measure => simp [intOf]; omega
          · have HN : Hid (filt I (k + 1) = filt I k ++ [k]) := filt_yes ho
            rw [ho] at hcmp
            have hown := HOW.out
            have hsz := HW.out.size
            generalize filt I k = P at *
            go_wp2_with (at_builtin; refine wpList_append_own _ rfl _ _ 25 rfl w1.heap.size 3 i0 (.int .i64 0) 1 8 Try.underlying25 hi hz0 hz1 hz2 rfl (by decide) _ _ _ rfl (hown.alloc _) ⟨wr.heap.size, 0, none⟩ 1 1 [.int .i64 (k : Nat)] rfl rfl ?c1 ?c2 ?c3 ?c4 ?c5 ?_)
            case c1 =>
              intro j u hj
              match j, hj with
              | 0, hj => simp at hj; subst hj; simp [Addr.add]
            case c2 => intro u hu; simp at hu; subst hu; rfl
            case c3 => unfold maxLen; omega
            case c4 => omega
            case c5 => simp; omega
            intro v' w6 hown' hgrow _
            have HW6 : Hid (Below w1.heap.size w1 w6) := (HW.out.alloc hsz _).grown hgrow (by simp; omega) (owns_block hown)
            have HO6 : Hid (w6.ownsRow w1.heap.size 3 1 v' (P ++ [k]).length (natVals (P ++ [k]))) := by
              rw [natVals_append, List.length_append]; exact hown'
            clear hown' hgrow hown HOW HW
            go_wp2_with fail
            go_roundw
            case rel => exact ⟨k + 1, by omega, by go_num, by rw [HN.out]; exact HO6.out, HW6.out⟩
            case measure => simp [intOf]; omega
        · obtain rfl : k = q := by omega
          have HF : Hid (NSl wr u11 (filt (cloB X Y Z) X.q)) := by rw [← HI.out, ← HQ.out]; exact owns_nats HOW.out
          clear HOW
          go_wp2_with fail
          go_ret2
          exact ⟨⟨0, 0, _, HC.out, .inr ⟨rfl, .inr ⟨rfl, HK.out⟩⟩, rfl, .inr ⟨rfl, HF.out⟩⟩, Below.then HB3.out HW.out⟩
  · have hne : (c != 0) = true := by simpa using h0
    clear hv
    go_wp2_with fail
    go_ret2
    exact ⟨⟨c, c, _, HC.out, .inl ⟨h0, rfl⟩, rfl, .inl ⟨h0, rfl⟩⟩, HB3.out⟩

set_option maxHeartbeats 1000000 in
theorem checkBoth_any (A B : LA) (f : MA) (w : World) (hA : A.In w) (hB : B.In w) (hf : f.In w) :
    Calls Try.prog 10 #[A.v, B.v, f.v] w fun e w' => (∃ c, e = .returned (.int .i64 c) ∧ GCk A B f c) ∧ Below w.heap.size w w' := by
  have hW := two_below w A B
  have HB1 : Hid (Below w.heap.size w (two w A B)) := hW
  have HA1 : Hid (A.In (two w A B)) := hA.step hW
  have HB2 : Hid (B.In (two w A B)) := hB.step hW
  have HF1 : Hid (f.In (two w A B)) := hf.step hW
  have xa := two_a w A B
  have xb := two_b w A B
  have eW : Hid (two w A B = (w.alloc (.cells #[.int .i64 A.n, .slice A.a A.la A.ca, .slice A.b A.lb A.cb] 24)).alloc (.cells #[.int .i64 B.n, .slice B.a B.la B.ca, .slice B.b B.lb B.cb] 24)) := rfl
  generalize two w A B = W at *
  obtain ⟨n, a, la, ca, SA, FA, b, lb, cb, SB, FB⟩ := A
  obtain ⟨n', a', la', ca', SA', FA', b', lb', cb', SB', FB'⟩ := B
  obtain ⟨fa, fl, fc, F⟩ := f
  simp only [LA.v, MA.v] at *
  obtain ⟨l0, l1, l2⟩ := xa
  clear hA hB hf hW
  go_enter Try.func10, Try.ntmps10
  go_wp2_with fail
  rw [← eW.out]
  go_wp2_with fail
  refine (checkLattice_any n a la ca SA FA b lb cb SB FB _ HA1.out.1 HA1.out.2.1 HA1.out.2.2.1 HA1.out.2.2.2).mono ?_
  rintro e w1 ⟨⟨c, rfl, hc⟩, hb1⟩
  have HB3 : Hid (Below w.heap.size w w1) := Below.then HB1.out hb1
  have HB4 : Hid (LA.In ⟨n', a', la', ca', SA', FA', b', lb', cb', SB', FB'⟩ w1) := HB2.out.step hb1
  have HF2 : Hid (MA.In ⟨fa, fl, fc, F⟩ w1) := HF1.out.step hb1
  have l01 := cell_step hb1 l0
  obtain ⟨k0, k1, k2⟩ := xb.step hb1
  clear hb1 HB1 HB2 HF1 l0 l1 l2 xb
  by_cases h0 : c = 0
  · subst h0
    have HC : Hid (LCk n la SA FA lb SB FB 0) := hc
    clear hc
    go_wp2_with fail
    refine (checkLattice_any n' a' la' ca' SA' FA' b' lb' cb' SB' FB' _ HB4.out.1 HB4.out.2.1 HB4.out.2.2.1 HB4.out.2.2.2).mono ?_
    rintro e w2 ⟨⟨c, rfl, hc⟩, hb2⟩
    have HB5 : Hid (Below w.heap.size w w2) := Below.then HB3.out hb2
    have HF3 : Hid (MA.In ⟨fa, fl, fc, F⟩ w2) := HF2.out.step hb2
    have l02 := cell_step hb2 l01
    have k02 := cell_step hb2 k0
    clear hb2 HB3 HF2 l01 k0 k1 k2
    by_cases h0 : c = 0
    · subst h0
      have HC' : Hid (LCk n' la' SA' FA' lb' SB' FB' 0) := hc
      clear hc
      go_wp2_with fail
      refine (mapped_any ⟨fa, fl, fc, F⟩ n n' _ HF3.out).mono ?_
      rintro e w3 ⟨⟨c, rfl, hc⟩, rfl⟩
      have HM : Hid (MCk n n' fl F c) := hc
      clear hc
      go_wp2_with fail
      go_ret
      exact ⟨⟨c, rfl, .inr ⟨HC.out, .inr ⟨HC'.out, HM.out⟩⟩⟩, HB5.out⟩
    · have hne : (c == 0) = false := by simpa using h0
      have HM : Hid (LCk n' la' SA' FA' lb' SB' FB' c) := hc
      clear hc
      go_wp2_with fail
      go_ret
      exact ⟨⟨c, rfl, .inr ⟨HC.out, .inl ⟨h0, HM.out⟩⟩⟩, HB5.out⟩
  · have hne : (c == 0) = false := by simpa using h0
    have HM : Hid (LCk n la SA FA lb SB FB c) := hc
    clear hc
    go_wp2_with fail
    go_ret
    exact ⟨⟨c, rfl, .inl ⟨h0, HM.out⟩⟩, HB3.out⟩
end Go.Proofs.Ytfbgcadlahiljaa
