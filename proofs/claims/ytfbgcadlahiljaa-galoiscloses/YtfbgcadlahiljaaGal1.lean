/-
  What galois.check, galois.keepsJoins and galois.Keeps answer. No condition but that slices read as slices of rows and of numbers.
-/
import Derived.Test.YtfbgcadlahiljaaGal0
namespace Go.Proofs.Ytfbgcadlahiljaa
open Go.RowKit

/-- Two lattices boxed. -/
def two (w : World) (A B : LA) : World := (w.alloc (.cells #[.int .i64 A.n, .slice A.a A.la A.ca, .slice A.b A.lb A.cb] 24)).alloc (.cells #[.int .i64 B.n, .slice B.a B.la B.ca, .slice B.b B.lb B.cb] 24)
def LA.Bx (A : LA) (w : World) (u : Nat) : Prop := LB w u A.n A.a A.la A.ca A.b A.lb A.cb
theorem two_below (w : World) (A B : LA) : Below w.heap.size w (two w A B) := ((Below.refl _ _).alloc (Nat.le_refl _) _).alloc (by simp) _
theorem two_a (w : World) (A B : LA) : A.Bx (two w A B) w.heap.size := (LB.new w _ _ _ _ _ _ _).step ((Below.refl _ _).alloc (Nat.le_refl _) _)
theorem two_b (w : World) (A B : LA) : B.Bx (two w A B) (w.heap.size + 1) := by
  have := LB.new (w.alloc (.cells #[.int .i64 A.n, .slice A.a A.la A.ca, .slice A.b A.lb A.cb] 24)) B.n B.a B.la B.ca B.b B.lb B.cb
  rw [World.size_alloc] at this
  exact this

set_option maxHeartbeats 1000000 in
theorem gCheck_any (A B : LA) (f : MA) (w : World) (hA : A.In w) (hB : B.In w) (hf : f.In w) :
    Calls Try.prog 21 #[A.v, B.v, f.v] w fun e w' => (∃ c, e = .returned (.int .i64 c) ∧ GCk A B f c) ∧ Below w.heap.size w w' := by
  have hW := two_below w A B
  have HB1 : Hid (Below w.heap.size w (two w A B)) := hW
  have HA1 : Hid (A.In (two w A B)) := hA.step hW
  have HB2 : Hid (B.In (two w A B)) := hB.step hW
  have HF1 : Hid (f.In (two w A B)) := hf.step hW
  have xa := two_a w A B
  have xb := two_b w A B
  have eW : Hid (two w A B = (w.alloc (.cells #[.int .i64 A.n, .slice A.a A.la A.ca, .slice A.b A.lb A.cb] 24)).alloc (.cells #[.int .i64 B.n, .slice B.a B.la B.ca, .slice B.b B.lb B.cb] 24)) := rfl
  generalize two w A B = W at *
  obtain ⟨n, a, la, ca, SA, FA, b, lb, cb, SB, FB⟩ := A
  obtain ⟨n', a', la', ca', SA', FA', b', lb', cb', SB', FB'⟩ := B
  obtain ⟨fa, fl, fc, F⟩ := f
  simp only [LA.v, MA.v] at *
  obtain ⟨l0, l1, l2⟩ := xa
  clear hA hB hf hW
  go_enter Try.func21, Try.ntmps21
  go_wp2_with fail
  rw [← eW.out]
  go_wp2_with fail
  refine (lCheck_any n a la ca SA FA b lb cb SB FB _ HA1.out.1 HA1.out.2.1 HA1.out.2.2.1 HA1.out.2.2.2).mono ?_
  rintro e w1 ⟨⟨c, rfl, hc⟩, hb1⟩
  have HB3 : Hid (Below w.heap.size w w1) := Below.then HB1.out hb1
  have HB4 : Hid (LA.In ⟨n', a', la', ca', SA', FA', b', lb', cb', SB', FB'⟩ w1) := HB2.out.step hb1
  have HF2 : Hid (MA.In ⟨fa, fl, fc, F⟩ w1) := HF1.out.step hb1
  have l01 := cell_step hb1 l0
  obtain ⟨k0, k1, k2⟩ := xb.step hb1
  clear hb1 HB1 HB2 HF1 l0 l1 l2 xb
  by_cases h0 : c = 0
  · subst h0
    have HC : Hid (LCk n la SA FA lb SB FB 0) := hc
    clear hc
    go_wp2_with fail
    refine (lCheck_any n' a' la' ca' SA' FA' b' lb' cb' SB' FB' _ HB4.out.1 HB4.out.2.1 HB4.out.2.2.1 HB4.out.2.2.2).mono ?_
    rintro e w2 ⟨⟨c, rfl, hc⟩, hb2⟩
    have HB5 : Hid (Below w.heap.size w w2) := Below.then HB3.out hb2
    have HF3 : Hid (MA.In ⟨fa, fl, fc, F⟩ w2) := HF2.out.step hb2
    have l02 := cell_step hb2 l01
    have k02 := cell_step hb2 k0
    clear hb2 HB3 HF2 l01 k0 k1 k2
    by_cases h0 : c = 0
    · subst h0
      have HC' : Hid (LCk n' la' SA' FA' lb' SB' FB' 0) := hc
      clear hc
      go_wp2_with fail
      refine (checkMap_any ⟨fa, fl, fc, F⟩ n n' _ HF3.out).mono ?_
      rintro e w3 ⟨⟨c, rfl, hc⟩, rfl⟩
      have HM : Hid (MCk n n' fl F c) := hc
      clear hc
      go_wp2_with fail
      go_ret
      exact ⟨⟨c, rfl, .inr ⟨HC.out, .inr ⟨HC'.out, HM.out⟩⟩⟩, HB5.out⟩
    · have hne : (c != 0) = true := by simpa using h0
      have HM : Hid (LCk n' la' SA' FA' lb' SB' FB' c) := hc
      clear hc
      go_wp2_with fail
      go_ret
      exact ⟨⟨c, rfl, .inr ⟨HC.out, .inl ⟨h0, HM.out⟩⟩⟩, HB5.out⟩
  · have hne : (c != 0) = true := by simpa using h0
    have HM : Hid (LCk n la SA FA lb SB FB c) := hc
    clear hc
    go_wp2_with fail
    go_ret
    exact ⟨⟨c, rfl, .inl ⟨h0, HM.out⟩⟩, HB3.out⟩

theorem Row.here {w : World} {a : Option Addr} {la : Nat} {F : Nat → Int} (h : Row w a la F) (hn : 1 ≤ la) : ∃ fb fo : Nat, a = some ⟨fb, fo, none⟩ ∧ ∀ k, k < la → w.cell? ⟨fb, fo + k, none⟩ = some (.int .i64 (F k)) := by
  obtain ⟨b, o, rfl, _⟩ := h 0 (by omega)
  exact ⟨b, o, rfl, fun k hk => by
    obtain ⟨b', o', e, hc⟩ := h k hk
    cases e
    exact hc⟩
theorem int_bne (a b : Nat) : (((a : Nat) : Int) != ((b : Nat) : Int)) = (a != b) := by
  rw [Bool.eq_iff_iff, bne_iff_ne, bne_iff_ne]
  omega
/-- Kept so far. -/
def kpU (n : Nat) (j j' : Nat → Nat → Nat) (f : Nat → Nat) (x y : Nat) : Prop := ∀ a b, a < n → b < n → (a < x ∨ (a = x ∧ b < y)) → f (j a b) = j' (f a) (f b)
theorem kpU.zero (n : Nat) (j j' : Nat → Nat → Nat) (f : Nat → Nat) : kpU n j j' f 0 0 := fun a b _ _ h => by omega
theorem kpU.next {n : Nat} {j j' : Nat → Nat → Nat} {f : Nat → Nat} {x y : Nat} (h : kpU n j j' f x y) (e : f (j x y) = j' (f x) (f y)) : kpU n j j' f x (y + 1) := fun a b ha hb k => by
  by_cases q : a = x ∧ b = y
  · obtain ⟨rfl, rfl⟩ := q; exact e
  · exact h a b ha hb (by omega)
theorem kpU.row {n : Nat} {j j' : Nat → Nat → Nat} {f : Nat → Nat} {x : Nat} (h : kpU n j j' f x n) : kpU n j j' f (x + 1) 0 := fun a b ha hb k => h a b ha hb (by omega)

set_option maxHeartbeats 4000000 in
theorem keepsJoins_any (q b1 o1 ca b2 o2 cb : Nat) (R1 R2 : Nat → Nat × Nat × Nat) (m j : Nat → Nat → Nat) (q' b1' o1' ca' b2' o2' cb' : Nat) (R1' R2' : Nat → Nat × Nat × Nat) (m' j' : Nat → Nat → Nat) (fb fo fc : Nat) (f : Nat → Nat) (w : World)
    (h1 : 1 ≤ q) (h40 : q ≤ 40) (hm : Inn q m) (hj : Inn q j) (h1' : 1 ≤ q') (h40' : q' ≤ 40) (hm' : Inn q' m') (hf : Mp q q' f)
    (ht1 : Tb w b1 o1 q R1 m) (ht2 : Tb w b2 o2 q R2 j) (ht1' : Tb w b1' o1' q' R1' m') (ht2' : Tb w b2' o2' q' R2' j') (hr : ∀ k, k < q → w.cell? ⟨fb, fo + k, none⟩ = some (.int .i64 (f k : Nat))) :
    Calls Try.prog 22 #[.agg #[.int .i64 (q : Nat), .slice (some ⟨b1, o1, none⟩) q ca, .slice (some ⟨b2, o2, none⟩) q cb], .agg #[.int .i64 (q' : Nat), .slice (some ⟨b1', o1', none⟩) q' ca', .slice (some ⟨b2', o2', none⟩) q' cb'], .slice (some ⟨fb, fo, none⟩) q fc] w
      fun e w' => BIs e (Keep q m j q' m' j' f) ∧ Below w.heap.size w w' := by
  obtain ⟨W, eW⟩ : ∃ W, Hid (W = (w.alloc (.cells #[.int .i64 (q : Nat), .slice (some ⟨b1, o1, none⟩) q ca, .slice (some ⟨b2, o2, none⟩) q cb] 24)).alloc (.cells #[.int .i64 (q' : Nat), .slice (some ⟨b1', o1', none⟩) q' ca', .slice (some ⟨b2', o2', none⟩) q' cb'] 24)) := ⟨_, rfl⟩
  have hW : Below w.heap.size w W := by rw [eW.out]; exact ((Below.refl _ _).alloc (Nat.le_refl _) _).alloc (by simp) _
  have HW : Hid (Below w.heap.size w W) := hW
  obtain ⟨l0, l1, l2⟩ : LB W w.heap.size (q : Nat) (some ⟨b1, o1, none⟩) q ca (some ⟨b2, o2, none⟩) q cb := by rw [eW.out]; exact (LB.new w _ _ _ _ _ _ _).step ((Below.refl _ _).alloc (Nat.le_refl _) _)
  obtain ⟨k0, k1, k2⟩ : LB W (w.heap.size + 1) (q' : Nat) (some ⟨b1', o1', none⟩) q' ca' (some ⟨b2', o2', none⟩) q' cb' := by
    rw [eW.out]
    have := LB.new (w.alloc (.cells #[.int .i64 (q : Nat), .slice (some ⟨b1, o1, none⟩) q ca, .slice (some ⟨b2, o2, none⟩) q cb] 24)) (q' : Nat) (some ⟨b1', o1', none⟩) q' ca' (some ⟨b2', o2', none⟩) q' cb'
    rw [World.size_alloc] at this; exact this
  have T1 := ht1.step hW
  have T1' := ht1'.step hW
  have HT1 : Hid (∀ k, Tb (W.drewN k) b1 o1 q R1 m) := fun k => T1.step (below_drewN (Below.refl _ _) k)
  have HT1' : Hid (∀ k, Tb (W.drewN k) b1' o1' q' R1' m') := fun k => T1'.step (below_drewN (Below.refl _ _) k)
  have HT2 : Hid (Tb W b2 o2 q R2 j) := ht2.step hW
  have HT2' : Hid (Tb W b2' o2' q' R2' j') := ht2'.step hW
  have HR : Hid (∀ k, k < q → W.cell? ⟨fb, fo + k, none⟩ = some (.int .i64 (f k : Nat))) := fun k hk => cell_step hW (hr k hk)
  have HIM : Hid (Inn q m) := hm
  have HIM' : Hid (Inn q' m') := hm'
  have HIJ : Hid (Inn q j) := hj
  have HFF : Hid (Mp q q' f) := hf
  have hE := en_lt h1 hm q (Nat.le_refl _)
  have rE := HR.out _ hE
  have iE : ((en m q : Nat) : Int) < (q : Int) := by omega
  have hKK : Hid (Below W.heap.size W W) := Below.refl _ _
  clear ht1 ht2 ht1' ht2' hW T1 T1' hr hm hm' hj hf hE
  obtain ⟨v0, hv0⟩ : ∃ v, (f (en m q) != en m' q') = v := ⟨_, rfl⟩
  have hv1 := hv0
  rw [← int_bne] at hv1
  rcases v0 with _ | _
  · have he : f (en m q) = en m' q' := by simpa using hv0
    have HE : Hid (f (en m q) = en m' q') := he
    clear he
    clear hv0
    go_enter Try.func22, Try.ntmps22
    go_wp2_with fail
    rw [← eW.out]
    go_wp2
    go_big_quiet ((first | (go_at_call_of 30 (Value.slice (some ⟨b1, o1, none⟩) q ca); exact Calls.quiet_of_same (end_any q b1 o1 ca R1 m _ h1 h40 HIM.out (HT1.out _))) | (go_at_call_of 30 (Value.slice (some ⟨b1', o1', none⟩) q' ca'); exact Calls.quiet_of_same (end_any q' b1' o1' ca' R1' m' _ h1' h40' HIM'.out (HT1'.out _)))))
    go_wp2_with fail
    have HBD : Hid (∀ k, Below W.heap.size W (W.drewN k)) := fun k => below_drewN hKK.out k
    clear rE iE hv1 hKK HT1 HT1' k0 k1 l1
    have HL : Hid (∀ wx, Below W.heap.size W wx → wx.cell? ⟨w.heap.size, 0, none⟩ = some (.int .i64 (q : Nat)) ∧ wx.cell? ⟨w.heap.size, 2, none⟩ = some (.slice (some ⟨b2, o2, none⟩) q cb) ∧ wx.cell? ⟨w.heap.size + 1, 2, none⟩ = some (.slice (some ⟨b2', o2', none⟩) q' cb')) := fun wx h => ⟨cell_step h l0, cell_step h l2, cell_step h k2⟩
    clear l0 l2 k2
    go_loopw [21] (fun i wx => ∃ x : Nat, x ≤ q ∧ i = .int .i64 x ∧ Hid (Below W.heap.size W wx) ∧ Hid (kpU q j j' f x 0)) (fun i _ => q - (intOf i).toNat)
    case atStart => exact ⟨0, Nat.zero_le _, rfl, HBD.out _, kpU.zero _ _ _ _⟩
    case round =>
      clear HBD
      obtain ⟨x, hx, rfl, HX, HU⟩ := hrel
      by_cases hxl : x < q
      · obtain ⟨l0, _, _⟩ := HL.out _ HX.out
        go_wp2_with fail
        clear l0
        go_loopw [26] (fun i wx => ∃ y : Nat, y ≤ q ∧ i = .int .i64 y ∧ Hid (Below W.heap.size W wx) ∧ Hid (kpU q j j' f x y)) (fun i _ => q - (intOf i).toNat)
        case atStart => exact ⟨0, Nat.zero_le _, rfl, HX, HU⟩
        case round =>
          clear HX HU
          obtain ⟨y, hy, rfl, HX, HU⟩ := hrel
          by_cases hyl : y < q
          · obtain ⟨l0, l2, k2⟩ := HL.out _ HX.out
            have hxy := HIJ.out x y hxl hyl
            have hfx := HFF.out x hxl
            have hfy := HFF.out y hyl
            have r1 := (HT2.out.step HX.out x hxl).1
            have r2 := (HT2.out.step HX.out x hxl).2 y hyl
            have r3 := cell_step HX.out (HR.out _ hxy)
            have r4 := cell_step HX.out (HR.out x hxl)
            have r5 := cell_step HX.out (HR.out y hyl)
            have r6 := (HT2'.out.step HX.out _ hfx).1
            have r7 := (HT2'.out.step HX.out _ hfx).2 _ hfy
            have i1 : (x : Int) < (q : Int) := by omega
            have i2 : (y : Int) < (q : Int) := by omega
            have i3 : ((j x y : Nat) : Int) < (q : Int) := by omega
            have i4 : ((f x : Nat) : Int) < (q' : Int) := by omega
            have i5 : ((f y : Nat) : Int) < (q' : Int) := by omega
            obtain ⟨v0, hv0⟩ : ∃ v, (f (j x y) != j' (f x) (f y)) = v := ⟨_, rfl⟩
            have hv1 := hv0
            rw [← int_bne] at hv1
            rcases v0 with _ | _
            · have he : f (j x y) = j' (f x) (f y) := by simpa using hv0
              have HN : Hid (kpU q j j' f x (y + 1)) := HU.out.next he
              clear he hv0
              go_wp2
              go_big_quiet (fail)
              go_wp2_with fail
              go_roundw
              case rel => exact ⟨y + 1, by omega, by go_num, below_drewN HX.out _, HN.out⟩
              case measure => simp [intOf]; omega
            · have HN : Hid (¬ Keep q m j q' m' j' f) := fun h => by simp [h.2 x y hxl hyl] at hv0
              clear hv0
              go_wp2
              go_big_quiet (fail)
              go_wp2_with fail
              go_ret
              exact ⟨⟨false, rfl, fun h => (by cases h), fun h => absurd h HN.out⟩, Below.then HW.out (below_drewN HX.out _)⟩
          · obtain rfl : y = q := by omega
            have HN : Hid (kpU y j j' f (x + 1) 0) := HU.out.row
            go_wp2_with fail
            go_roundw
            case rel => exact ⟨x + 1, by omega, by go_num, HX, HN.out⟩
            case measure => simp [intOf]; omega
      · obtain rfl : x = q := by omega
        have HN : Hid (Keep x m j q' m' j' f) := ⟨HE.out, fun a b ha hb => HU.out a b ha hb (.inl ha)⟩
        go_wp2_with fail
        go_ret
        exact ⟨⟨true, rfl, fun _ => HN.out, fun _ => rfl⟩, Below.then HW.out HX.out⟩
  · have HN : Hid (¬ Keep q m j q' m' j' f) := fun h => by simp [h.1] at hv0
    clear hv0
    go_enter Try.func22, Try.ntmps22
    go_wp2_with fail
    rw [← eW.out]
    go_wp2
    go_big_quiet ((first | (go_at_call_of 30 (Value.slice (some ⟨b1, o1, none⟩) q ca); exact Calls.quiet_of_same (end_any q b1 o1 ca R1 m _ h1 h40 HIM.out (HT1.out _))) | (go_at_call_of 30 (Value.slice (some ⟨b1', o1', none⟩) q' ca'); exact Calls.quiet_of_same (end_any q' b1' o1' ca' R1' m' _ h1' h40' HIM'.out (HT1'.out _)))))
    go_wp2_with fail
    go_ret
    exact ⟨⟨false, rfl, fun h => (by cases h), fun h => absurd h HN.out⟩, Below.then HW.out (below_drewN hKK.out _)⟩

/-- It keeps joins, of what came in. -/
def KeepL (A B : LA) (f : MA) : Prop := Keep A.q A.m A.j B.q B.m B.j f.f
def KPost (A B : LA) (f : MA) (e : Ending) : Prop := ∃ c v, GCk A B f c ∧ e = .returned (.tuple #[.bool v, .int .i64 c]) ∧ ((c ≠ 0 ∧ v = false) ∨ (c = 0 ∧ (v = true ↔ KeepL A B f)))
set_option maxHeartbeats 2000000 in
theorem keeps_any (A B : LA) (f : MA) (w : World) (hA : A.In w) (hB : B.In w) (hf : f.In w) :
    Calls Try.prog 9 #[A.v, B.v, f.v] w fun e w' => KPost A B f e ∧ Below w.heap.size w w' := by
  have hW := two_below w A B
  have HB1 : Hid (Below w.heap.size w (two w A B)) := hW
  have HA1 : Hid (A.In (two w A B)) := hA.step hW
  have HB2 : Hid (B.In (two w A B)) := hB.step hW
  have HF1 : Hid (f.In (two w A B)) := hf.step hW
  have xa := two_a w A B
  have xb := two_b w A B
  have eW : Hid (two w A B = (w.alloc (.cells #[.int .i64 A.n, .slice A.a A.la A.ca, .slice A.b A.lb A.cb] 24)).alloc (.cells #[.int .i64 B.n, .slice B.a B.la B.ca, .slice B.b B.lb B.cb] 24)) := rfl
  generalize two w A B = W at *
  obtain ⟨n, a, la, ca, SA, FA, b, lb, cb, SB, FB⟩ := A
  obtain ⟨n', a', la', ca', SA', FA', b', lb', cb', SB', FB'⟩ := B
  obtain ⟨fa, fl, fc, F⟩ := f
  simp only [LA.v, MA.v] at *
  obtain ⟨l0, l1, l2⟩ := xa
  obtain ⟨k0, k1, k2⟩ := xb
  clear hA hB hf hW
  go_enter Try.func9, Try.ntmps9
  go_wp2_with fail
  rw [← eW.out]
  go_wp2_with fail
  refine (gCheck_any ⟨n, a, la, ca, SA, FA, b, lb, cb, SB, FB⟩ ⟨n', a', la', ca', SA', FA', b', lb', cb', SB', FB'⟩ ⟨fa, fl, fc, F⟩ _ HA1.out HB2.out HF1.out).mono ?_
  rintro e w1 ⟨⟨c, rfl, hc⟩, hb1⟩
  have HB3 : Hid (Below w.heap.size w w1) := Below.then HB1.out hb1
  have hA2 := HA1.out.step hb1
  have hB2 := HB2.out.step hb1
  have hF2 := HF1.out.step hb1
  have p0 := cell_step hb1 l0
  have p1 := cell_step hb1 l1
  have p2 := cell_step hb1 l2
  have s0 := cell_step hb1 k0
  have s1 := cell_step hb1 k1
  have s2 := cell_step hb1 k2
  clear hb1 HB1 HA1 HB2 HF1 l0 l1 l2 k0 k1 k2
  by_cases h0 : c = 0
  · subst h0
    have HC : Hid (GCk ⟨n, a, la, ca, SA, FA, b, lb, cb, SB, FB⟩ ⟨n', a', la', ca', SA', FA', b', lb', cb', SB', FB'⟩ ⟨fa, fl, fc, F⟩ 0) := hc
    obtain ⟨gg, cA, cB, hFF⟩ := hc.gg
    have HM : Hid (Mp (LA.q ⟨n, a, la, ca, SA, FA, b, lb, cb, SB, FB⟩) (LA.q ⟨n', a', la', ca', SA', FA', b', lb', cb', SB', FB'⟩) (nat F)) := gg.mp
    have hln := gg.ln
    obtain ⟨q, b1, o1, b2, o2, rfl, rfl, rfl, rfl, rfl, h1, h40, hlat, ht1, ht2⟩ := LCk.open cA hA2.2.2.1 hA2.2.2.2
    obtain ⟨q', b1', o1', b2', o2', rfl, rfl, rfl, rfl, rfl, h1', h40', hlat', ht1', ht2'⟩ := LCk.open cB hB2.2.2.1 hB2.2.2.2
    obtain rfl : q = fl := hln.symm
    obtain ⟨fb, fo, rfl, hr⟩ := hF2.2.here h1
    have HK : Hid (∀ wx, Below w1.heap.size w1 wx → Calls Try.prog 22 #[.agg #[.int .i64 (q : Nat), .slice (some ⟨b1, o1, none⟩) q ca, .slice (some ⟨b2, o2, none⟩) q cb], .agg #[.int .i64 (q' : Nat), .slice (some ⟨b1', o1', none⟩) q' ca', .slice (some ⟨b2', o2', none⟩) q' cb'], .slice (some ⟨fb, fo, none⟩) q fc] wx
        fun e w' => BIs e (Keep q (nat2 FA) (nat2 FB) q' (nat2 FA') (nat2 FB') (nat F)) ∧ Below wx.heap.size wx w') := fun wx hx =>
      keepsJoins_any q b1 o1 ca b2 o2 cb _ _ _ _ q' b1' o1' ca' b2' o2' cb' _ _ _ _ fb fo fc (nat F) wx h1 h40 hlat.im hlat.ij h1' h40' hlat'.im HM.out (ht1.step hx) (ht2.step hx) (ht1'.step hx) (ht2'.step hx) (fun k hk => by rw [cell_step hx (hr k hk)]; exact congrArg (fun z => some (Value.int .i64 z)) (hFF k hk))
    clear hc gg cA cB hFF HM hln hA2 hB2 hF2 hlat ht1 ht2 hlat' ht1' ht2' hr
    go_wp2_with fail
    refine (HK.out _ (Below.refl _ _)).mono ?_
    rintro e w2 ⟨⟨v, rfl, hv⟩, hb2⟩
    have HB4 : Hid (Below w.heap.size w w2) := Below.then HB3.out hb2
    have HV : Hid (v = true ↔ Keep q (nat2 FA) (nat2 FB) q' (nat2 FA') (nat2 FB') (nat F)) := hv
    clear hb2 hv HK HB3
    go_wp2_with fail
    go_ret2
    exact ⟨⟨0, v, HC.out, rfl, .inr ⟨rfl, HV.out⟩⟩, HB4.out⟩
  · have hne : (c != 0) = true := by simpa using h0
    have HC : Hid (GCk ⟨n, a, la, ca, SA, FA, b, lb, cb, SB, FB⟩ ⟨n', a', la', ca', SA', FA', b', lb', cb', SB', FB'⟩ ⟨fa, fl, fc, F⟩ c) := hc
    clear hc
    go_wp2_with fail
    go_ret2
    exact ⟨⟨c, _, HC.out, rfl, .inl ⟨h0, rfl⟩⟩, HB3.out⟩
end Go.Proofs.Ytfbgcadlahiljaa
