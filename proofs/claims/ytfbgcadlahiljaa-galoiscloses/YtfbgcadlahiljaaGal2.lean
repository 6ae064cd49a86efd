/-
  What galois.joinUnder and galois.Back answer. No condition but that slices read as slices of rows and of numbers.
-/
import Derived.Test.YtfbgcadlahiljaaGal1
namespace Go.Proofs.Ytfbgcadlahiljaa
open Go.RowKit

set_option maxHeartbeats 4000000 in
theorem joinUnder_any (q b1 o1 ca b2 o2 cb : Nat) (R1 R2 : Nat → Nat × Nat × Nat) (m j : Nat → Nat → Nat) (q' b1' o1' ca' : Nat) (b2' : Option Addr) (lb' cb' : Nat) (R1' : Nat → Nat × Nat × Nat) (m' : Nat → Nat → Nat) (fb fo fc : Nat) (f : Nat → Nat) (y : Nat) (w : World)
    (h1 : 1 ≤ q) (h40 : q ≤ 40) (hm : Inn q m) (hj : Inn q j) (_h40' : q' ≤ 40) (hf : Mp q q' f) (hy : y < q')
    (ht1 : Tb w b1 o1 q R1 m) (ht2 : Tb w b2 o2 q R2 j) (ht1' : Tb w b1' o1' q' R1' m') (hr : ∀ k, k < q → w.cell? ⟨fb, fo + k, none⟩ = some (.int .i64 (f k : Nat))) :
    Calls Try.prog 27 #[.agg #[.int .i64 (q : Nat), .slice (some ⟨b1, o1, none⟩) q ca, .slice (some ⟨b2, o2, none⟩) q cb], .agg #[.int .i64 (q' : Nat), .slice (some ⟨b1', o1', none⟩) q' ca', .slice b2' lb' cb'], .slice (some ⟨fb, fo, none⟩) q fc, .int .i64 (y : Nat)] w
      fun e w' => e = .returned (.int .i64 (bk q m j m' f y : Nat)) ∧ Below w.heap.size w w' := by
  obtain ⟨W, eW⟩ : ∃ W, Hid (W = (w.alloc (.cells #[.int .i64 (q : Nat), .slice (some ⟨b1, o1, none⟩) q ca, .slice (some ⟨b2, o2, none⟩) q cb] 24)).alloc (.cells #[.int .i64 (q' : Nat), .slice (some ⟨b1', o1', none⟩) q' ca', .slice b2' lb' cb'] 24)) := ⟨_, rfl⟩
  have hW : Below w.heap.size w W := by rw [eW.out]; exact ((Below.refl _ _).alloc (Nat.le_refl _) _).alloc (by simp) _
  have HW : Hid (Below w.heap.size w W) := hW
  have X1 : LB W w.heap.size (q : Nat) (some ⟨b1, o1, none⟩) q ca (some ⟨b2, o2, none⟩) q cb := by rw [eW.out]; exact (LB.new w _ _ _ _ _ _ _).step ((Below.refl _ _).alloc (Nat.le_refl _) _)
  have X2 : LB W (w.heap.size + 1) (q' : Nat) (some ⟨b1', o1', none⟩) q' ca' b2' lb' cb' := by
    rw [eW.out]
    have := LB.new (w.alloc (.cells #[.int .i64 (q : Nat), .slice (some ⟨b1, o1, none⟩) q ca, .slice (some ⟨b2, o2, none⟩) q cb] 24)) (q' : Nat) (some ⟨b1', o1', none⟩) q' ca' b2' lb' cb'
    rw [World.size_alloc] at this; exact this
  have HL : Hid (∀ wx, Below W.heap.size W wx → LB wx w.heap.size (q : Nat) (some ⟨b1, o1, none⟩) q ca (some ⟨b2, o2, none⟩) q cb ∧ LB wx (w.heap.size + 1) (q' : Nat) (some ⟨b1', o1', none⟩) q' ca' b2' lb' cb') := fun wx h => ⟨X1.step h, X2.step h⟩
  have HT1 : Hid (∀ wx, Below W.heap.size W wx → Tb wx b1 o1 q R1 m) := fun wx h => (ht1.step hW).step h
  have HT2 : Hid (∀ wx, Below W.heap.size W wx → Tb wx b2 o2 q R2 j) := fun wx h => (ht2.step hW).step h
  have HT1' : Hid (∀ wx, Below W.heap.size W wx → Tb wx b1' o1' q' R1' m') := fun wx h => (ht1'.step hW).step h
  have HR : Hid (∀ wx, Below W.heap.size W wx → ∀ k, k < q → wx.cell? ⟨fb, fo + k, none⟩ = some (.int .i64 (f k : Nat))) := fun wx h k hk => cell_step h (cell_step hW (hr k hk))
  have HIM : Hid (Inn q m) := hm
  have HJL : Hid (∀ k, k ≤ q → jun q m j m' f y k < q) := jun_lt h1 hm hj
  have HFF : Hid (Mp q q' f) := hf
  obtain ⟨l0, l1, l2⟩ := X1
  clear ht1 ht2 ht1' hW hr hm hj hf X2
  go_enter Try.func27, Try.ntmps27
  go_wp2_with fail
  rw [← eW.out]
  go_wp2_with (go_at_call 30; refine (end_any q b1 o1 ca R1 m _ h1 h40 HIM.out (HT1.out _ (Below.refl _ _))).mono ?_; rintro e w' ⟨rfl, hww⟩; have hw2 := hww.symm; subst hw2)
  clear eW l0 l1 l2
  go_loopw [9, 17] (fun v i wx => ∃ k : Nat, k ≤ q ∧ i = .int .i64 k ∧ v = .int .i64 (jun q m j m' f y k : Nat) ∧ Hid (Below W.heap.size W wx)) (fun _ i _ => q - (intOf i).toNat)
  case atStart => exact ⟨0, Nat.zero_le _, rfl, rfl, Below.refl _ _⟩
  case round =>
    obtain ⟨k, hk, rfl, rfl, HX⟩ := hrel
    by_cases hlt : k < q
    · obtain ⟨⟨l0, l1, l2⟩, p0, p1, p2⟩ := HL.out _ HX.out
      have r0 := HR.out _ HX.out k hlt
      have hfk := HFF.out k hlt
      have i0 : (k : Int) < (q : Int) := by omega
      rcases hb : leB m' (f k) y with _ | _
      · have HE : Hid (jun q m j m' f y (k + 1) = jun q m j m' f y k) := jun_no hb
        go_wp2_with fail
        refine (isUpTo_any q' b1' o1' ca' b2' lb' cb' R1' m' (f k) y _ false hb (HT1'.out _ HX.out) hfk hy).mono ?_
        rintro e w2 ⟨rfl, hb2⟩
        have HX2 : Hid (Below W.heap.size W w2) := Below.then HX.out hb2
        clear hb2 HX l0 l1 l2 p0 p1 p2 r0
        go_wp2_with fail
        go_roundw
        case rel => exact ⟨k + 1, by omega, by go_num, by rw [HE.out], HX2⟩
        case measure => simp [intOf]; omega
      · have HE : Hid (jun q m j m' f y (k + 1) = j (jun q m j m' f y k) k) := jun_yes hb
        have hJ := HJL.out k hk
        go_wp2_with fail
        refine (isUpTo_any q' b1' o1' ca' b2' lb' cb' R1' m' (f k) y _ true hb (HT1'.out _ HX.out) hfk hy).mono ?_
        rintro e w2 ⟨rfl, hb2⟩
        have HX2 : Hid (Below W.heap.size W w2) := Below.then HX.out hb2
        clear hb2 HX l0 l1 l2 p0 p1 p2 r0
        obtain ⟨⟨l0, l1, l2⟩, p0, p1, p2⟩ := HL.out _ HX2.out
        have r1 := (HT2.out _ HX2.out _ hJ).1
        have r2 := (HT2.out _ HX2.out _ hJ).2 k hlt
        have i1 : ((jun q m j m' f y k : Nat) : Int) < (q : Int) := by omega
        go_wp2_with fail
        go_roundw
        case rel => exact ⟨k + 1, by omega, by go_num, by rw [HE.out], HX2⟩
        case measure => simp [intOf]; omega
    · obtain rfl : k = q := by omega
      go_wp2_with fail
      go_ret
      exact ⟨rfl, Below.then HW.out HX.out⟩

/-- The list of the way back. -/
def bkL (A B : LA) (f : MA) : List Nat := (List.range B.q).map (bk A.q A.m A.j B.m f.f)
theorem bkL_len (A B : LA) (f : MA) : (bkL A B f).length = B.q := by simp [bkL]
theorem bkL_at (A B : LA) (f : MA) {k : Nat} (hk : k < B.q) : nth (bkL A B f) k = bk A.q A.m A.j B.m f.f k := by
  simp [nth, bkL, hk]
/-- What is laid of it so far. -/
def part (g : Nat → Nat) (u k : Nat) : Nat := if k < u then g k else 0
theorem part_next (g : Nat → Nat) (u k : Nat) : upd (part g u) u (g u) k = part g (u + 1) k := by
  unfold upd part
  by_cases e : k = u
  · subst e; simp
  · by_cases h : k < u
    · rw [if_neg e, if_pos h, if_pos (by omega)]
    · rw [if_neg e, if_neg h, if_neg (by omega)]
/-- What Back answers. -/
def BPost (A B : LA) (f : MA) (e : Ending) (w' : World) : Prop :=
  ∃ c v ok, GCk A B f c ∧ e = .returned (.tuple #[v, .bool ok, .int .i64 c]) ∧ ((c ≠ 0 ∧ ok = false ∧ v = .slice none 0 0) ∨ (c = 0 ∧ ((ok = false ∧ v = .slice none 0 0 ∧ ¬ KeepL A B f) ∨ (ok = true ∧ KeepL A B f ∧ NSl w' v (bkL A B f)))))
set_option maxHeartbeats 4000000 in
theorem back_any (A B : LA) (f : MA) (w : World) (hA : A.In w) (hB : B.In w) (hf : f.In w) :
    Calls Try.prog 14 #[A.v, B.v, f.v] w fun e w' => BPost A B f e w' ∧ Below w.heap.size w w' := by
  obtain ⟨i0, hi, hz0, hz1, hz2⟩ := info_parts Try.info3
  have hW := two_below w A B
  have HB1 : Hid (Below w.heap.size w (two w A B)) := hW
  have HA1 : Hid (A.In (two w A B)) := hA.step hW
  have HB2 : Hid (B.In (two w A B)) := hB.step hW
  have HF1 : Hid (f.In (two w A B)) := hf.step hW
  have xa := two_a w A B
  have xb := two_b w A B
  have eW : Hid (two w A B = (w.alloc (.cells #[.int .i64 A.n, .slice A.a A.la A.ca, .slice A.b A.lb A.cb] 24)).alloc (.cells #[.int .i64 B.n, .slice B.a B.la B.ca, .slice B.b B.lb B.cb] 24)) := rfl
  generalize two w A B = W at *
  obtain ⟨n, a, la, ca, SA, FA, b, lb, cb, SB, FB⟩ := A
  obtain ⟨n', a', la', ca', SA', FA', b', lb', cb', SB', FB'⟩ := B
  obtain ⟨fa, fl, fc, F⟩ := f
  simp only [LA.v, MA.v] at *
  obtain ⟨l0, l1, l2⟩ := xa
  obtain ⟨k0, k1, k2⟩ := xb
  clear hA hB hf hW
  go_enter Try.func14, Try.ntmps14
  go_wp2_with fail
  rw [← eW.out]
  go_wp2_with fail
  refine (keeps_any ⟨n, a, la, ca, SA, FA, b, lb, cb, SB, FB⟩ ⟨n', a', la', ca', SA', FA', b', lb', cb', SB', FB'⟩ ⟨fa, fl, fc, F⟩ _ HA1.out HB2.out HF1.out).mono ?_
  rintro e w1 ⟨⟨c, v, hc, rfl, hv⟩, hb1⟩
  have HB3 : Hid (Below w.heap.size w w1) := Below.then HB1.out hb1
  have hA2 := HA1.out.step hb1
  have hB2 := HB2.out.step hb1
  have hF2 := HF1.out.step hb1
  have X1 : LA.Bx ⟨n, a, la, ca, SA, FA, b, lb, cb, SB, FB⟩ w1 w.heap.size := LB.step ⟨l0, l1, l2⟩ hb1
  have X2 : LA.Bx ⟨n', a', la', ca', SA', FA', b', lb', cb', SB', FB'⟩ w1 (w.heap.size + 1) := LB.step ⟨k0, k1, k2⟩ hb1
  clear hb1 HB1 HA1 HB2 HF1 l0 l1 l2 k0 k1 k2
  by_cases h0 : c = 0
  · subst h0
    have HC : Hid (GCk ⟨n, a, la, ca, SA, FA, b, lb, cb, SB, FB⟩ ⟨n', a', la', ca', SA', FA', b', lb', cb', SB', FB'⟩ ⟨fa, fl, fc, F⟩ 0) := hc
    obtain ⟨gg, cA, cB, hFF⟩ := hc.gg
    have hv2 : v = true ↔ KeepL ⟨n, a, la, ca, SA, FA, b, lb, cb, SB, FB⟩ ⟨n', a', la', ca', SA', FA', b', lb', cb', SB', FB'⟩ ⟨fa, fl, fc, F⟩ := by
      rcases hv with ⟨h, _⟩ | ⟨_, h⟩
      · exact absurd rfl h
      · exact h
    clear hv hc
    rcases v with _ | _
    · have HN : Hid (¬ KeepL ⟨n, a, la, ca, SA, FA, b, lb, cb, SB, FB⟩ ⟨n', a', la', ca', SA', FA', b', lb', cb', SB', FB'⟩ ⟨fa, fl, fc, F⟩) := fun h => by have := hv2.2 h; cases this
      clear hv2 gg cA cB hFF hA2 hB2 hF2 X1 X2
      go_wp2_with fail
      go_ret3
      exact ⟨⟨0, _, _, HC.out, rfl, .inr ⟨rfl, .inl ⟨rfl, rfl, HN.out⟩⟩⟩, HB3.out⟩
    · have HN : Hid (KeepL ⟨n, a, la, ca, SA, FA, b, lb, cb, SB, FB⟩ ⟨n', a', la', ca', SA', FA', b', lb', cb', SB', FB'⟩ ⟨fa, fl, fc, F⟩) := hv2.1 rfl
      have HM : Hid (Mp (LA.q ⟨n, a, la, ca, SA, FA, b, lb, cb, SB, FB⟩) (LA.q ⟨n', a', la', ca', SA', FA', b', lb', cb', SB', FB'⟩) (nat F)) := gg.mp
      have hln := gg.ln
      obtain ⟨q, b1, o1, b2, o2, rfl, rfl, rfl, rfl, rfl, h1, h40, hlat, ht1, ht2⟩ := LCk.open cA hA2.2.2.1 hA2.2.2.2
      obtain ⟨q', b1', o1', b2', o2', rfl, rfl, rfl, rfl, rfl, h1', h40', hlat', ht1', ht2'⟩ := LCk.open cB hB2.2.2.1 hB2.2.2.2
      obtain rfl : q = fl := hln.symm
      obtain ⟨fb, fo, rfl, hr⟩ := hF2.2.here h1
      have HK : Hid (∀ wx y, Below w1.heap.size w1 wx → y < q' → Calls Try.prog 27 #[.agg #[.int .i64 (q : Nat), .slice (some ⟨b1, o1, none⟩) q ca, .slice (some ⟨b2, o2, none⟩) q cb], .agg #[.int .i64 (q' : Nat), .slice (some ⟨b1', o1', none⟩) q' ca', .slice (some ⟨b2', o2', none⟩) q' cb'], .slice (some ⟨fb, fo, none⟩) q fc, .int .i64 (y : Nat)] wx
          fun e w' => e = .returned (.int .i64 (bk q (nat2 FA) (nat2 FB) (nat2 FA') (nat F) y : Nat)) ∧ Below wx.heap.size wx w') := fun wx y hx hy =>
        joinUnder_any q b1 o1 ca b2 o2 cb _ _ _ _ q' b1' o1' ca' _ q' cb' _ _ fb fo fc (nat F) y wx h1 h40 hlat.im hlat.ij h40' HM.out hy (ht1.step hx) (ht2.step hx) (ht1'.step hx) (fun k hk => by rw [cell_step hx (hr k hk)]; exact congrArg (fun z => some (Value.int .i64 z)) (hFF k hk))
      have HX1 : Hid (∀ wx, Below w1.heap.size w1 wx → LB wx w.heap.size (q : Nat) (some ⟨b1, o1, none⟩) q ca (some ⟨b2, o2, none⟩) q cb) := fun wx h => LB.step X1 h
      have HX2 : Hid (∀ wx, Below w1.heap.size w1 wx → LB wx (w.heap.size + 1) (q' : Nat) (some ⟨b1', o1', none⟩) q' ca' (some ⟨b2', o2', none⟩) q' cb') := fun wx h => LB.step X2 h
      obtain ⟨g, HG⟩ : ∃ g, Hid (g = bk q (nat2 FA) (nat2 FB) (nat2 FA') (nat F)) := ⟨_, rfl⟩
      have HGF : Hid (∀ k, k < q' → g k = nth (bkL ⟨(q : Nat), some ⟨b1, o1, none⟩, q, ca, SA, FA, some ⟨b2, o2, none⟩, q, cb, SB, FB⟩ ⟨(q' : Nat), some ⟨b1', o1', none⟩, q', ca', SA', FA', some ⟨b2', o2', none⟩, q', cb', SB', FB'⟩ ⟨some ⟨fb, fo, none⟩, q, fc, F⟩) k) := fun k hk => by rw [bkL_at _ _ _ hk, HG.out]; rfl
      have HGL : Hid ((bkL ⟨(q : Nat), some ⟨b1, o1, none⟩, q, ca, SA, FA, some ⟨b2, o2, none⟩, q, cb, SB, FB⟩ ⟨(q' : Nat), some ⟨b1', o1', none⟩, q', ca', SA', FA', some ⟨b2', o2', none⟩, q', cb', SB', FB'⟩ ⟨some ⟨fb, fo, none⟩, q, fc, F⟩).length = q') := bkL_len _ _ _
      rw [← HG.out] at HK
      have p0 := (HX2.out _ (Below.refl _ _)).1
      clear hv2 gg cA cB hFF HM hln hA2 hB2 hF2 hlat ht1 ht2 hlat' ht1' ht2' hr X1 X2 HG
      go_wp2_with (at_make; refine wpList_make_full _ rfl _ _ 25 rfl w1.heap.size 3 i0 (.int .i64 0) 1 Try.underlying25 hi hz0 hz1 .i64 .i64 _ _ q' rfl rfl rfl rfl (by rw [hz2]; omega) (by unfold maxLen; omega) (Nat.le_refl _) ?_; intro w2 hown2 hgrow2; have hb2 : Below w1.heap.size w1 w2 := (Below.refl _ _).grown hgrow2 (Nat.le_refl _) (by simp); have y0 := (HX2.out _ hb2).1)
      have HO2 : Hid (Own w2 w1.heap.size q' (part g 0)) := (own_made hown2).congr fun k hk => by simp [part]
      have HB4 : Hid (Below w1.heap.size w1 w2) := hb2
      clear hown2 hgrow2 hb2 y0 p0 hi hz0 hz1 hz2
      go_loopw [32] (fun i wx => ∃ u : Nat, u ≤ q' ∧ i = .int .i64 u ∧ Hid (Own wx w1.heap.size q' (part g u)) ∧ Hid (Below w1.heap.size w1 wx)) (fun i _ => q' - (intOf i).toNat)
      case atStart => exact ⟨0, Nat.zero_le _, rfl, HO2.out, HB4.out⟩
      case round =>
        clear HO2 HB4
        obtain ⟨u, hu, rfl, HOW, HW⟩ := hrel
        by_cases hlt : u < q'
        · obtain ⟨l0, l1, l2⟩ := HX1.out _ HW.out
          obtain ⟨p0, p1, p2⟩ := HX2.out _ HW.out
          have i1 : (u : Int) < (q' : Int) := by omega
          go_wp2_with fail
          refine (HK.out _ u HW.out hlt).mono ?_
          rintro e w5 ⟨rfl, hb5⟩
          have HO5 : Hid (Own w5 w1.heap.size q' (part g u)) := HOW.out.keep hb5 (HOW.out.lt hlt)
          have HW5 : Hid (Below w1.heap.size w1 w5) := Below.then HW.out hb5
          have hck := (HO5.out u hlt).1
          have hfk := (HO5.out u hlt).2
          clear hb5 l0 l1 l2 p0 p1 p2 HOW HW
          go_wp2_with fail
          go_roundw
          case rel => exact ⟨u + 1, by omega, by go_num, (Own.set HO5.out u _ hlt).congr fun k _ => part_next g u k, Below.setCell (p := ⟨w1.heap.size, u, none⟩) HW5.out (Nat.le_refl _) _⟩
          case measure => simp [intOf]; omega
        · obtain rfl : u = q' := by omega
          have HS : Hid (NSl wr (.slice (some ⟨w1.heap.size, 0, none⟩) u u) (bkL ⟨(q : Nat), some ⟨b1, o1, none⟩, q, ca, SA, FA, some ⟨b2, o2, none⟩, q, cb, SB, FB⟩ ⟨(u : Nat), some ⟨b1', o1', none⟩, u, ca', SA', FA', some ⟨b2', o2', none⟩, u, cb', SB', FB'⟩ ⟨some ⟨fb, fo, none⟩, q, fc, F⟩)) := by
            refine ⟨some ⟨w1.heap.size, 0, none⟩, u, by rw [HGL.out], fun k hk => ⟨_, _, rfl, ?_⟩⟩
            rw [HGL.out] at hk
            rw [Nat.zero_add, (HOW.out k hk).1]
            show _ = some (Value.int .i64 ((nth _ k : Nat) : Int))
            rw [← HGF.out k hk]
            simp [part, hk]
          clear HOW
          go_wp2_with fail
          go_ret3
          exact ⟨⟨0, _, _, HC.out, rfl, .inr ⟨rfl, .inr ⟨rfl, HN.out, HS.out⟩⟩⟩, Below.then HB3.out HW.out⟩
  · have hne : (c != 0) = true := by simpa using h0
    have HC : Hid (GCk ⟨n, a, la, ca, SA, FA, b, lb, cb, SB, FB⟩ ⟨n', a', la', ca', SA', FA', b', lb', cb', SB', FB'⟩ ⟨fa, fl, fc, F⟩ c) := hc
    clear hc hv
    go_wp2_with fail
    go_ret3
    exact ⟨⟨c, _, _, HC.out, rfl, .inl ⟨h0, rfl, rfl⟩⟩, HB3.out⟩
end Go.Proofs.Ytfbgcadlahiljaa
