/-
  What fix.fixed, fix.Fixed and the reference's FixedSet answer; hasselaw.FixFixed returns true for every order and list. Conditions: slices read as slices of numbers; the law: the library's table lies in its variable.
  hasselaw.FixCounts returns true for every two orders. Conditions: slices read as slices of numbers; the library's table lies in its variable.
-/
import Derived.Test.YtcdpijbdlefbmaaDoorRefMon
import Derived.Test.YtcdpijbdlefbmaaDoorFBegun
import Derived.Test.YtcdpijbdlefbmaaDoorMpsP
namespace Go.Proofs.YtcdpijbdlefbmaaDoor
open Go.RowKit

/-- Those that go to themselves. -/
def fxs (f : Nat → Nat) (k : Nat) : Nat := setBy (fun i => f i == i) k
theorem fxs_yes {f : Nat → Nat} {k : Nat} (h : f k = k) : fxs f (k + 1) = fxs f k + pw k := setBy_yes (by simpa using h)
theorem fxs_or {f : Nat → Nat} {k : Nat} (h : f k = k) : fxs f (k + 1) = fxs f k ||| pw k := (fxs_yes h).trans (or_pw_add (setBy_lt _ k)).symm
theorem fxs_no {f : Nat → Nat} {k : Nat} (h : f k ≠ k) : fxs f (k + 1) = fxs f k := setBy_no (by simpa using h)
theorem fxs_lt {f : Nat → Nat} {k : Nat} (h : k ≤ 10) : fxs f k < 1024 := Nat.lt_of_lt_of_le (setBy_lt _ k) (pw_le k h)
theorem pw_few {k : Nat} (h : k < 10) : pw k < 1024 := by
  have : pw k < 2 ^ 10 := Nat.pow_lt_pow_right (by decide) (by omega)
  omega

set_option maxHeartbeats 1000000 in
theorem fixed_any (q : Nat) (fa : Option Addr) (fc : Nat) (f : Nat → Nat) (w : World) (h10 : q ≤ 10) (hr : Row w fa q (fun k => (f k : Nat))) :
    Calls Tryd.prog 21 #[.slice fa q fc] w fun e w' => e = .returned (.int .i64 (fxs f q : Nat)) ∧ w = w' := by
  have HR : Hid (Row w fa q (fun k => (f k : Nat))) := hr
  clear hr
  go_enter Tryd.func21, Tryd.ntmps21
  go_wp2_with fail
  go_loopw [3, 8] (fun v i wx => ∃ k : Nat, k ≤ q ∧ i = .int .i64 k ∧ v = .int .i64 (fxs f k : Nat) ∧ wx = w) (fun _ i _ => q - (intOf i).toNat)
  case atStart => exact ⟨0, Nat.zero_le _, rfl, rfl, rfl⟩
  case round =>
    obtain ⟨k, hk, rfl, rfl, rfl⟩ := hrel
    by_cases hlt : k < q
    · obtain ⟨fb, fo, rfl, hc⟩ := HR.out k hlt
      have ik : (k : Int) < (q : Int) := by omega
      by_cases e : f k = k
      · have he : (((f k : Nat) : Int) == ((k : Nat) : Int)) = true := by rw [e]; simp
        have HE : Hid (fxs f (k + 1) = fxs f k ||| pw k) := fxs_or e
        have h1 : fxs f k < 1024 := fxs_lt (by omega)
        have h2 : pw k < 1024 := pw_few (by omega)
        have hor := i64_or (fxs f k) (pw k) (by omega) (by omega)
        have hsh := wrap_pow k (by omega)
        clear e
        go_wp2_with fail
        go_roundw
        case rel => exact ⟨k + 1, by omega, by go_num, by rw [HE.out], by first | rfl | trivial⟩
        case measure => simp [intOf]; omega
      · have he : (((f k : Nat) : Int) == ((k : Nat) : Int)) = false := by simp; omega
        have HE : Hid (fxs f (k + 1) = fxs f k) := fxs_no e
        clear e
        go_wp2_with fail
        go_roundw
        case rel => exact ⟨k + 1, by omega, by go_num, by rw [HE.out], by first | rfl | trivial⟩
        case measure => simp [intOf]; omega
    · obtain rfl : k = q := by omega
      go_wp2_with fail
      go_ret
      exact ⟨rfl, rfl⟩

theorem numberIs_any (c v v' : Int) (w : World) (h : (c ≠ 0 ∧ v = 0) ∨ (c = 0 ∧ v = v')) :
    Calls Tryd.prog 9 #[.int .i64 v, .int .i64 c, .int .i64 c, .int .i64 v'] w fun e w' => e = .returned (.bool true) ∧ w = w' := by
  have hcc : (c == c) = true := beq_self_eq_true _
  rcases h with ⟨h0, rfl⟩ | ⟨rfl, rfl⟩
  · have hne : (c != 0) = true := by simpa using h0
    go_enter Tryd.func9, Tryd.ntmps9
    go_wp2_with fail
    go_ret
    exact ⟨rfl, rfl⟩
  · have hvv : (v == v) = true := beq_self_eq_true _
    go_enter Tryd.func9, Tryd.ntmps9
    go_wp2_with fail
    go_ret
    exact ⟨rfl, rfl⟩

/-- An order boxed, and a list. -/
structure GX (A : OA) (f : MA) (s : Nat) (w : World) : Prop where
  ia : A.In w
  fi : f.In w
  xa : OB w s A.n A.a A.la A.ca
theorem GX.step {A : OA} {f : MA} {s : Nat} {w w' : World} (h : GX A f s w) (hb : Below w.heap.size w w') : GX A f s w' := ⟨h.ia.step hb, h.fi.step hb, h.xa.step hb⟩
theorem GX.new {A : OA} {f : MA} {w : World} (hA : A.In w) (hf : f.In w) : GX A f w.heap.size (w.alloc (.cells #[.int .i64 A.n, .slice A.a A.la A.ca] 24)) :=
  ⟨hA.step ((Below.refl _ _).alloc (Nat.le_refl _) _), hf.step ((Below.refl _ _).alloc (Nat.le_refl _) _), OB.new _ _ _ _ _⟩
theorem MoCk.zero {X Y : OA} {Z : MA} (hc : MoCk X Y Z 0) : X.Ck 0 ∧ Y.Ck 0 ∧ MCk X.n Y.n Z.la Z.F 0 := by
  rcases hc with ⟨h, _⟩ | ⟨⟨h, _⟩ | h, hm⟩
  · exact absurd rfl h
  · exact absurd rfl h
  · exact ⟨h.1, h.2, hm⟩
/-- What the errno of Fixed must be. -/
def FxCk (A : OA) (f : MA) (c : Int) : Prop := ∃ c0, MoCk A A f c0 ∧ ((c0 ≠ 0 ∧ c = c0) ∨ (c0 = 0 ∧ ((c = 4 ∧ ¬ MonL A A f) ∨ (c = 0 ∧ MonL A A f))))
def FxPost (A : OA) (f : MA) (e : Ending) : Prop := ∃ c v, FxCk A f c ∧ e = .returned (.tuple #[.int .i64 v, .int .i64 c]) ∧ ((c ≠ 0 ∧ v = 0) ∨ (c = 0 ∧ v = (fxs f.f A.q : Nat)))
theorem FxCk.one {A : OA} {f : MA} {c d : Int} (h : FxCk A f c) (h' : FxCk A f d) : c = d := by
  obtain ⟨c0, h1, h2⟩ := h
  obtain ⟨d0, h1', h2'⟩ := h'
  obtain rfl := h1.one h1'
  rcases h2 with ⟨h0, rfl⟩ | ⟨h0, ⟨rfl, h3⟩ | ⟨rfl, h3⟩⟩ <;> rcases h2' with ⟨h0', rfl⟩ | ⟨h0', ⟨rfl, h3'⟩ | ⟨rfl, h3'⟩⟩ <;>
    first | rfl | exact absurd h0 h0' | exact absurd h0' h0 | exact absurd h3 h3' | exact absurd h3' h3
theorem fixedL_any {X : OA} {Z : MA} {wx : World} (hc : MoCk X X Z 0) (hf : Z.In wx) (F : Nat)
    (h : ∀ (q : Nat) (fa : Option Addr) (fc : Nat) (f : Nat → Nat) (w : World), q ≤ 10 → Row w fa q (fun k => (f k : Nat)) → Calls Tryd.prog F #[.slice fa q fc] w fun e w' => e = .returned (.int .i64 (fxs f q : Nat)) ∧ w = w') :
    Calls Tryd.prog F #[Z.v] wx fun e w' => e = .returned (.int .i64 (fxs Z.f X.q : Nat)) ∧ wx = w' := by
  obtain ⟨h1, _, h3⟩ := hc.zero
  obtain ⟨en, el, h10, hg, hr1⟩ := OA.open h1
  rw [en] at h3
  obtain ⟨ef, hff, hr⟩ := MA.open h3
  unfold MA.v
  rw [ef]
  exact h X.q Z.a Z.ca Z.f wx h10 (hr _ hf)



/-- How many of the monotone maps leave no point. -/
def nofM (A B : OA) : Nat := ((cmp (upB A.g) (upB B.g) B.q A.q []).filter nofB).length
theorem fT_cntM (A B : OA) : fT (T1 (upB A.g) (upB B.g) yesL) B.q A.q [] = cntM A B := by
  have h := fT_cmp (P := upB A.g) (Q := upB B.g) yesL B.q A.q []
  have hm : monB (upB A.g) (upB B.g) [] = true := by rw [monB_iff]; intro y hy; exact absurd hy (Nat.not_lt_zero _)
  rw [if_pos hm] at h
  have e : (cmp (upB A.g) (upB B.g) B.q A.q []).filter yesL = cmp (upB A.g) (upB B.g) B.q A.q [] := List.filter_eq_self.2 fun _ _ => rfl
  rw [e] at h
  exact h
theorem fT_nofM (A B : OA) : fT (T1 (upB A.g) (upB B.g) nofB) B.q A.q [] = nofM A B := by
  have h := fT_cmp (P := upB A.g) (Q := upB B.g) nofB B.q A.q []
  have hm : monB (upB A.g) (upB B.g) [] = true := by rw [monB_iff]; intro y hy; exact absurd hy (Nat.not_lt_zero _)
  rw [if_pos hm] at h
  exact h
theorem maps_at {X Y : OA} {wx : World} (hX : X.In wx) (hY : Y.In wx) (hc : X.Ck 0) (hc' : Y.Ck 0) (h5 : X.q ≤ 5) (h5' : Y.q ≤ 5) :
    Calls Tryd.prog 7 #[X.v, Y.v, .slice none 0 0] wx fun e w' => e = .returned (.tuple #[.int .i64 (cntM X Y : Nat), .int .i64 (nofM X Y : Nat)]) ∧ Below wx.heap.size wx w' := by
  obtain ⟨en, el, _, hg, hr⟩ := OA.open hc
  obtain ⟨en', el', _, hg', hr'⟩ := OA.open hc'
  unfold OA.v
  rw [en, el, en', el', ← fT_cntM, ← fT_nofM]
  exact mapsFrom_any X.q Y.q X.a Y.a X.ca Y.ca X.g Y.g h5 h5' hg hg' X.q [] _ wx (by simp) (fun i hi => absurd hi (Nat.not_lt_zero _)) (hr _ hX) (hr' _ hY) (.inl ⟨rfl, rfl⟩)
/-- Two orders, boxed. -/
structure GC (A B : OA) (s : Nat) (w : World) : Prop where
  ia : A.In w
  ib : B.In w
  xa : OB w s A.n A.a A.la A.ca
  xb : OB w (s + 1) B.n B.a B.la B.ca
theorem GC.step {A B : OA} {s : Nat} {w w' : World} (h : GC A B s w) (hb : Below w.heap.size w w') : GC A B s w' := ⟨h.ia.step hb, h.ib.step hb, h.xa.step hb, h.xb.step hb⟩
theorem GC.new {A B : OA} {w : World} (hA : A.In w) (hB : B.In w) : GC A B w.heap.size (two w A B) := ⟨hA.step (two_below w A B), hB.step (two_below w A B), two_a w A B, two_b w A B⟩

set_option maxHeartbeats 8000000 in
theorem fixCounts_all (A B : OA) (w : World) (hA : A.In w) (hB : B.In w) (hT : Tab w) :
    Calls Tryd.prog 3 #[A.v, B.v] w fun e w' => e = .returned (.bool true) ∧ Below w.heap.size w w' := by
  have HB1 : Hid (Below w.heap.size w (two w A B)) := two_below w A B
  have hG := GC.new hA hB
  have eW : Hid (two w A B = (w.alloc (.cells #[.int .i64 A.n, .slice A.a A.la A.ca] 24)).alloc (.cells #[.int .i64 B.n, .slice B.a B.la B.ca] 24)) := rfl
  generalize two w A B = W at *
  obtain ⟨X, hX⟩ : ∃ X, X = A := ⟨_, rfl⟩
  obtain ⟨Y, hY⟩ : ∃ Y, Y = B := ⟨_, rfl⟩
  have HG : Hid (GC X Y w.heap.size W) := by rw [hX, hY]; exact hG
  have HTT : Hid (Tab w) := hT
  have Cm : Hid (∀ wx, GC X Y w.heap.size wx → Calls Tryd.prog 5 #[X.v, Y.v] wx fun e w' => CntPost X Y e ∧ Below wx.heap.size wx w') := fun wx h => count_any X Y wx h.ia h.ib
  have Ct : Hid (∀ wx b, GC X Y w.heap.size wx → Two wx b A.n A.a A.la A.ca B.n B.a B.la B.ca → Calls Tryd.prog 6 #[.slice (some ⟨b, 0, none⟩) 2 2] wx fun e w' => (∃ c, e = .returned (.int .i64 c) ∧ Ck2 X Y c) ∧ Below wx.heap.size wx w') := fun wx b h hT => by
    rw [hX, hY] at h
    rw [hX, hY]
    exact checkOrders_any A.n A.a A.la A.ca A.F B.n B.a B.la B.ca B.F b wx h.ia.1 h.ib.1 hT h.ia.2 h.ib.2
  have Cr : Hid (∀ wx, GC X Y w.heap.size wx → X.Ck 0 → Y.Ck 0 → X.q ≤ 5 → Y.q ≤ 5 → Calls Tryd.prog 7 #[X.v, Y.v, .slice none 0 0] wx fun e w' => e = .returned (.tuple #[.int .i64 (cntM X Y : Nat), .int .i64 (nofM X Y : Nat)]) ∧ Below wx.heap.size wx w') := fun wx h hc hc' h5 h5' => maps_at h.ia h.ib hc hc' h5 h5'
  have HX : Hid (∀ wx, GC X Y w.heap.size wx → OB wx w.heap.size A.n A.a A.la A.ca ∧ OB wx (w.heap.size + 1) B.n B.a B.la B.ca) := fun wx h => by
    rw [hX, hY] at h
    exact ⟨h.xa, h.xb⟩
  have HN : Hid (X.Ck 0 → Y.Ck 0 → A.n = (X.q : Nat) ∧ B.n = (Y.q : Nat)) := fun h h' => by
    rw [← hX, ← hY]
    exact ⟨(OA.open h).1, (OA.open h').1⟩
  have HV : Hid (X.v = A.v ∧ Y.v = B.v) := by rw [hX, hY]; exact ⟨rfl, rfl⟩
  rw [HV.out.1, HV.out.2] at Cm
  rw [HV.out.1, HV.out.2] at Cr
  clear hX hY hA hB hG hT HV
  obtain ⟨n0, a, la, ca, F⟩ := A
  obtain ⟨n1, a', la', ca', F'⟩ := B
  simp only [OA.v] at *
  obtain ⟨⟨l0, l1⟩, k0, k1⟩ := HX.out _ HG.out
  go_enter Tryd.func3, Tryd.ntmps3
  go_wp2_with fail
  rw [← eW.out]
  go_wp2_with fail
  clear eW
  refine (Cm.out _ HG.out).mono ?_
  rintro e w1 ⟨⟨c0, c, v, hc0, hc, rfl, hv⟩, hb1⟩
  have HB2 : Hid (Below w.heap.size w w1) := Below.then HB1.out hb1
  have HG1 : Hid (GC X Y w.heap.size w1) := HG.out.step hb1
  have HC0 : Hid (Ck2 X Y c0) := hc0
  have HC : Hid (CCk X Y c0 c) := hc
  have HVV : Hid ((c ≠ 0 ∧ v = 0) ∨ (c = 0 ∧ v = (cntM X Y : Nat))) := hv
  clear hb1 HG HB1 l0 l1 k0 k1 hc hc0 hv Cm
  obtain ⟨⟨l0, l1⟩, k0, k1⟩ := HX.out _ HG1.out
  obtain ⟨U, eU⟩ : ∃ U, Hid (U = w1.alloc (.cells #[.int .i64 n0, .slice a la ca, .int .i64 n1, .slice a' la' ca'] 24)) := ⟨_, rfl⟩
  have bU : Below w1.heap.size w1 U := by rw [eU.out]; exact (Below.refl _ _).alloc (Nat.le_refl _) _
  have HT2 : Hid (Two U w1.heap.size n0 a la ca n1 a' la' ca') := by rw [eU.out]; exact two_new _ _ _ _ _ _ _ _ _
  have HG2 : Hid (GC X Y w.heap.size U) := HG1.out.step bU
  have HB3 : Hid (Below w.heap.size w U) := Below.then HB2.out bU
  clear bU
  go_wp2_with fail
  rw [← eU.out]
  clear eU l0 l1 k0 k1 HB2 HG1
  refine (Ct.out _ _ HG2.out HT2.out).mono ?_
  rintro e w2 ⟨⟨c', rfl, hc'⟩, hb2⟩
  obtain rfl := hc'.one HC0.out
  have HB4 : Hid (Below w.heap.size w w2) := Below.then HB3.out hb2
  have HG3 : Hid (GC X Y w.heap.size w2) := HG2.out.step hb2
  clear hb2 HG2 HB3 hc' Ct HT2
  have Cb : Hid (∀ wx, Below w.heap.size w wx → Calls Tryd.prog 8 #[] wx fun e w' => e = .returned (.bool true) ∧ Below wx.heap.size wx w') := fun wx h => fixBegun_any _ (HTT.out.step h)
  clear HTT
  have HFIN : Hid (∀ (c v v' : Int), ((c ≠ 0 ∧ v = 0) ∨ (c = 0 ∧ v = v')) → ∀ wx, Calls Tryd.prog 9 #[.int .i64 v, .int .i64 c, .int .i64 c, .int .i64 v'] wx fun e w' => e = .returned (.bool true) ∧ wx = w') := fun c v v' h wx => numberIs_any c v v' wx h
  by_cases h0 : c' = 0
  · subst h0
    have hXY : X.Ck 0 ∧ Y.Ck 0 := by
      rcases HC0.out with ⟨h, _⟩ | h
      · exact absurd rfl h
      · exact h
    obtain ⟨en, en'⟩ := HN.out hXY.1 hXY.2
    have HXY : Hid (X.Ck 0 ∧ Y.Ck 0) := hXY
    obtain ⟨q, HQ⟩ : ∃ q, Hid (q = X.q) := ⟨_, rfl⟩
    obtain ⟨q', HQ'⟩ : ∃ q, Hid (q = Y.q) := ⟨_, rfl⟩
    rw [← HQ.out] at en
    rw [← HQ'.out] at en'
    subst en
    subst en'
    obtain ⟨⟨l0, l1⟩, k0, k1⟩ := HX.out _ HG3.out
    clear hXY HN
    by_cases hq : q ≤ 5
    · have g5 : ¬ ((5 : Int) < (q : Int)) := by omega
      by_cases hq' : q' ≤ 5
      · have g5' : ¬ ((5 : Int) < (q' : Int)) := by omega
        have hc : c = 0 := by
          rcases HC.out with ⟨h, _⟩ | ⟨_, ⟨_, h⟩ | ⟨h, _⟩⟩
          · exact absurd rfl h
          · exact absurd ⟨by rw [← HQ.out]; exact hq, by rw [← HQ'.out]; exact hq'⟩ h
          · exact h
        subst hc
        have hvv : v = (cntM X Y : Nat) := by
          rcases HVV.out with ⟨h, _⟩ | ⟨_, h⟩
          · exact absurd rfl h
          · exact h
        subst hvv
        have HCR := (show Hid _ from Cr.out _ HG3.out HXY.out.1 HXY.out.2 (by rw [← HQ.out]; exact hq) (by rw [← HQ'.out]; exact hq'))
        clear HC HVV Cr
        generalize cntM X Y = M at *
        generalize nofM X Y = M' at *
        go_wp2_with fail
        refine Calls.mono HCR.out ?_
        rintro e w3 ⟨rfl, hb3⟩
        have HB5 : Hid (Below w.heap.size w w3) := Below.then HB4.out hb3
        clear hb3 HCR l0 l1 k0 k1 g5 g5'
        go_wp2_with fail
        refine (Cb.out _ HB5.out).mono ?_
        rintro e w4 ⟨rfl, hb4⟩
        have HB6 : Hid (Below w.heap.size w w4) := Below.then HB5.out hb4
        clear hb4 HB5
        go_wp2_with fail
        refine (HFIN.out _ _ _ (.inr ⟨rfl, rfl⟩) _).mono ?_
        rintro e w5 ⟨rfl, rfl⟩
        go_wp2_with fail
        go_ret
        exact ⟨rfl, HB6.out⟩
      · have g5' : (5 : Int) < (q' : Int) := by omega
        have hc : c = 2 := by
          rcases HC.out with ⟨h, _⟩ | ⟨_, ⟨h, _⟩ | ⟨_, h⟩⟩
          · exact absurd rfl h
          · exact h
          · exact absurd (by have := h.2; rw [← HQ'.out] at this; exact this) hq'
        subst hc
        have hvv : v = 0 := by
          rcases HVV.out with ⟨_, h⟩ | ⟨h, _⟩
          · exact h
          · exact absurd h (by decide)
        subst hvv
        clear HC HVV Cr
        go_wp2_with fail
        refine (Cb.out _ HB4.out).mono ?_
        rintro e w4 ⟨rfl, hb4⟩
        have HB6 : Hid (Below w.heap.size w w4) := Below.then HB4.out hb4
        clear hb4 l0 l1 k0 k1
        go_wp2_with fail
        refine (HFIN.out _ _ _ (.inl ⟨by decide, rfl⟩) _).mono ?_
        rintro e w5 ⟨rfl, rfl⟩
        go_wp2_with fail
        go_ret
        exact ⟨rfl, HB6.out⟩
    · have g5 : (5 : Int) < (q : Int) := by omega
      have hc : c = 2 := by
        rcases HC.out with ⟨h, _⟩ | ⟨_, ⟨h, _⟩ | ⟨_, h⟩⟩
        · exact absurd rfl h
        · exact h
        · exact absurd (by have := h.1; rw [← HQ.out] at this; exact this) hq
      subst hc
      have hvv : v = 0 := by
        rcases HVV.out with ⟨_, h⟩ | ⟨h, _⟩
        · exact h
        · exact absurd h (by decide)
      subst hvv
      clear HC HVV Cr
      go_wp2_with fail
      refine (Cb.out _ HB4.out).mono ?_
      rintro e w4 ⟨rfl, hb4⟩
      have HB6 : Hid (Below w.heap.size w w4) := Below.then HB4.out hb4
      clear hb4 l0 l1 k0 k1
      go_wp2_with fail
      refine (HFIN.out _ _ _ (.inl ⟨by decide, rfl⟩) _).mono ?_
      rintro e w5 ⟨rfl, rfl⟩
      go_wp2_with fail
      go_ret
      exact ⟨rfl, HB6.out⟩
  · have hne : (c' == 0) = false := by simpa using h0
    have hc : c = c' := by
      rcases HC.out with ⟨_, h⟩ | ⟨h, _⟩
      · exact h
      · exact absurd h h0
    subst hc
    have hvv : v = 0 := by
      rcases HVV.out with ⟨_, h⟩ | ⟨h, _⟩
      · exact h
      · exact absurd h h0
    subst hvv
    clear HC HVV Cr
    go_wp2_with fail
    refine (Cb.out _ HB4.out).mono ?_
    rintro e w4 ⟨rfl, hb4⟩
    have HB6 : Hid (Below w.heap.size w w4) := Below.then HB4.out hb4
    clear hb4
    go_wp2_with fail
    refine (HFIN.out _ _ _ (.inl ⟨h0, rfl⟩) _).mono ?_
    rintro e w5 ⟨rfl, rfl⟩
    go_wp2_with fail
    go_ret
    exact ⟨rfl, HB6.out⟩
theorem fixCounts_any (n0 : Int) (a0 : Option Addr) (la0 ca0 : Nat) (f0 : Nat → Int) (n1 : Int) (a1 : Option Addr) (la1 ca1 : Nat) (f1 : Nat → Int) (w : World)
    (hl0 : la0 ≤ maxLen) (hl1 : la1 ≤ maxLen) (hr0 : Row w a0 la0 f0) (hr1 : Row w a1 la1 f1) (hT : Tab w) :
    Calls Tryd.prog 3 #[.agg #[.int .i64 n0, .slice a0 la0 ca0], .agg #[.int .i64 n1, .slice a1 la1 ca1]] w fun e w' => e = .returned (.bool true) ∧ Below w.heap.size w w' :=
  fixCounts_all ⟨n0, a0, la0, ca0, f0⟩ ⟨n1, a1, la1, ca1, f1⟩ w ⟨hl0, hr0⟩ ⟨hl1, hr1⟩ hT
end Go.Proofs.YtcdpijbdlefbmaaDoor
