/-
  What fix.fixed, fix.Fixed and the reference's FixedSet answer; hasselaw.FixFixed returns true for every order and list. Conditions: slices read as slices of numbers; the law: the library's table lies in its variable.
-/
import Derived.Test.YtcfpnljkcaophaaDoorRefMon
import Derived.Test.YtcfpnljkcaophaaDoorFBegun
namespace Go.Proofs.YtcfpnljkcaophaaDoor
open Go.RowKit

/-- Those that go to themselves. -/
def fxs (f : Nat → Nat) (k : Nat) : Nat := setBy (fun i => f i == i) k
theorem fxs_yes {f : Nat → Nat} {k : Nat} (h : f k = k) : fxs f (k + 1) = fxs f k + pw k := setBy_yes (by simpa using h)
theorem fxs_or {f : Nat → Nat} {k : Nat} (h : f k = k) : fxs f (k + 1) = fxs f k ||| pw k := (fxs_yes h).trans (or_pw_add (setBy_lt _ k)).symm
theorem fxs_no {f : Nat → Nat} {k : Nat} (h : f k ≠ k) : fxs f (k + 1) = fxs f k := setBy_no (by simpa using h)
theorem fxs_lt {f : Nat → Nat} {k : Nat} (h : k ≤ 10) : fxs f k < 1024 := Nat.lt_of_lt_of_le (setBy_lt _ k) (pw_le k h)
theorem pw_few {k : Nat} (h : k < 10) : pw k < 1024 := by
  have : pw k < 2 ^ 10 := Nat.pow_lt_pow_right (by decide) (by omega)
  omega

set_option maxHeartbeats 1000000 in
theorem fixed_any (q : Nat) (fa : Option Addr) (fc : Nat) (f : Nat → Nat) (w : World) (h10 : q ≤ 10) (hr : Row w fa q (fun k => (f k : Nat))) :
    Calls Tryd.prog 14 #[.slice fa q fc] w fun e w' => e = .returned (.int .i64 (fxs f q : Nat)) ∧ w = w' := by
  have HR : Hid (Row w fa q (fun k => (f k : Nat))) := hr
  clear hr
  go_enter Tryd.func14, Tryd.ntmps14
  go_wp2_with fail
  go_loopw [3, 8] (fun v i wx => ∃ k : Nat, k ≤ q ∧ i = .int .i64 k ∧ v = .int .i64 (fxs f k : Nat) ∧ wx = w) (fun _ i _ => q - (intOf i).toNat)
  case atStart => exact ⟨0, Nat.zero_le _, rfl, rfl, rfl⟩
  case round =>
    obtain ⟨k, hk, rfl, rfl, rfl⟩ := hrel
    by_cases hlt : k < q
    · obtain ⟨fb, fo, rfl, hc⟩ := HR.out k hlt
      have ik : (k : Int) < (q : Int) := by omega
      by_cases e : f k = k
      · have he : (((f k : Nat) : Int) == ((k : Nat) : Int)) = true := by rw [e]; simp
        have HE : Hid (fxs f (k + 1) = fxs f k ||| pw k) := fxs_or e
        have h1 : fxs f k < 1024 := fxs_lt (by omega)
        have h2 : pw k < 1024 := pw_few (by omega)
        have hor := i64_or (fxs f k) (pw k) (by omega) (by omega)
        have hsh := wrap_pow k (by omega)
        clear e
        go_wp2_with fail
        go_roundw
        case rel => exact ⟨k + 1, by omega, by go_num, by rw [HE.out], by first | rfl | trivial⟩
        case measure => simp [intOf]; omega
      · have he : (((f k : Nat) : Int) == ((k : Nat) : Int)) = false := by simp; omega
        have HE : Hid (fxs f (k + 1) = fxs f k) := fxs_no e
        clear e
        go_wp2_with fail
        go_roundw
        case rel => exact ⟨k + 1, by omega, by go_num, by rw [HE.out], by first | rfl | trivial⟩
        case measure => simp [intOf]; omega
    · obtain rfl : k = q := by omega
      go_wp2_with fail
      go_ret
      exact ⟨rfl, rfl⟩

/-- An order boxed, and a list. -/
structure GX (A : OA) (f : MA) (s : Nat) (w : World) : Prop where
  ia : A.In w
  fi : f.In w
  xa : OB w s A.n A.a A.la A.ca
theorem GX.step {A : OA} {f : MA} {s : Nat} {w w' : World} (h : GX A f s w) (hb : Below w.heap.size w w') : GX A f s w' := ⟨h.ia.step hb, h.fi.step hb, h.xa.step hb⟩
theorem GX.new {A : OA} {f : MA} {w : World} (hA : A.In w) (hf : f.In w) : GX A f w.heap.size (w.alloc (.cells #[.int .i64 A.n, .slice A.a A.la A.ca] 24)) :=
  ⟨hA.step ((Below.refl _ _).alloc (Nat.le_refl _) _), hf.step ((Below.refl _ _).alloc (Nat.le_refl _) _), OB.new _ _ _ _ _⟩
theorem MoCk.zero {X Y : OA} {Z : MA} (hc : MoCk X Y Z 0) : X.Ck 0 ∧ Y.Ck 0 ∧ MCk X.n Y.n Z.la Z.F 0 := by
  rcases hc with ⟨h, _⟩ | ⟨⟨h, _⟩ | h, hm⟩
  · exact absurd rfl h
  · exact absurd rfl h
  · exact ⟨h.1, h.2, hm⟩
/-- What the errno of Fixed must be. -/
def FxCk (A : OA) (f : MA) (c : Int) : Prop := ∃ c0, MoCk A A f c0 ∧ ((c0 ≠ 0 ∧ c = c0) ∨ (c0 = 0 ∧ ((c = 4 ∧ ¬ MonL A A f) ∨ (c = 0 ∧ MonL A A f))))
def FxPost (A : OA) (f : MA) (e : Ending) : Prop := ∃ c v, FxCk A f c ∧ e = .returned (.tuple #[.int .i64 v, .int .i64 c]) ∧ ((c ≠ 0 ∧ v = 0) ∨ (c = 0 ∧ v = (fxs f.f A.q : Nat)))
theorem FxCk.one {A : OA} {f : MA} {c d : Int} (h : FxCk A f c) (h' : FxCk A f d) : c = d := by
  obtain ⟨c0, h1, h2⟩ := h
  obtain ⟨d0, h1', h2'⟩ := h'
  obtain rfl := h1.one h1'
  rcases h2 with ⟨h0, rfl⟩ | ⟨h0, ⟨rfl, h3⟩ | ⟨rfl, h3⟩⟩ <;> rcases h2' with ⟨h0', rfl⟩ | ⟨h0', ⟨rfl, h3'⟩ | ⟨rfl, h3'⟩⟩ <;>
    first | rfl | exact absurd h0 h0' | exact absurd h0' h0 | exact absurd h3 h3' | exact absurd h3' h3
theorem fixedL_any {X : OA} {Z : MA} {wx : World} (hc : MoCk X X Z 0) (hf : Z.In wx) (F : Nat)
    (h : ∀ (q : Nat) (fa : Option Addr) (fc : Nat) (f : Nat → Nat) (w : World), q ≤ 10 → Row w fa q (fun k => (f k : Nat)) → Calls Tryd.prog F #[.slice fa q fc] w fun e w' => e = .returned (.int .i64 (fxs f q : Nat)) ∧ w = w') :
    Calls Tryd.prog F #[Z.v] wx fun e w' => e = .returned (.int .i64 (fxs Z.f X.q : Nat)) ∧ wx = w' := by
  obtain ⟨h1, _, h3⟩ := hc.zero
  obtain ⟨en, el, h10, hg, hr1⟩ := OA.open h1
  rw [en] at h3
  obtain ⟨ef, hff, hr⟩ := MA.open h3
  unfold MA.v
  rw [ef]
  exact h X.q Z.a Z.ca Z.f wx h10 (hr _ hf)

set_option maxHeartbeats 4000000 in
theorem fixFixed0_any (A : OA) (f : MA) (w : World) (hA : A.In w) (hf : f.In w) :
    Calls Tryd.prog 5 #[A.v, f.v] w fun e w' => FxPost A f e ∧ Below w.heap.size w w' := by
  obtain ⟨W, eW⟩ : ∃ W, Hid (W = w.alloc (.cells #[.int .i64 A.n, .slice A.a A.la A.ca] 24)) := ⟨_, rfl⟩
  have HB1 : Hid (Below w.heap.size w W) := by rw [eW.out]; exact (Below.refl _ _).alloc (Nat.le_refl _) _
  have hG : GX A f w.heap.size W := by rw [eW.out]; exact GX.new hA hf
  obtain ⟨X, hX⟩ : ∃ X, X = A := ⟨_, rfl⟩
  obtain ⟨Z, hZ⟩ : ∃ Z, Z = f := ⟨_, rfl⟩
  have HG : Hid (GX X Z w.heap.size W) := by rw [hX, hZ]; exact hG
  have Cm : Hid (∀ wx, GX X Z w.heap.size wx → Calls Tryd.prog 13 #[X.v, X.v, Z.v] wx fun e w' => MoPost X X Z e ∧ Below wx.heap.size wx w') := fun wx h => monotone_any X X Z wx h.ia h.ia h.fi
  have Cf : Hid (∀ wx, GX X Z w.heap.size wx → MoCk X X Z 0 → Calls Tryd.prog 14 #[Z.v] wx fun e w' => e = .returned (.int .i64 (fxs Z.f X.q : Nat)) ∧ wx = w') := fun wx h hc => fixedL_any hc h.fi _ fixed_any
  have HX : Hid (∀ wx, GX X Z w.heap.size wx → OB wx w.heap.size A.n A.a A.la A.ca) := fun wx h => by
    rw [hX] at h
    exact h.xa
  have HV : Hid (X.v = A.v ∧ Z.v = f.v) := by rw [hX, hZ]; exact ⟨rfl, rfl⟩
  rw [HV.out.1, HV.out.2] at Cm
  rw [HV.out.2] at Cf
  rw [← hX, ← hZ, HV.out.1, HV.out.2]
  clear hX hZ hA hf hG HV
  obtain ⟨n0, a, la, ca, F⟩ := A
  obtain ⟨fa, fl, fc, FF⟩ := f
  simp only [OA.v, MA.v] at *
  obtain ⟨l0, l1⟩ := HX.out _ HG.out
  go_enter Tryd.func5, Tryd.ntmps5
  go_wp2_with fail
  rw [← eW.out]
  go_wp2_with fail
  clear eW
  refine (Cm.out _ HG.out).mono ?_
  rintro e w1 ⟨⟨c, v, hc, rfl, hv⟩, hb1⟩
  have HB2 : Hid (Below w.heap.size w w1) := Below.then HB1.out hb1
  have HG1 : Hid (GX X Z w.heap.size w1) := HG.out.step hb1
  have HC : Hid (MoCk X X Z c) := hc
  clear hb1 HG HB1 l0 l1 hc Cm HX
  by_cases h0 : c = 0
  · subst h0
    have hvv : v = true ↔ MonL X X Z := by
      rcases hv with ⟨h, _⟩ | ⟨_, h⟩
      · exact absurd rfl h
      · exact h
    rcases v with _ | _
    · have HO : Hid (FxCk X Z 4) := ⟨0, HC.out, .inr ⟨rfl, .inl ⟨rfl, fun h => by cases hvv.2 h⟩⟩⟩
      clear hvv hv
      go_wp2_with fail
      go_ret2
      exact ⟨⟨4, 0, HO.out, rfl, .inl ⟨by decide, rfl⟩⟩, HB2.out⟩
    · have HO : Hid (FxCk X Z 0) := ⟨0, HC.out, .inr ⟨rfl, .inr ⟨rfl, hvv.1 rfl⟩⟩⟩
      clear hvv hv
      go_wp2_with fail
      refine (Cf.out _ HG1.out HC.out).mono ?_
      rintro e w2 ⟨rfl, hw2⟩
      have hw2' := hw2.symm
      subst hw2'
      clear hw2
      go_wp2_with fail
      go_ret2
      exact ⟨⟨0, _, HO.out, rfl, .inr ⟨rfl, rfl⟩⟩, HB2.out⟩
  · have hne : (c != 0) = true := by simpa using h0
    have HO : Hid (FxCk X Z c) := ⟨c, HC.out, .inl ⟨h0, rfl⟩⟩
    clear hv
    go_wp2_with fail
    go_ret2
    exact ⟨⟨c, 0, HO.out, rfl, .inl ⟨h0, rfl⟩⟩, HB2.out⟩

end Go.Proofs.YtcfpnljkcaophaaDoor
