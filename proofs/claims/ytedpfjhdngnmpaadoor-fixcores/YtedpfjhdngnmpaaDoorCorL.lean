/-
  hasselaw.FixCores returns true for every order. Conditions: slices read as slices of numbers; the library's table lies in its variable.
-/
import Derived.Test.YtedpfjhdngnmpaaDoorCorR
namespace Go.Proofs.YtedpfjhdngnmpaaDoor
open Go.RowKit

theorem OA.open {A : OA} (h : A.Ck 0) : A.n = (A.q : Nat) ∧ A.la = A.q ∧ A.q ≤ 10 ∧ (∀ k, k < A.q → A.g k < 1024) ∧ ∀ w, A.In w → Row w A.a A.q (fun k => (A.g k : Nat)) := by
  obtain ⟨n, a, la, ca, F⟩ := A
  obtain ⟨en, h10, hrg, hord⟩ := Chk.good h
  have en' : n = (la : Nat) := en
  subst en'
  refine ⟨rfl, rfl, h10, fun k hk => Nat.lt_of_lt_of_le (hrg.small k hk) (pw_le la h10), fun w hw => hrg.row hw.2⟩
theorem numberIs_any (c v v' : Int) (w : World) (h : (c ≠ 0 ∧ v = 0) ∨ (c = 0 ∧ v = v')) :
    Calls Tryd.prog 8 #[.int .i64 v, .int .i64 c, .int .i64 c, .int .i64 v'] w fun e w' => e = .returned (.bool true) ∧ w = w' := by
  have hcc : (c == c) = true := beq_self_eq_true _
  rcases h with ⟨h0, rfl⟩ | ⟨rfl, rfl⟩
  · have hne : (c != 0) = true := by simpa using h0
    go_enter Tryd.func8, Tryd.ntmps8
    go_wp2_with fail
    go_ret
    exact ⟨rfl, rfl⟩
  · have hvv : (v == v) = true := beq_self_eq_true _
    go_enter Tryd.func8, Tryd.ntmps8
    go_wp2_with fail
    go_ret
    exact ⟨rfl, rfl⟩

/-- An order boxed. -/
structure G1 (A : OA) (s : Nat) (w : World) : Prop where
  ia : A.In w
  xa : OB w s A.n A.a A.la A.ca
theorem G1.step {A : OA} {s : Nat} {w w' : World} (h : G1 A s w) (hb : Below w.heap.size w w') : G1 A s w' := ⟨h.ia.step hb, h.xa.step hb⟩
/-- What is left of an order. -/
def coreM (A : OA) : Nat := core A.g (trn A.g A.q) A.q (pw A.q - 1) (pw A.q - 1)
theorem core_at {X : OA} {wx : World} (hX : X.In wx) (hc : X.Ck 0) : Calls Tryd.prog 6 #[X.v] wx fun e w' => e = .returned (.int .i64 (coreM X : Nat)) ∧ Below wx.heap.size wx w' := by
  obtain ⟨en, el, h10, hg, hr⟩ := OA.open hc
  have hpw : ∀ k, k < X.q → X.g k < pw X.q := fun k hk => by
    have := (Chk.good hc).2.2.1.small k (by rw [el]; exact hk)
    rw [el] at this
    exact this
  unfold OA.v
  rw [en, el]
  exact coreOf_any X.q X.a X.ca X.g wx h10 hpw (hr _ hX)
set_option maxHeartbeats 8000000 in
theorem fixCores_all (A : OA) (w : World) (hA : A.In w) (hT : Tab w) :
    Calls Tryd.prog 3 #[A.v] w fun e w' => e = .returned (.bool true) ∧ Below w.heap.size w w' := by
  obtain ⟨W, eW⟩ : ∃ W, Hid (W = w.alloc (.cells #[.int .i64 A.n, .slice A.a A.la A.ca] 24)) := ⟨_, rfl⟩
  have hbW : Below w.heap.size w W := by rw [eW.out]; exact (Below.refl _ _).alloc (Nat.le_refl _) _
  have HB1 : Hid (Below w.heap.size w W) := hbW
  have hG : G1 A w.heap.size W := ⟨hA.step hbW, by rw [eW.out]; exact OB.new _ _ _ _ _⟩
  obtain ⟨X, hX⟩ : ∃ X, X = A := ⟨_, rfl⟩
  have HG : Hid (G1 X w.heap.size W) := by rw [hX]; exact hG
  have HTT : Hid (Tab w) := hT
  have Cm : Hid (∀ wx, G1 X w.heap.size wx → Below w.heap.size w wx → Calls Tryd.prog 4 #[X.v] wx fun e w' => CorePost X e ∧ Below wx.heap.size wx w') := fun wx h hb => core_any X wx h.ia (HTT.out.step hb)
  have Ct : Hid (∀ wx, G1 X w.heap.size wx → Calls Tryd.prog 5 #[X.v] wx fun e w' => (∃ c, e = .returned (.int .i64 c) ∧ X.Ck c) ∧ Below wx.heap.size wx w') := fun wx h => checkOrder_any X.n X.a X.la X.ca X.F wx h.ia.1 h.ia.2
  have Cr : Hid (∀ wx, G1 X w.heap.size wx → X.Ck 0 → Calls Tryd.prog 6 #[X.v] wx fun e w' => e = .returned (.int .i64 (coreM X : Nat)) ∧ Below wx.heap.size wx w') := fun wx h hc => core_at h.ia hc
  have HX : Hid (∀ wx, G1 X w.heap.size wx → OB wx w.heap.size A.n A.a A.la A.ca) := fun wx h => by
    rw [hX] at h
    exact h.xa
  have HV : Hid (X.v = A.v) := by rw [hX]; exact rfl
  rw [HV.out] at Cm
  rw [HV.out] at Ct
  rw [HV.out] at Cr
  clear hX hA hG hT HV hbW
  obtain ⟨n0, a, la, ca, F⟩ := A
  simp only [OA.v] at *
  obtain ⟨l0, l1⟩ := HX.out _ HG.out
  go_enter Tryd.func3, Tryd.ntmps3
  go_wp2_with fail
  rw [← eW.out]
  go_wp2_with fail
  clear eW
  refine (Cm.out _ HG.out HB1.out).mono ?_
  rintro e w1 ⟨⟨c, v, hc, rfl, hv⟩, hb1⟩
  have HB2 : Hid (Below w.heap.size w w1) := Below.then HB1.out hb1
  have HG1 : Hid (G1 X w.heap.size w1) := HG.out.step hb1
  have HC : Hid (X.Ck c) := hc
  have HVV : Hid ((c ≠ 0 ∧ v = 0) ∨ (c = 0 ∧ v = (coreM X : Nat))) := hv
  clear hb1 HG HB1 l0 l1 hc hv Cm
  obtain ⟨l0, l1⟩ := HX.out _ HG1.out
  go_wp2_with fail
  refine (Ct.out _ HG1.out).mono ?_
  rintro e w2 ⟨⟨c', rfl, hc'⟩, hb2⟩
  obtain rfl : c' = c := Chk.unique hc' HC.out
  have HB4 : Hid (Below w.heap.size w w2) := Below.then HB2.out hb2
  have HG3 : Hid (G1 X w.heap.size w2) := HG1.out.step hb2
  clear hb2 HG1 HB2 hc' Ct l0 l1
  have Cb : Hid (∀ wx, Below w.heap.size w wx → Calls Tryd.prog 7 #[] wx fun e w' => e = .returned (.bool true) ∧ Below wx.heap.size wx w') := fun wx h => fixBegun_any _ (HTT.out.step h)
  clear HTT
  by_cases h0 : c' = 0
  · subst h0
    obtain ⟨l0, l1⟩ := HX.out _ HG3.out
    have hvv : v = (coreM X : Nat) := by
      rcases HVV.out with ⟨h, _⟩ | ⟨_, h⟩
      · exact absurd rfl h
      · exact h
    subst hvv
    have HCR := (show Hid _ from Cr.out _ HG3.out HC.out)
    clear HVV Cr
    generalize coreM X = M at *
    go_wp2_with fail
    refine Calls.mono HCR.out ?_
    rintro e w3 ⟨rfl, hb3⟩
    have HB5 : Hid (Below w.heap.size w w3) := Below.then HB4.out hb3
    clear hb3 HCR l0 l1
    go_wp2_with fail
    refine (Cb.out _ HB5.out).mono ?_
    rintro e w4 ⟨rfl, hb4⟩
    have HB6 : Hid (Below w.heap.size w w4) := Below.then HB5.out hb4
    clear hb4 HB5
    go_wp2_with fail
    refine (numberIs_any 0 _ _ _ (.inr ⟨rfl, rfl⟩)).mono ?_
    rintro e w5 ⟨rfl, rfl⟩
    go_wp2_with fail
    go_ret
    exact ⟨rfl, HB6.out⟩
  · have hne : (c' == 0) = false := by simpa using h0
    have hvv : v = 0 := by
      rcases HVV.out with ⟨_, h⟩ | ⟨h, _⟩
      · exact h
      · exact absurd h h0
    subst hvv
    clear HVV Cr
    go_wp2_with fail
    refine (Cb.out _ HB4.out).mono ?_
    rintro e w4 ⟨rfl, hb4⟩
    have HB6 : Hid (Below w.heap.size w w4) := Below.then HB4.out hb4
    clear hb4
    go_wp2_with fail
    refine (numberIs_any c' 0 0 _ (.inl ⟨h0, rfl⟩)).mono ?_
    rintro e w5 ⟨rfl, rfl⟩
    go_wp2_with fail
    go_ret
    exact ⟨rfl, HB6.out⟩
theorem fixCores_any (n0 : Int) (a0 : Option Addr) (la0 ca0 : Nat) (f0 : Nat → Int) (w : World)
    (hl0 : la0 ≤ maxLen) (hr0 : Row w a0 la0 f0) (hT : Tab w) :
    Calls Tryd.prog 3 #[.agg #[.int .i64 n0, .slice a0 la0 ca0]] w fun e w' => e = .returned (.bool true) ∧ Below w.heap.size w w' :=
  fixCores_all ⟨n0, a0, la0, ca0, f0⟩ w ⟨hl0, hr0⟩ hT
end Go.Proofs.YtedpfjhdngnmpaaDoor
