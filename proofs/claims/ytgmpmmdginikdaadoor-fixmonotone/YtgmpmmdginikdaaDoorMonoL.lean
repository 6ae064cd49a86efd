/-
  hasselaw.FixMonotone returns true for every two orders and list. Conditions: slices read as slices of numbers; the library's table lies in its variable.
-/
import Derived.Test.YtgmpmmdginikdaaDoorRefMon
import Derived.Test.YtgmpmmdginikdaaDoorFBegun
namespace Go.Proofs.YtgmpmmdginikdaaDoor
open Go.RowKit

theorem bool_iff {a b : Bool} {P : Prop} (h : a = true ↔ P) (h' : b = true ↔ P) : a = b := by
  rcases a with _ | _ <;> rcases b with _ | _ <;> simp_all
theorem truthIs_any (c : Int) (b b' : Bool) (w : World) (h : (c ≠ 0 ∧ b = false) ∨ (c = 0 ∧ b = b')) :
    Calls Tryd.prog 12 #[.bool b, .int .i64 c, .int .i64 c, .bool b'] w fun e w' => e = .returned (.bool true) ∧ w = w' := by
  rcases h with ⟨h0, rfl⟩ | ⟨rfl, rfl⟩
  · have hne : (c == 0) = false := by simpa using h0
    cases b'
    · go_enter Tryd.func12, Tryd.ntmps12
      go_wp2
      go_ret
      exact ⟨rfl, rfl⟩
    · go_enter Tryd.func12, Tryd.ntmps12
      go_wp2
      go_ret
      exact ⟨rfl, rfl⟩
  · cases b
    · go_enter Tryd.func12, Tryd.ntmps12
      go_wp2
      go_ret
      exact ⟨rfl, rfl⟩
    · go_enter Tryd.func12, Tryd.ntmps12
      go_wp2
      go_ret
      exact ⟨rfl, rfl⟩


set_option maxHeartbeats 8000000 in
theorem fixMonotone_all (A B : OA) (f : MA) (w : World) (hA : A.In w) (hB : B.In w) (hf : f.In w) (hT : Tab w) :
    Calls Tryd.prog 3 #[A.v, B.v, f.v] w fun e w' => e = .returned (.bool true) ∧ Below w.heap.size w w' := by
  have HB1 : Hid (Below w.heap.size w (two w A B)) := two_below w A B
  have hG := GO.new hA hB hf
  have eW : Hid (two w A B = (w.alloc (.cells #[.int .i64 A.n, .slice A.a A.la A.ca] 24)).alloc (.cells #[.int .i64 B.n, .slice B.a B.la B.ca] 24)) := rfl
  generalize two w A B = W at *
  obtain ⟨X, hX⟩ : ∃ X, X = A := ⟨_, rfl⟩
  obtain ⟨Y, hY⟩ : ∃ Y, Y = B := ⟨_, rfl⟩
  obtain ⟨Z, hZ⟩ : ∃ Z, Z = f := ⟨_, rfl⟩
  have HG : Hid (GO X Y Z w.heap.size W) := by rw [hX, hY, hZ]; exact hG
  have HTT : Hid (Tab w) := hT
  have Cm : Hid (∀ wx, GO X Y Z w.heap.size wx → Calls Tryd.prog 9 #[X.v, Y.v, Z.v] wx fun e w' => MoPost X Y Z e ∧ Below wx.heap.size wx w') := fun wx h => monotone_any X Y Z wx h.ia h.ib h.fi
  have Ct : Hid (∀ wx, GO X Y Z w.heap.size wx → Calls Tryd.prog 10 #[X.v, Y.v, Z.v] wx fun e w' => (∃ c, e = .returned (.int .i64 c) ∧ MoCk X Y Z c) ∧ Below wx.heap.size wx w') := fun wx h => mapsTo_any X Y Z wx h.ia h.ib h.fi
  have Cr : Hid (∀ wx, GO X Y Z w.heap.size wx → MoCk X Y Z 0 → Calls Tryd.prog 13 #[X.v, Y.v, Z.v] wx fun e w' => BIs e (MonL X Y Z) ∧ Below wx.heap.size wx w') := fun wx h hc => refMonL_any h hc
  have HX : Hid (∀ wx, GO X Y Z w.heap.size wx → OB wx w.heap.size A.n A.a A.la A.ca ∧ OB wx (w.heap.size + 1) B.n B.a B.la B.ca) := fun wx h => by
    rw [hX, hY, hZ] at h
    exact ⟨h.xa, h.xb⟩
  have HV : Hid (X.v = A.v ∧ Y.v = B.v ∧ Z.v = f.v) := by rw [hX, hY, hZ]; exact ⟨rfl, rfl, rfl⟩
  rw [HV.out.1, HV.out.2.1, HV.out.2.2] at Cm
  rw [HV.out.1, HV.out.2.1, HV.out.2.2] at Ct
  rw [HV.out.1, HV.out.2.1, HV.out.2.2] at Cr
  clear hX hY hZ hA hB hf hG hT HV
  obtain ⟨n0, a, la, ca, F⟩ := A
  obtain ⟨n1, a', la', ca', F'⟩ := B
  obtain ⟨fa, fl, fc, FF⟩ := f
  simp only [OA.v, MA.v] at *
  obtain ⟨⟨l0, l1⟩, k0, k1⟩ := HX.out _ HG.out
  go_enter Tryd.func3, Tryd.ntmps3
  go_wp2_with fail
  rw [← eW.out]
  go_wp2_with fail
  clear eW
  refine (Cm.out _ HG.out).mono ?_
  rintro e w1 ⟨⟨c, v, hc, rfl, hv⟩, hb1⟩
  have HB2 : Hid (Below w.heap.size w w1) := Below.then HB1.out hb1
  have HG1 : Hid (GO X Y Z w.heap.size w1) := HG.out.step hb1
  have HC : Hid (MoCk X Y Z c) := hc
  have HVV : Hid ((c ≠ 0 ∧ v = false) ∨ (c = 0 ∧ (v = true ↔ MonL X Y Z))) := hv
  clear hb1 HG HB1 l0 l1 k0 k1 hc hv Cm
  obtain ⟨⟨l0, l1⟩, k0, k1⟩ := HX.out _ HG1.out
  go_wp2_with fail
  refine (Ct.out _ HG1.out).mono ?_
  rintro e w2 ⟨⟨c', rfl, hc'⟩, hb2⟩
  obtain rfl := hc'.one HC.out
  have HB3 : Hid (Below w.heap.size w w2) := Below.then HB2.out hb2
  have HG2 : Hid (GO X Y Z w.heap.size w2) := HG1.out.step hb2
  clear hb2 HG1 HB2 l0 l1 k0 k1 hc' Ct
  go_wp2_with fail
  refine (fixBegun_any _ (HTT.out.step HB3.out)).mono ?_
  rintro e w3 ⟨rfl, hb3⟩
  have HB4 : Hid (Below w.heap.size w w3) := Below.then HB3.out hb3
  have HG3 : Hid (GO X Y Z w.heap.size w3) := HG2.out.step hb3
  clear hb3 HG2 HB3 HTT
  by_cases h0 : c' = 0
  · subst h0
    obtain ⟨⟨l0, l1⟩, k0, k1⟩ := HX.out _ HG3.out
    have HVW : Hid (v = true ↔ MonL X Y Z) := by
      rcases HVV.out with ⟨h, _⟩ | ⟨_, h⟩
      · exact absurd rfl h
      · exact h
    clear HVV
    go_wp2_with fail
    refine (Cr.out _ HG3.out HC.out).mono ?_
    rintro e w4 ⟨⟨v', rfl, hv'⟩, hb4⟩
    obtain rfl : v = v' := bool_iff HVW.out hv'
    have HB5 : Hid (Below w.heap.size w w4) := Below.then HB4.out hb4
    clear hb4 HB4 hv' HVW l0 l1 k0 k1
    go_wp2_with fail
    refine (truthIs_any 0 v v _ (.inr ⟨rfl, rfl⟩)).mono ?_
    rintro e w5 ⟨rfl, rfl⟩
    go_wp2_with fail
    go_ret
    exact ⟨rfl, HB5.out⟩
  · have hne : (c' == 0) = false := by simpa using h0
    have HVW : Hid (v = false) := by
      rcases HVV.out with ⟨_, h⟩ | ⟨h, _⟩
      · exact h
      · exact absurd h h0
    clear HVV
    go_wp2_with fail
    refine (truthIs_any c' v false _ (.inl ⟨h0, HVW.out⟩)).mono ?_
    rintro e w5 ⟨rfl, rfl⟩
    go_wp2_with fail
    go_ret
    exact ⟨rfl, HB4.out⟩
theorem fixMonotone_any (n0 : Int) (a0 : Option Addr) (la0 ca0 : Nat) (f0 : Nat → Int) (n1 : Int) (a1 : Option Addr) (la1 ca1 : Nat) (f1 : Nat → Int) (a2 : Option Addr) (b2 c2 : Nat) (f2 : Nat → Int) (w : World)
    (hl0 : la0 ≤ maxLen) (hl1 : la1 ≤ maxLen) (hl2 : b2 ≤ maxLen) (hr0 : Row w a0 la0 f0) (hr1 : Row w a1 la1 f1) (hr2 : Row w a2 b2 f2) (hT : Tab w) :
    Calls Tryd.prog 3 #[.agg #[.int .i64 n0, .slice a0 la0 ca0], .agg #[.int .i64 n1, .slice a1 la1 ca1], .slice a2 b2 c2] w fun e w' => e = .returned (.bool true) ∧ Below w.heap.size w w' :=
  fixMonotone_all ⟨n0, a0, la0, ca0, f0⟩ ⟨n1, a1, la1, ca1, f1⟩ ⟨a2, b2, c2, f2⟩ w ⟨hl0, hr0⟩ ⟨hl1, hr1⟩ ⟨hl2, hr2⟩ hT
end Go.Proofs.YtgmpmmdginikdaaDoor
