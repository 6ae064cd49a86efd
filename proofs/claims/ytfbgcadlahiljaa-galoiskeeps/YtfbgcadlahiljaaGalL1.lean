/-
  hasselaw.GaloisKeeps and GaloisBacks return true for every two lattices and list. No condition but that slices read as slices of rows and of numbers.
-/
import Derived.Test.YtfbgcadlahiljaaGal6
namespace Go.Proofs.Ytfbgcadlahiljaa
open Go.RowKit

set_option maxHeartbeats 8000000 in
theorem galoisKeeps_all (A B : LA) (f : MA) (w : World) (hA : A.In w) (hB : B.In w) (hf : f.In w) :
    Calls Try.prog 3 #[A.v, B.v, f.v] w fun e w' => e = .returned (.bool true) ∧ Below w.heap.size w w' := by
  have HB1 : Hid (Below w.heap.size w (two w A B)) := two_below w A B
  have hG := GS.new hA hB hf
  have eW : Hid (two w A B = (w.alloc (.cells #[.int .i64 A.n, .slice A.a A.la A.ca, .slice A.b A.lb A.cb] 24)).alloc (.cells #[.int .i64 B.n, .slice B.a B.la B.ca, .slice B.b B.lb B.cb] 24)) := rfl
  generalize two w A B = W at *
  obtain ⟨X, hX⟩ : ∃ X, X = A := ⟨_, rfl⟩
  obtain ⟨Y, hY⟩ : ∃ Y, Y = B := ⟨_, rfl⟩
  obtain ⟨Z, hZ⟩ : ∃ Z, Z = f := ⟨_, rfl⟩
  have HG : Hid (GS X Y Z w.heap.size W) := by rw [hX, hY, hZ]; exact hG
  clear hG
  have Ckeeps : Hid (∀ wx, GS X Y Z w.heap.size wx → Calls Try.prog 9 #[X.v, Y.v, Z.v] wx fun e w' => KPost X Y Z e ∧ Below wx.heap.size wx w') := fun wx h => keeps_any X Y Z wx h.ia h.ib h.fi
  have Cboth : Hid (∀ wx, GS X Y Z w.heap.size wx → Calls Try.prog 10 #[X.v, Y.v, Z.v] wx fun e w' => (∃ c, e = .returned (.int .i64 c) ∧ GCk X Y Z c) ∧ Below wx.heap.size wx w') := fun wx h => checkBoth_any X Y Z wx h.ia h.ib h.fi
  have Crkeeps : Hid (∀ wx, GS X Y Z w.heap.size wx → GCk X Y Z 0 → Calls Try.prog 13 #[X.v, Y.v, Z.v] wx fun e w' => BIs e (KeepL X Y Z) ∧ Below wx.heap.size wx w') := fun wx h hc => refKeepsL_any h hc
  have HE : Hid (X = A ∧ Y = B ∧ Z = f) := ⟨hX, hY, hZ⟩
  have HV : Hid (X.v = A.v ∧ Y.v = B.v ∧ Z.v = f.v) := by rw [hX, hY, hZ]; exact ⟨rfl, rfl, rfl⟩
  have HX : Hid (∀ wx, GS X Y Z w.heap.size wx → A.Bx wx w.heap.size ∧ B.Bx wx (w.heap.size + 1)) := fun wx h => by
    have h1 := h.xa
    have h2 := h.xb
    rw [hX] at h1
    rw [hY] at h2
    exact ⟨h1, h2⟩
  rw [HV.out.1, HV.out.2.1, HV.out.2.2] at Ckeeps
  rw [HV.out.1, HV.out.2.1, HV.out.2.2] at Cboth
  rw [HV.out.1, HV.out.2.1, HV.out.2.2] at Crkeeps
  clear hX hY hZ hA hB hf HV
  obtain ⟨n, a, la, ca, SA, FA, b, lb, cb, SB, FB⟩ := A
  obtain ⟨n', a', la', ca', SA', FA', b', lb', cb', SB', FB'⟩ := B
  obtain ⟨fa, fl, fc, F⟩ := f
  simp only [LA.v, MA.v, LA.Bx] at *
  obtain ⟨⟨l0, l1, l2⟩, k0, k1, k2⟩ := HX.out _ HG.out
  go_enter Try.func3, Try.ntmps3
  go_wp2_with fail
  rw [← eW.out]
  go_wp2_with fail
  clear eW
  refine (Ckeeps.out _ HG.out).mono ?_
  rintro e w1 ⟨⟨c, v, hc, rfl, hv⟩, hb1⟩
  have HB2 : Hid (Below w.heap.size w w1) := Below.then HB1.out hb1
  have HG1 : Hid (GS X Y Z w.heap.size w1) := HG.out.step hb1
  have HC : Hid (GCk X Y Z c) := hc
  clear hb1 HG HB1 l0 l1 l2 k0 k1 k2 hc Ckeeps
  obtain ⟨⟨l0, l1, l2⟩, k0, k1, k2⟩ := HX.out _ HG1.out
  go_wp2_with fail
  refine (Cboth.out _ HG1.out).mono ?_
  rintro e w2 ⟨⟨c', rfl, hc'⟩, hb2⟩
  obtain rfl := hc'.one HC.out
  have HB3 : Hid (Below w.heap.size w w2) := Below.then HB2.out hb2
  have HG2 : Hid (GS X Y Z w.heap.size w2) := HG1.out.step hb2
  clear hb2 HG1 HB2 l0 l1 l2 k0 k1 k2 hc' Cboth
  go_wp2_with fail
  refine (galoisBegun_any _).mono ?_
  rintro e w3 ⟨rfl, hb3⟩
  have HB4 : Hid (Below w.heap.size w w3) := Below.then HB3.out hb3
  have HG3 : Hid (GS X Y Z w.heap.size w3) := HG2.out.step hb3
  clear hb3 HG2 HB3
  by_cases h0 : c' = 0
  · subst h0
    obtain ⟨⟨l0, l1, l2⟩, k0, k1, k2⟩ := HX.out _ HG3.out
    have HVV : Hid (v = true ↔ KeepL X Y Z) := by
      rcases hv with ⟨h, _⟩ | ⟨_, h⟩
      · exact absurd rfl h
      · exact h
    clear hv
    go_wp2_with fail
    refine (Crkeeps.out _ HG3.out HC.out).mono ?_
    rintro e w4 ⟨⟨v', rfl, hv'⟩, hb4⟩
    obtain rfl : v = v' := bool_iff HVV.out hv'
    have HB5 : Hid (Below w.heap.size w w4) := Below.then HB4.out hb4
    clear hb4 HB4 hv' HVV l0 l1 l2 k0 k1 k2
    go_wp2_with fail
    refine (truthIs_any 0 v v _ (.inr ⟨rfl, rfl⟩)).mono ?_
    rintro e w5 ⟨rfl, rfl⟩
    go_wp2_with fail
    go_ret
    exact ⟨rfl, HB5.out⟩
  · have hne : (c' == 0) = false := by simpa using h0
    have HVV : Hid (v = false) := by
      rcases hv with ⟨_, h⟩ | ⟨h, _⟩
      · exact h
      · exact absurd h h0
    clear hv
    go_wp2_with fail
    refine (truthIs_any c' v false _ (.inl ⟨h0, HVV.out⟩)).mono ?_
    rintro e w5 ⟨rfl, rfl⟩
    go_wp2_with fail
    go_ret
    exact ⟨rfl, HB4.out⟩
theorem galoisKeeps_any (n0 : Int) (a0 : Option Addr) (la0 ca0 : Nat) (SA0 : Nat → Option Addr × Nat × Nat) (FA0 : Nat → Nat → Int) (b0 : Option Addr) (lb0 cb0 : Nat) (SB0 : Nat → Option Addr × Nat × Nat) (FB0 : Nat → Nat → Int)
    (n1 : Int) (a1 : Option Addr) (la1 ca1 : Nat) (SA1 : Nat → Option Addr × Nat × Nat) (FA1 : Nat → Nat → Int) (b1 : Option Addr) (lb1 cb1 : Nat) (SB1 : Nat → Option Addr × Nat × Nat) (FB1 : Nat → Nat → Int) (a2 : Option Addr) (b2 c2 : Nat) (f2 : Nat → Int) (w : World)
    (hla0 : la0 ≤ maxLen) (hlb0 : lb0 ≤ maxLen) (hla1 : la1 ≤ maxLen) (hlb1 : lb1 ≤ maxLen) (hl2 : b2 ≤ maxLen) (hra0 : RR w a0 la0 SA0 FA0) (hrb0 : RR w b0 lb0 SB0 FB0) (hra1 : RR w a1 la1 SA1 FA1) (hrb1 : RR w b1 lb1 SB1 FB1) (hr2 : Row w a2 b2 f2) :
    Calls Try.prog 3 #[.agg #[.int .i64 n0, .slice a0 la0 ca0, .slice b0 lb0 cb0], .agg #[.int .i64 n1, .slice a1 la1 ca1, .slice b1 lb1 cb1], .slice a2 b2 c2] w fun e w' => e = .returned (.bool true) ∧ Below w.heap.size w w' :=
  galoisKeeps_all ⟨n0, a0, la0, ca0, SA0, FA0, b0, lb0, cb0, SB0, FB0⟩ ⟨n1, a1, la1, ca1, SA1, FA1, b1, lb1, cb1, SB1, FB1⟩ ⟨a2, b2, c2, f2⟩ w ⟨hla0, hlb0, hra0, hrb0⟩ ⟨hla1, hlb1, hra1, hrb1⟩ ⟨hl2, hr2⟩

set_option maxHeartbeats 8000000 in
theorem galoisBacks_all (A B : LA) (f : MA) (w : World) (hA : A.In w) (hB : B.In w) (hf : f.In w) :
    Calls Try.prog 4 #[A.v, B.v, f.v] w fun e w' => e = .returned (.bool true) ∧ Below w.heap.size w w' := by
  have HB1 : Hid (Below w.heap.size w (two w A B)) := two_below w A B
  have hG := GS.new hA hB hf
  have eW : Hid (two w A B = (w.alloc (.cells #[.int .i64 A.n, .slice A.a A.la A.ca, .slice A.b A.lb A.cb] 24)).alloc (.cells #[.int .i64 B.n, .slice B.a B.la B.ca, .slice B.b B.lb B.cb] 24)) := rfl
  generalize two w A B = W at *
  obtain ⟨X, hX⟩ : ∃ X, X = A := ⟨_, rfl⟩
  obtain ⟨Y, hY⟩ : ∃ Y, Y = B := ⟨_, rfl⟩
  obtain ⟨Z, hZ⟩ : ∃ Z, Z = f := ⟨_, rfl⟩
  have HG : Hid (GS X Y Z w.heap.size W) := by rw [hX, hY, hZ]; exact hG
  clear hG
  have Cback : Hid (∀ wx, GS X Y Z w.heap.size wx → Calls Try.prog 14 #[X.v, Y.v, Z.v] wx fun e w' => BPost X Y Z e w' ∧ Below wx.heap.size wx w') := fun wx h => back_any X Y Z wx h.ia h.ib h.fi
  have Cboth : Hid (∀ wx, GS X Y Z w.heap.size wx → Calls Try.prog 10 #[X.v, Y.v, Z.v] wx fun e w' => (∃ c, e = .returned (.int .i64 c) ∧ GCk X Y Z c) ∧ Below wx.heap.size wx w') := fun wx h => checkBoth_any X Y Z wx h.ia h.ib h.fi
  have Crback : Hid (∀ wx, GS X Y Z w.heap.size wx → GCk X Y Z 0 → Calls Try.prog 15 #[X.v, Y.v, Z.v] wx fun e w' => (∃ v ok, e = .returned (.tuple #[v, .bool ok]) ∧ ((ok = false ∧ v = .slice none 0 0 ∧ ¬ KeepL X Y Z) ∨ (ok = true ∧ KeepL X Y Z ∧ NSl w' v (bkL X Y Z)))) ∧ Below wx.heap.size wx w') := fun wx h hc => backOfL_any h hc
  have HE : Hid (X = A ∧ Y = B ∧ Z = f) := ⟨hX, hY, hZ⟩
  have HV : Hid (X.v = A.v ∧ Y.v = B.v ∧ Z.v = f.v) := by rw [hX, hY, hZ]; exact ⟨rfl, rfl, rfl⟩
  have HX : Hid (∀ wx, GS X Y Z w.heap.size wx → A.Bx wx w.heap.size ∧ B.Bx wx (w.heap.size + 1)) := fun wx h => by
    have h1 := h.xa
    have h2 := h.xb
    rw [hX] at h1
    rw [hY] at h2
    exact ⟨h1, h2⟩
  rw [HV.out.1, HV.out.2.1, HV.out.2.2] at Cback
  rw [HV.out.1, HV.out.2.1, HV.out.2.2] at Cboth
  rw [HV.out.1, HV.out.2.1, HV.out.2.2] at Crback
  clear hX hY hZ hA hB hf HV
  obtain ⟨n, a, la, ca, SA, FA, b, lb, cb, SB, FB⟩ := A
  obtain ⟨n', a', la', ca', SA', FA', b', lb', cb', SB', FB'⟩ := B
  obtain ⟨fa, fl, fc, F⟩ := f
  simp only [LA.v, MA.v, LA.Bx] at *
  obtain ⟨⟨l0, l1, l2⟩, k0, k1, k2⟩ := HX.out _ HG.out
  go_enter Try.func4, Try.ntmps4
  go_wp2_with fail
  rw [← eW.out]
  go_wp2_with fail
  clear eW
  refine (Cback.out _ HG.out).mono ?_
  rintro e w1 ⟨⟨c, v, ok, hc, rfl, hv⟩, hb1⟩
  have HB2 : Hid (Below w.heap.size w w1) := Below.then HB1.out hb1
  have HG1 : Hid (GS X Y Z w.heap.size w1) := HG.out.step hb1
  have HC : Hid (GCk X Y Z c) := hc
  clear hb1 HG HB1 l0 l1 l2 k0 k1 k2 hc Cback
  obtain ⟨⟨l0, l1, l2⟩, k0, k1, k2⟩ := HX.out _ HG1.out
  have HVA : Hid ((c ≠ 0 ∧ ok = false ∧ v = .slice none 0 0) ∨ (c = 0 ∧ ((ok = false ∧ v = .slice none 0 0 ∧ ¬ KeepL X Y Z) ∨ (ok = true ∧ KeepL X Y Z ∧ NSl w1 v (bkL X Y Z))))) := hv
  clear hv
  go_wp2_with fail
  refine (Cboth.out _ HG1.out).mono ?_
  rintro e w2 ⟨⟨c', rfl, hc'⟩, hb2⟩
  obtain rfl := hc'.one HC.out
  have HB3 : Hid (Below w.heap.size w w2) := Below.then HB2.out hb2
  have HG2 : Hid (GS X Y Z w.heap.size w2) := HG1.out.step hb2
  have hv2 : (c' ≠ 0 ∧ ok = false ∧ v = .slice none 0 0) ∨ (c' = 0 ∧ ((ok = false ∧ v = .slice none 0 0 ∧ ¬ KeepL X Y Z) ∨ (ok = true ∧ KeepL X Y Z ∧ NSl w2 v (bkL X Y Z)))) := by
    rcases HVA.out with h | ⟨h0, h | ⟨h1, h2, h3⟩⟩
    · exact .inl h
    · exact .inr ⟨h0, .inl h⟩
    · exact .inr ⟨h0, .inr ⟨h1, h2, h3.below hb2⟩⟩
  clear hb2 HG1 HB2 l0 l1 l2 k0 k1 k2 hc' Cboth HVA
  rcases hv2 with ⟨h0, rfl, rfl⟩ | ⟨rfl, hv2⟩
  · have hne : (c' == 0) = false := by simpa using h0
    go_wp2_with fail
    refine (galoisBegun_any _).mono ?_
    rintro e w3 ⟨rfl, hb3⟩
    have HB4 : Hid (Below w.heap.size w w3) := Below.then HB3.out hb3
    clear hb3 HB3
    go_wp2_with fail
    refine (numbersAre_any c' [] _ _ _ (by unfold maxLen; simp) (.inl ⟨h0, rfl, rfl⟩)).mono ?_
    rintro e w4 ⟨rfl, hb4⟩
    have HB5 : Hid (Below w.heap.size w w4) := Below.then HB4.out hb4
    clear hb4 HB4
    go_wp2_with fail
    go_ret
    exact ⟨rfl, HB5.out⟩
  · obtain ⟨⟨l0, l1, l2⟩, k0, k1, k2⟩ := HX.out _ HG2.out
    have HV2 : Hid ((ok = false ∧ v = .slice none 0 0 ∧ ¬ KeepL X Y Z) ∨ (ok = true ∧ KeepL X Y Z ∧ NSl w2 v (bkL X Y Z))) := hv2
    have hLEN : (bkL X Y Z).length ≤ maxLen := by
      rw [bkL_len]; have := HC.out.gg.1.b40; unfold maxLen; omega
    have HLEN : Hid ((bkL X Y Z).length ≤ maxLen) := hLEN
    clear hLEN
    clear hv2
    go_wp2_with fail
    refine (Crback.out _ HG2.out HC.out).mono ?_
    rintro e w3 ⟨⟨v', ok', rfl, hv'⟩, hb3⟩
    have HB4 : Hid (Below w.heap.size w w3) := Below.then HB3.out hb3
    clear l0 l1 l2 k0 k1 k2
    have key : ok = ok' ∧ ∃ l : List Nat, l.length ≤ maxLen ∧ NSl w3 v l ∧ NSl w3 v' l := by
      rcases HV2.out with ⟨h1, h2, h3⟩ | ⟨h1, h2, h3⟩ <;> rcases hv' with ⟨h1', h2', h3'⟩ | ⟨h1', h2', h3'⟩
      · exact ⟨h1.trans h1'.symm, [], Nat.zero_le _, ⟨none, 0, h2, fun k hk => absurd hk (Nat.not_lt_zero _)⟩, ⟨none, 0, h2', fun k hk => absurd hk (Nat.not_lt_zero _)⟩⟩
      · exact absurd h2' h3
      · exact absurd h2 h3'
      · exact ⟨h1.trans h1'.symm, bkL X Y Z, HLEN.out, h3.below hb3, h3'⟩
    obtain ⟨rfl, l, hll, hn1, hn2⟩ := key
    have HN1 : Hid (NSl w3 v l) := hn1
    have HN2 : Hid (NSl w3 v' l) := hn2
    have hok : (ok == ok) = true := beq_self_eq_true _
    clear hb3 HB3 hv' HV2 hn1 hn2
    go_wp2_with fail
    refine (galoisBegun_any _).mono ?_
    rintro e w4 ⟨rfl, hb4⟩
    have HB5 : Hid (Below w.heap.size w w4) := Below.then HB4.out hb4
    have HM1 : Hid (NSl w4 v l) := HN1.out.below hb4
    have HM2 : Hid (NSl w4 v' l) := HN2.out.below hb4
    clear hb4 HB4 HN1 HN2
    go_wp2_with fail
    refine (numbersAre_any 0 l _ _ _ hll (.inr ⟨rfl, HM1.out, HM2.out⟩)).mono ?_
    rintro e w5 ⟨rfl, hb5⟩
    have HB6 : Hid (Below w.heap.size w w5) := Below.then HB5.out hb5
    clear hb5 HB5
    go_wp2_with fail
    go_ret
    exact ⟨rfl, HB6.out⟩
theorem galoisBacks_any (n0 : Int) (a0 : Option Addr) (la0 ca0 : Nat) (SA0 : Nat → Option Addr × Nat × Nat) (FA0 : Nat → Nat → Int) (b0 : Option Addr) (lb0 cb0 : Nat) (SB0 : Nat → Option Addr × Nat × Nat) (FB0 : Nat → Nat → Int)
    (n1 : Int) (a1 : Option Addr) (la1 ca1 : Nat) (SA1 : Nat → Option Addr × Nat × Nat) (FA1 : Nat → Nat → Int) (b1 : Option Addr) (lb1 cb1 : Nat) (SB1 : Nat → Option Addr × Nat × Nat) (FB1 : Nat → Nat → Int) (a2 : Option Addr) (b2 c2 : Nat) (f2 : Nat → Int) (w : World)
    (hla0 : la0 ≤ maxLen) (hlb0 : lb0 ≤ maxLen) (hla1 : la1 ≤ maxLen) (hlb1 : lb1 ≤ maxLen) (hl2 : b2 ≤ maxLen) (hra0 : RR w a0 la0 SA0 FA0) (hrb0 : RR w b0 lb0 SB0 FB0) (hra1 : RR w a1 la1 SA1 FA1) (hrb1 : RR w b1 lb1 SB1 FB1) (hr2 : Row w a2 b2 f2) :
    Calls Try.prog 4 #[.agg #[.int .i64 n0, .slice a0 la0 ca0, .slice b0 lb0 cb0], .agg #[.int .i64 n1, .slice a1 la1 ca1, .slice b1 lb1 cb1], .slice a2 b2 c2] w fun e w' => e = .returned (.bool true) ∧ Below w.heap.size w w' :=
  galoisBacks_all ⟨n0, a0, la0, ca0, SA0, FA0, b0, lb0, cb0, SB0, FB0⟩ ⟨n1, a1, la1, ca1, SA1, FA1, b1, lb1, cb1, SB1, FB1⟩ ⟨a2, b2, c2, f2⟩ w ⟨hla0, hlb0, hra0, hrb0⟩ ⟨hla1, hlb1, hra1, hrb1⟩ ⟨hl2, hr2⟩
end Go.Proofs.Ytfbgcadlahiljaa
