/-
  For every number of workers and every list of events hasselaw.ClockAhead and ClockTicks return true, and write nothing that was there. Conditions: a slice that reads as a slice of events, and has room for them.
-/
import Derived.Test.YtomoodpgmkjacaaClL1
import Derived.Test.YtomoodpgmkjacaaRefLevel
import Derived.Deep.Cut
namespace Go.Proofs.Ytomoodpgmkjacaa
set_option maxRecDepth 100000
open Go.RowKit

set_option maxHeartbeats 2000000 in
theorem clockTicks_any (Wk : Int) (a : Option Addr) (len cap : Nat) (E : Nat → Int × Int × Int) (w : World) (hl : len ≤ maxLen) (hc : len ≤ cap) (hr : ERow w a len E) :
    Calls Try.prog 5 #[.int .i64 Wk, .slice a len cap] w fun e w' => e = .returned (.bool true) ∧ Below w.heap.size w w' := by
  have HR : Hid (ERow w a len E) := hr
  have HL : Hid (len ≤ maxLen) := hl
  clear hr hl
  go_enter Try.func5, Try.ntmps5
  go_wp2_with fail
  refine (ticks_any Wk a len cap E _ HL.out hc HR.out).mono ?_
  rintro e w1 ⟨⟨c, v, hck, rfl, hv⟩, hb1⟩
  have HB1 : Hid (Below w.heap.size w w1) := hb1
  have HC : Hid (CkE Wk len E c) := hck
  have HV : Hid ((c ≠ 0 ∧ v = .slice none 0 0) ∨ (c = 0 ∧ NSl w1 v (mapTo (tck E len) len))) := hv
  clear hb1 hck hv
  go_wp2_with fail
  refine (checkEvents_any Wk a len cap E _ HL.out (HR.out.below HB1.out)).mono ?_
  rintro e w2 ⟨⟨d, rfl, hd⟩, hb2⟩
  have HB2 : Hid (Below w.heap.size w w2) := Below.then HB1.out hb2
  obtain rfl : d = c := hd.unique HC.out
  by_cases h0 : d = 0
  · subst h0
    obtain ⟨⟨_, _, h10⟩, hev⟩ := HC.out.good
    have HV2 : Hid (NSl w2 v (mapTo (tck E len) len)) := by
      rcases HV.out with ⟨h, _⟩ | ⟨_, h⟩
      · exact absurd rfl h
      · exact h.below hb2
    have HR2 : Hid (ERow w2 a len E) := HR.out.below HB2.out
    have HLN : Hid ((mapTo (tck E len) len).length ≤ maxLen) := by
      show _ ≤ _; rw [mapTo_len]; unfold maxLen; omega
    obtain ⟨i0, hi, hz0, hz1, hz2⟩ := info_parts Try.info3
    have HTK : Hid (∀ k, ht (ahd E len) len k ≤ 1024) := fun k => ht_small _ h10 k
    clear hb2 hd hev HV
    go_wp2_with fail
    go_loopw [8, 9] (fun x t wx => ∃ k : Nat, k ≤ len ∧ t = .int .i64 k ∧ wx.ownsRow w2.heap.size 3 1 x (mapTo (tck E len) k).length (natVals (mapTo (tck E len) k)) ∧ Hid (Below w2.heap.size w2 wx)) (fun _ t _ => len - (intOf t).toNat)
    case atStart => exact ⟨0, Nat.zero_le _, rfl, World.ownsRow_nil _ _ _ _, Below.refl _ _⟩
    case round =>
      obtain ⟨k, hk, rfl, hown, hB⟩ := hrel
      by_cases hlt : k < len
      · have hlt' : (k : Int) < (len : Int) := by omega
        have HO1 : Hid (wr.ownsRow w2.heap.size 3 1 u8 (mapTo (tck E len) k).length (natVals (mapTo (tck E len) k))) := hown
        clear hown
        go_wp2_with fail
        refine (aheadOf_any a len cap E _ h10 (HR2.out.below hB.out)).mono ?_
        rintro e w3 ⟨⟨a3, cap3, rfl, hr3, _⟩, hb3⟩
        have HB3 : Hid (Below w2.heap.size w2 w3) := Below.then hB.out hb3
        have HR3 : Hid (Row w3 a3 len (fun k => (ahd E len k : Nat))) := hr3
        have HO3 : Hid (w3.ownsRow w2.heap.size 3 1 u8 (mapTo (tck E len) k).length (natVals (mapTo (tck E len) k))) := owns_below HO1.out hb3
        clear hb3 hr3 HO1 hB
        go_wp2_with fail
        refine (ht_any len a3 cap3 (ahd E len) k _ h10 (ahd_sm E len) (ahd_ord h10) hlt HR3.out).mono ?_
        rintro e w4 ⟨rfl, hb4⟩
        have HB4 : Hid (Below w2.heap.size w2 w4) := Below.then HB3.out hb4
        have hown4 : w4.ownsRow w2.heap.size 3 1 u8 (mapTo (tck E len) k).length (natVals (mapTo (tck E len) k)) := owns_below HO3.out hb4
        have hsz : w2.heap.size ≤ w4.heap.size := HB4.out.size
        have htk := HTK.out k
        have HE : Hid (mapTo (tck E len) (k + 1) = mapTo (tck E len) k ++ [ht (ahd E len) len k + 1]) := mapTo_succ _ _
        have hlen3 : (mapTo (tck E len) k).length ≤ 10 := by rw [mapTo_len]; omega
        generalize ht (ahd E len) len k = T at *
        obtain ⟨L, HLL⟩ : ∃ L, Hid (L = mapTo (tck E len) k) := ⟨_, rfl⟩
        rw [← HLL.out] at hown4 hlen3
        clear hb4 HO3 HR3 HB3
        go_wp2_with (at_builtin; refine wpList_append_own _ rfl _ _ 27 rfl w2.heap.size 3 i0 (.int .i64 0) 1 8 Try.underlying27 hi hz0 hz1 hz2 rfl (by decide) _ _ _ rfl (hown4.alloc _) ⟨w4.heap.size, 0, none⟩ 1 1 [.int .i64 ((T : Int) + 1)] rfl rfl ?c1 ?c2 ?c3 ?c4 ?c5 ?_)
        case c1 =>
          intro j u hj
          match j, hj with
          | 0, hj => simp at hj; subst hj; simp [Addr.add]
        case c2 => intro u hu; simp at hu; subst hu; rfl
        case c3 => unfold maxLen; omega
        case c4 => omega
        case c5 => simp; omega
        intro v' w5 hown' hgrow _
        have HB6 : Hid (Below w2.heap.size w2 w5) := below_append2 HB4.out hown4 hgrow
        have HO6 : Hid (w5.ownsRow w2.heap.size 3 1 v' (mapTo (tck E len) (k + 1)).length (natVals (mapTo (tck E len) (k + 1)))) := by
          rw [HE.out, ← HLL.out, natVals_append, List.length_append]; exact hown'
        clear hown' hgrow hown4 HB4 hlen3 hsz HLL htk
        go_wp2_with fail
        go_roundw
        case rel => exact ⟨k + 1, by omega, by go_num, HO6.out, HB6.out⟩
        case measure => simp [intOf]; omega
      · obtain rfl : k = len := by omega
        have HV3 : Hid (NSl wr v (mapTo (tck E k) k)) := HV2.out.below hB.out
        have HV4 : Hid (NSl wr u8 (mapTo (tck E k) k)) := owns_nats hown
        have HB3 : Hid (Below w.heap.size w wr) := Below.then HB2.out hB.out
        clear hown hB
        go_wp2_with fail
        refine (clockBegun_any _).mono ?_
        rintro e w5 ⟨rfl, hb5⟩
        have HB5 : Hid (Below w.heap.size w w5) := Below.then HB3.out hb5
        have HV5 : Hid (NSl w5 v (mapTo (tck E k) k)) := HV3.out.below hb5
        have HV6 : Hid (NSl w5 u8 (mapTo (tck E k) k)) := HV4.out.below hb5
        clear hb5 HV3 HV4
        go_wp2_with fail
        refine (numbersAre_any 0 (mapTo (tck E k) k) v u8 _ HLN.out (.inr ⟨rfl, HV5.out, HV6.out⟩)).mono ?_
        rintro e w6 ⟨rfl, hb6⟩
        have HB6 : Hid (Below w.heap.size w w6) := Below.then HB5.out hb6
        clear hb6
        go_wp2_with fail
        go_ret
        exact ⟨rfl, HB6.out⟩
  · have h0' : (d == 0) = false := by simpa using h0
    obtain rfl : v = .slice none 0 0 := by
      rcases HV.out with ⟨_, h⟩ | ⟨h, _⟩
      · exact h
      · exact absurd h h0
    clear HV hb2 hd
    go_wp2_with fail
    go_loopw [8, 9] (fun x t wx => x = .slice none 0 0 ∧ t = .int .i64 0 ∧ Hid (Below w.heap.size w wx)) (fun _ _ _ => 0)
    case atStart => exact ⟨rfl, rfl, HB2.out⟩
    case round =>
      obtain ⟨rfl, rfl, hB⟩ := hrel
      clear HB2
      go_wp2_with fail
      refine (clockBegun_any _).mono ?_
      rintro e w5 ⟨rfl, hb5⟩
      have HB5 : Hid (Below w.heap.size w w5) := Below.then hB.out hb5
      clear hb5
      go_wp2_with fail
      refine (numbersAre_any d [] _ _ _ (Nat.zero_le _) (.inl ⟨h0, rfl, rfl⟩)).mono ?_
      rintro e w6 ⟨rfl, hb6⟩
      have HB6 : Hid (Below w.heap.size w w6) := Below.then HB5.out hb6
      clear hb6
      go_wp2_with fail
      go_ret
      exact ⟨rfl, HB6.out⟩
set_option maxHeartbeats 2000000 in
theorem clockAhead_any (Wk : Int) (a : Option Addr) (len cap : Nat) (E : Nat → Int × Int × Int) (w : World) (hl : len ≤ maxLen) (hc : len ≤ cap) (hr : ERow w a len E) :
    Calls Try.prog 4 #[.int .i64 Wk, .slice a len cap] w fun e w' => e = .returned (.bool true) ∧ Below w.heap.size w w' := by
  have HR : Hid (ERow w a len E) := hr
  have HL : Hid (len ≤ maxLen) := hl
  clear hr hl
  go_enter Try.func4, Try.ntmps4
  go_wp2_with fail
  refine (ahead_any Wk a len cap E _ HL.out hc HR.out).mono ?_
  rintro e w1 ⟨⟨c, x, hck, rfl, hx⟩, hb1⟩
  have HB1 : Hid (Below w.heap.size w w1) := hb1
  have HC : Hid (CkE Wk len E c) := hck
  have HX : OrdErr c (len : Int) len (fun k => (ahd E len k : Nat)) x w1 := by
    rcases hx with h | ⟨h, b, _, e, hO⟩
    · exact .inl h
    · exact .inr ⟨h, _, _, e, hO.row⟩
  obtain ⟨nx, ax, lx, cx, rfl⟩ : ∃ n a l cp, x = .agg #[.int .i64 n, .slice a l cp] := by
    rcases HX with ⟨_, rfl⟩ | ⟨_, a, cp, rfl, _⟩
    · exact ⟨_, _, _, _, rfl⟩
    · exact ⟨_, _, _, _, rfl⟩
  have bW := (Below.refl w1.heap.size w1).alloc (Nat.le_refl _) (.cells #[.int .i64 nx, .slice ax lx cx] 29)
  have HX0 : Hid (OrdErr c (len : Int) len (fun k => (ahd E len k : Nat)) (.agg #[.int .i64 nx, .slice ax lx cx]) w1) := HX
  have HBX : Hid (Below w1.heap.size w1 (w1.alloc (.cells #[.int .i64 nx, .slice ax lx cx] 29))) := bW
  have HP1 : Hid ((w1.alloc (.cells #[.int .i64 nx, .slice ax lx cx] 29)).cell? ⟨w1.heap.size, 0, none⟩ = some (.int .i64 nx) ∧ (w1.alloc (.cells #[.int .i64 nx, .slice ax lx cx] 29)).cell? ⟨w1.heap.size, 1, none⟩ = some (.slice ax lx cx)) := ⟨by simp, by simp⟩
  have HB2 : Hid (Below w.heap.size w (w1.alloc (.cells #[.int .i64 nx, .slice ax lx cx] 29))) := Below.then HB1.out bW
  clear hb1 hck hx HX bW
  go_wp2_with fail
  refine (checkEvents_any Wk a len cap E _ HL.out (HR.out.below HB2.out)).mono ?_
  rintro e w2 ⟨⟨d, rfl, hd⟩, hb2⟩
  have HB3 : Hid (Below w.heap.size w w2) := Below.then HB2.out hb2
  obtain rfl : d = c := hd.unique HC.out
  have hs1 : w1.heap.size < w2.heap.size := Nat.lt_of_lt_of_le (by simp) hb2.size
  have bW := (Below.refl w2.heap.size w2).alloc (Nat.le_refl _) (.cells #[.int .i64 0, .slice none 0 0] 29)
  obtain ⟨W3, HW3⟩ : ∃ W3, Hid (w2.alloc (.cells #[.int .i64 0, .slice none 0 0] 29) = W3) := ⟨_, rfl⟩
  have HBX3 : Hid (Below w1.heap.size w1 W3) := by rw [← HW3.out]; exact Below.then (Below.then HBX.out hb2) bW
  have HP2 : Hid (W3.cell? ⟨w1.heap.size, 0, none⟩ = some (.int .i64 nx) ∧ W3.cell? ⟨w1.heap.size, 1, none⟩ = some (.slice ax lx cx)) := by
    rw [← HW3.out]
    exact ⟨(bW.cell (p := ⟨w1.heap.size, 0, none⟩) hs1).trans ((hb2.cell (p := ⟨w1.heap.size, 0, none⟩) (by simp)).trans HP1.out.1), (bW.cell (p := ⟨w1.heap.size, 1, none⟩) hs1).trans ((hb2.cell (p := ⟨w1.heap.size, 1, none⟩) (by simp)).trans HP1.out.2)⟩
  have HB4 : Hid (Below w.heap.size w W3) := by rw [← HW3.out]; exact Below.then HB3.out bW
  have HZ : Hid (ZBox W3 w2.heap.size) := by rw [← HW3.out]; exact ZBox.new w2
  have HSZ : Hid (w1.heap.size < w2.heap.size ∧ w2.heap.size < W3.heap.size ∧ w.heap.size ≤ w2.heap.size) := ⟨hs1, by rw [← HW3.out]; simp, HB3.out.size⟩
  obtain ⟨X2, HX2E⟩ : ∃ X2, Hid (w2.heap.size = X2) := ⟨_, rfl⟩
  obtain ⟨X1, HX1E⟩ : ∃ X1, Hid (w1.heap.size = X1) := ⟨_, rfl⟩
  have HX1E0 := HX1E
  rw [HX2E.out] at HZ HSZ
  rw [HX1E.out] at HP2 HSZ
  have HL1 : Hid (X1 < W3.heap.size) := Nat.lt_trans HSZ.out.1 HSZ.out.2.1
  rw [HX1E.out] at HBX3
  clear hb2 hd hs1 bW HP1 HB2 HB3 HBX
  by_cases h0 : d = 0
  · subst h0
    obtain ⟨⟨_, _, h10⟩, _⟩ := HC.out.good
    go_upto_region 4 with fail
    rw [HX2E.out, HX1E.out, HW3.out]
    clear HW3 HX2E HX1E
    go_wp2_with fail
    refine (aheadOf_any a len cap E _ h10 (HR.out.below HB4.out)).mono ?_
    rintro e w3 ⟨⟨a3, cap3, rfl, hr3, hfr3⟩, hb3⟩
    obtain ⟨z1, z2, z3, z4⟩ := HZ.out.step hb3
    obtain ⟨W5, HW5⟩ : ∃ W5, Hid ((w3.setCell ⟨X2, 0, none⟩ (.int .i64 (len : Int))).setCell ⟨X2, 1, none⟩ (.slice a3 len cap3) = W5) := ⟨_, rfl⟩
    have HB5 : Hid (Below w.heap.size w W5) := by
      rw [← HW5.out]; exact set2B (Below.then HB4.out hb3) HSZ.out.2.2
    have HBX5 : Below X1 w1 W5 := by
      rw [← HW5.out]
      have h1 : X1 ≤ X2 := Nat.le_of_lt HSZ.out.1
      exact ((HBX3.out.trans (hb3.mono (Nat.le_of_lt HL1.out))).setCell (p := ⟨X2, 0, none⟩) h1 _).setCell (p := ⟨X2, 1, none⟩) h1 _
    have HXV : Hid (OrdErr 0 (len : Int) len (fun k => (ahd E len k : Nat)) (.agg #[.int .i64 nx, .slice ax lx cx]) W5) := HX0.out.step (by rw [HX1E0.out]; exact HBX5)
    have HYV : Hid (OrdErr 0 (len : Int) len (fun k => (ahd E len k : Nat)) (.agg #[.int .i64 (len : Int), .slice a3 len cap3]) W5) := by
      rw [← HW5.out]
      exact .inr ⟨rfl, a3, cap3, rfl, row_set2 hr3 (Fresh.mono hfr3 (by have := HSZ.out; omega))⟩
    have HPP : Hid ((W5.cell? ⟨X1, 0, none⟩ = some (.int .i64 nx) ∧ W5.cell? ⟨X1, 1, none⟩ = some (.slice ax lx cx)) ∧ W5.cell? ⟨X2, 0, none⟩ = some (.int .i64 (len : Int)) ∧ W5.cell? ⟨X2, 1, none⟩ = some (.slice a3 len cap3)) := by
      have hne : X1 ≠ X2 := Nat.ne_of_lt HSZ.out.1
      have p0 := (hb3.cell (p := ⟨X1, 0, none⟩) HL1.out).trans HP2.out.1
      have p1 := (hb3.cell (p := ⟨X1, 1, none⟩) HL1.out).trans HP2.out.2
      rw [← HW5.out]
      refine ⟨⟨?_, ?_⟩, ?_, ?_⟩
      · rw [World.cell?_setCell_other _ _ _ _ (fun e => by injection e with e1; omega), World.cell?_setCell_other _ _ _ _ (fun e => by injection e with e1; omega)]; exact p0
      · rw [World.cell?_setCell_other _ _ _ _ (fun e => by injection e with e1; omega), World.cell?_setCell_other _ _ _ _ (fun e => by injection e with e1; omega)]; exact p1
      · rw [World.cell?_setCell_other _ _ _ _ (by simp)]; exact World.cell?_setCell_same _ _ _ z1
      · exact World.cell?_setCell_same _ _ _ ((World.cell?_setCell_other _ _ _ _ (by simp)).trans z2)
    have HL5 : Hid (X1 < W5.heap.size ∧ X2 < W5.heap.size) := by
      rw [← HW5.out]
      have h1 := hb3.size
      have h2 := HSZ.out
      show _ ∧ _
      simp only [World.size_setCell]
      omega
    clear hr3 hfr3 hb3 HBX5 HBX3
    go_upto_region 5 with fail
    rw [HW5.out]
    clear HW5 z1 z2 z3 z4
    go_wp2_with fail
    refine (clockBegun_any _).mono ?_
    rintro e w5 ⟨rfl, hb5⟩
    have HB6 : Hid (Below w.heap.size w w5) := Below.then HB5.out hb5
    have q0 := (hb5.cell (p := ⟨X1, 0, none⟩) HL5.out.1).trans HPP.out.1.1
    have q1 := (hb5.cell (p := ⟨X1, 1, none⟩) HL5.out.1).trans HPP.out.1.2
    have y0 := (hb5.cell (p := ⟨X2, 0, none⟩) HL5.out.2).trans HPP.out.2.1
    have y1 := (hb5.cell (p := ⟨X2, 1, none⟩) HL5.out.2).trans HPP.out.2.2
    have HXW := HXV.out.step hb5
    have HYW := HYV.out.step hb5
    have HXW2 : Hid (OrdErr 0 (len : Int) len (fun k => (ahd E len k : Nat)) (.agg #[.int .i64 nx, .slice ax lx cx]) w5) := HXW
    have HYW2 : Hid (OrdErr 0 (len : Int) len (fun k => (ahd E len k : Nat)) (.agg #[.int .i64 (len : Int), .slice a3 len cap3]) w5) := HYW
    clear hb5 HXW HYW HXV HYV
    go_wp2_with fail
    refine (given_any 0 (len : Int) len _ _ _ _ HL.out HXW2.out (.inl HYW2.out)).mono ?_
    rintro e w6 ⟨rfl, hb6⟩
    have HB7 : Hid (Below w.heap.size w w6) := Below.then HB6.out hb6
    clear hb6
    go_wp2_with fail
    go_ret
    exact ⟨rfl, HB7.out⟩
  · have h0' : (d == 0) = false := by simpa using h0
    obtain ⟨z1, z2, z3, z4⟩ := HZ.out
    have p0 := HP2.out.1
    have p1 := HP2.out.2
    go_upto_region 5 with fail
    rw [HX2E.out, HX1E.out, HW3.out]
    clear HW3 HX2E HX1E
    go_wp2_with fail
    refine (clockBegun_any _).mono ?_
    rintro e w5 ⟨rfl, hb5⟩
    have HB5 : Hid (Below w.heap.size w w5) := Below.then HB4.out hb5
    have q0 := (hb5.cell (p := ⟨X1, 0, none⟩) HL1.out).trans p0
    have q1 := (hb5.cell (p := ⟨X1, 1, none⟩) HL1.out).trans p1
    obtain ⟨y1, y2, _, _⟩ := HZ.out.step hb5
    have HOV : Hid (OrdErr d 0 0 (fun _ => 0) (.agg #[.int .i64 nx, .slice ax lx cx]) w5) := by
      rcases HX0.out with ⟨_, h⟩ | ⟨h, _⟩
      · exact .inl ⟨h0, h⟩
      · exact absurd h h0
    clear hb5 p0 p1 z1 z2 z3 z4
    go_wp2_with fail
    refine (given_any d 0 0 (fun _ => 0) _ _ _ (by unfold maxLen; omega) HOV.out (.inr ⟨h0, _, _, _, _, rfl⟩)).mono ?_
    rintro e w6 ⟨rfl, hb6⟩
    have HB6 : Hid (Below w.heap.size w w6) := Below.then HB5.out hb6
    clear hb6
    go_wp2_with fail
    go_ret
    exact ⟨rfl, HB6.out⟩
end Go.Proofs.Ytomoodpgmkjacaa
