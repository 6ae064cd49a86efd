/-
  What the reference's AheadOf answers: the order of the events. Conditions: at most ten events, in a slice that reads as a slice of events.
-/
import Derived.Test.YtomoodpgmkjacaaDoorClE
import Derived.Test.YtomoodpgmkjacaaDoorRefMake
namespace Go.Proofs.YtomoodpgmkjacaaDoor
open Go.RowKit

set_option maxRecDepth 100000 in
set_option maxHeartbeats 8000000 in
theorem aheadOf_any (a : Option Addr) (len cap : Nat) (E : Nat → Int × Int × Int) (w : World) (h10 : len ≤ 10) (hr : ERow w a len E) :
    Calls Tryd.prog 12 #[.slice a len cap] w fun e w' => (∃ a' cap', e = .returned (.agg #[.int .i64 (len : Int), .slice a' len cap']) ∧ Row w' a' len (fun k => (ahd E len k : Nat)) ∧ Fresh w.heap.size a' len) ∧ Below w.heap.size w w' := by
  have HB0 : Hid (Below w.heap.size w (w.alloc (.cells #[.int .i64 0, .slice none 0 0] 34))) := (Below.refl _ _).alloc (Nat.le_refl _) _
  have HZ0 : Hid (ZBox (w.alloc (.cells #[.int .i64 0, .slice none 0 0] 34)) w.heap.size) := ZBox.new w
  have HR0 : Hid (ERow (w.alloc (.cells #[.int .i64 0, .slice none 0 0] 34)) a len E) := hr.below HB0.out
  clear hr
  obtain ⟨i0, hi, hz0, hz1, hz2⟩ := info_parts Tryd.info48
  go_enter Tryd.func12, Tryd.ntmps12
  go_wp2_with fail
  obtain ⟨w1, HW1⟩ : ∃ w1, Hid (w.alloc (.cells #[.int .i64 0, .slice none 0 0] 34) = w1) := ⟨_, rfl⟩
  have HS1 : Hid (w.heap.size < w1.heap.size) := by rw [← HW1.out]; show _ < _; simp
  rw [HW1.out] at HB0 HZ0 HR0
  rw [HW1.out]
  have HB1 := HB0
  have HZ1 := HZ0
  have HR1 := HR0
  clear HB0 HZ0 HR0 HW1
  go_loopw [3, 4] (fun v t wx => ∃ i : Nat, i ≤ len ∧ t = .int .i64 i ∧ wx.ownsRow w1.heap.size 48 2 v (prs E i).length (pairVals (prs E i)) ∧ Hid (Below w1.heap.size w1 wx)) (fun _ t _ => len - (intOf t).toNat)
  case atStart => exact ⟨0, Nat.zero_le _, rfl, World.ownsRow_nil _ _ _ _, Below.refl _ _⟩
  case round =>
    obtain ⟨i, hi', rfl, hown, hB⟩ := hrel
    by_cases hlt : i < len
    · have hlt' : (i : Int) < (len : Int) := by omega
      have HO1 : Hid (wr.ownsRow w1.heap.size 48 2 u3 (prs E i ++ prsIn E i 0).length (pairVals (prs E i ++ prsIn E i 0))) := by rw [show prsIn E i 0 = [] from rfl, List.append_nil]; exact hown
      clear hown
      have HBW := hB
      clear hB
      go_wp2_with fail
      go_loopw [3, 5] (fun v t wx => ∃ k : Nat, k ≤ i ∧ t = .int .i64 k ∧ wx.ownsRow w1.heap.size 48 2 v (prs E i ++ prsIn E i k).length (pairVals (prs E i ++ prsIn E i k)) ∧ Hid (Below w1.heap.size w1 wx)) (fun _ t _ => i - (intOf t).toNat)
      case atStart => exact ⟨0, Nat.zero_le _, rfl, HO1.out, HBW.out⟩
      case round =>
        obtain ⟨k, hk, rfl, hown, hB⟩ := hrel
        clear HO1 HBW
        by_cases hki : k < i
        · have hki' : (k : Int) < (i : Int) := by omega
          have hkl' : (k : Int) < (len : Int) := by omega
          obtain ⟨b, off, rfl, c1, c2, c3⟩ := (HR1.out.below hB.out) k (by omega)
          obtain ⟨b2, off2, hbo, d1, d2, d3⟩ := (HR1.out.below hB.out) i hlt
          simp at hbo
          obtain ⟨rfl, rfl⟩ := hbo
          rcases (Bool.eq_false_or_eq_true ((E i).2.1 == (E k).2.1)).symm with g1 | g1
          · have g1' : ¬ (E k).2.1 = (E i).2.1 := fun h => by simp [h] at g1
            rcases (Bool.eq_false_or_eq_true ((E i).1 == 3)).symm with g2 | g2
            · have g2' : ¬ (E i).1 = 3 := by simpa using g2
              have HE : Hid (prsIn E i (k + 1) = prsIn E i k) := prsIn_no (by simp [leadB, g1', g2'])
              go_wp2_with fail
              go_big_quiet (fail)
              have HB5 : Hid (Below w1.heap.size w1 (wr.drewN nq)) := below_drewN hB.out _
              have HO5 : Hid ((wr.drewN nq).ownsRow w1.heap.size 48 2 u3 (prs E i ++ prsIn E i (k + 1)).length (pairVals (prs E i ++ prsIn E i (k + 1)))) := by rw [HE.out]; exact hown
              clear hown hB
              go_wp2_with fail
              go_roundw
              case rel => exact ⟨k + 1, by omega, by go_num, HO5.out, HB5.out⟩
              case measure => simp [intOf]; omega
            · have g2' : (E i).1 = 3 := by simpa using g2
              rcases (Bool.eq_false_or_eq_true ((E k).1 == 2)).symm with g3 | g3
              · have g3' : ¬ (E k).1 = 2 := by simpa using g3
                have HE : Hid (prsIn E i (k + 1) = prsIn E i k) := prsIn_no (by simp [leadB, g1', g3'])
                clear g2' g3'
                go_wp2_with fail
                go_big_quiet (fail)
                have HB5 : Hid (Below w1.heap.size w1 (wr.drewN nq)) := below_drewN hB.out _
                have HO5 : Hid ((wr.drewN nq).ownsRow w1.heap.size 48 2 u3 (prs E i ++ prsIn E i (k + 1)).length (pairVals (prs E i ++ prsIn E i (k + 1)))) := by rw [HE.out]; exact hown
                clear hown hB
                go_wp2_with fail
                go_roundw
                case rel => exact ⟨k + 1, by omega, by go_num, HO5.out, HB5.out⟩
                case measure => simp [intOf]; omega
              · have g3' : (E k).1 = 2 := by simpa using g3
                rcases (Bool.eq_false_or_eq_true ((E i).2.2 == (E k).2.2)).symm with g4 | g4
                · have g4' : ¬ (E k).2.2 = (E i).2.2 := fun h => by simp [h] at g4
                  have HE : Hid (prsIn E i (k + 1) = prsIn E i k) := prsIn_no (by simp [leadB, g1', g4'])
                  clear g2' g3'
                  go_wp2_with fail
                  go_big_quiet (fail)
                  have HB5 : Hid (Below w1.heap.size w1 (wr.drewN nq)) := below_drewN hB.out _
                  have HO5 : Hid ((wr.drewN nq).ownsRow w1.heap.size 48 2 u3 (prs E i ++ prsIn E i (k + 1)).length (pairVals (prs E i ++ prsIn E i (k + 1)))) := by rw [HE.out]; exact hown
                  clear hown hB
                  go_wp2_with fail
                  go_roundw
                  case rel => exact ⟨k + 1, by omega, by go_num, HO5.out, HB5.out⟩
                  case measure => simp [intOf]; omega
                · have g4' : (E k).2.2 = (E i).2.2 := by have : (E i).2.2 = (E k).2.2 := by simpa using g4
                                                         exact this.symm
                  have HE : Hid (prsIn E i (k + 1) = prsIn E i k ++ [(k, i)]) := prsIn_yes (by simp [leadB, g2', g3', g4'])
                  clear g2' g3' g4'
                  go_wp2_with fail
                  go_big_quiet (fail)
                  have HB5 : Hid (Below w1.heap.size w1 (wr.drewN nq)) := below_drewN hB.out _
                  have hown5 : (wr.drewN nq).ownsRow w1.heap.size 48 2 u3 (prs E i ++ prsIn E i k).length (pairVals (prs E i ++ prsIn E i k)) := hown
                  have hlen3 : (prs E i ++ prsIn E i k).length ≤ 110 := by
                    have h1 := prs_len E i
                    have h2 := prsIn_len E i k
                    have h3 : i * i ≤ 10 * 10 := Nat.mul_le_mul (by omega) (by omega)
                    rw [List.length_append]; omega
                  have hsz : w1.heap.size ≤ (wr.drewN nq).heap.size := HB5.out.size
                  obtain ⟨L, HLL⟩ : ∃ L, Hid (L = prs E i ++ prsIn E i k) := ⟨_, rfl⟩
                  rw [← HLL.out] at hown5 hlen3
                  clear hown hB d1 d2 d3 c1 c2 c3
                  generalize wr.drewN nq = w5 at *
                  go_wp2_with (at_builtin; refine wpList_append_own _ rfl _ _ 46 rfl w1.heap.size 48 i0 (.agg #[.int .i64 0, .int .i64 0]) 2 16 Tryd.underlying46 hi hz0 hz1 hz2 rfl (by decide) _ _ _ rfl (hown5.alloc _) ⟨w5.heap.size, 0, none⟩ 1 1 [.int .i64 (k : Nat), .int .i64 (i : Nat)] rfl rfl ?c1 ?c2 ?c3 ?c4 ?c5 ?_)
                  case c1 =>
                    intro j u hj
                    match j, hj with
                    | 0, hj => simp at hj; subst hj; simp [Addr.add]
                    | 1, hj => simp at hj; subst hj; simp [Addr.add]
                  case c2 => intro u hu; simp at hu; rcases hu with rfl | rfl <;> rfl
                  case c3 => unfold maxLen; omega
                  case c4 => omega
                  case c5 => simp; omega
                  intro v' w4 hown' hgrow _
                  have HB6 : Hid (Below w1.heap.size w1 w4) := below_append2 HB5.out hown5 hgrow
                  have HO6 : Hid (w4.ownsRow w1.heap.size 48 2 v' (prs E i ++ prsIn E i (k + 1)).length (pairVals (prs E i ++ prsIn E i (k + 1)))) := by
                    rw [HE.out, ← List.append_assoc, ← HLL.out, pairVals_append, List.length_append]; exact hown'
                  clear hown' hgrow hown5 HB5 hlen3 hsz HLL
                  go_wp2_with fail
                  go_roundw
                  case rel => exact ⟨k + 1, by omega, by go_num, HO6.out, HB6.out⟩
                  case measure => simp [intOf]; omega
          · have g1' : (E k).2.1 = (E i).2.1 := by have : (E i).2.1 = (E k).2.1 := by simpa using g1
                                                   exact this.symm
            have HE : Hid (prsIn E i (k + 1) = prsIn E i k ++ [(k, i)]) := prsIn_yes (by simp [leadB, g1'])
            clear g1'
            go_wp2_with fail
            go_big_quiet (fail)
            have HB5 : Hid (Below w1.heap.size w1 (wr.drewN nq)) := below_drewN hB.out _
            have hown5 : (wr.drewN nq).ownsRow w1.heap.size 48 2 u3 (prs E i ++ prsIn E i k).length (pairVals (prs E i ++ prsIn E i k)) := hown
            have hlen3 : (prs E i ++ prsIn E i k).length ≤ 110 := by
              have h1 := prs_len E i
              have h2 := prsIn_len E i k
              have h3 : i * i ≤ 10 * 10 := Nat.mul_le_mul (by omega) (by omega)
              rw [List.length_append]; omega
            have hsz : w1.heap.size ≤ (wr.drewN nq).heap.size := HB5.out.size
            obtain ⟨L, HLL⟩ : ∃ L, Hid (L = prs E i ++ prsIn E i k) := ⟨_, rfl⟩
            rw [← HLL.out] at hown5 hlen3
            clear hown hB d1 d2 d3 c1 c2 c3
            generalize wr.drewN nq = w5 at *
            go_wp2_with (at_builtin; refine wpList_append_own _ rfl _ _ 46 rfl w1.heap.size 48 i0 (.agg #[.int .i64 0, .int .i64 0]) 2 16 Tryd.underlying46 hi hz0 hz1 hz2 rfl (by decide) _ _ _ rfl (hown5.alloc _) ⟨w5.heap.size, 0, none⟩ 1 1 [.int .i64 (k : Nat), .int .i64 (i : Nat)] rfl rfl ?c1 ?c2 ?c3 ?c4 ?c5 ?_)
            case c1 =>
              intro j u hj
              match j, hj with
              | 0, hj => simp at hj; subst hj; simp [Addr.add]
              | 1, hj => simp at hj; subst hj; simp [Addr.add]
            case c2 => intro u hu; simp at hu; rcases hu with rfl | rfl <;> rfl
            case c3 => unfold maxLen; omega
            case c4 => omega
            case c5 => simp; omega
            intro v' w4 hown' hgrow _
            have HB6 : Hid (Below w1.heap.size w1 w4) := below_append2 HB5.out hown5 hgrow
            have HO6 : Hid (w4.ownsRow w1.heap.size 48 2 v' (prs E i ++ prsIn E i (k + 1)).length (pairVals (prs E i ++ prsIn E i (k + 1)))) := by
              rw [HE.out, ← List.append_assoc, ← HLL.out, pairVals_append, List.length_append]; exact hown'
            clear hown' hgrow hown5 HB5 hlen3 hsz HLL
            go_wp2_with fail
            go_roundw
            case rel => exact ⟨k + 1, by omega, by go_num, HO6.out, HB6.out⟩
            case measure => simp [intOf]; omega
        · obtain rfl : k = i := by omega
          have HO6 : Hid (wr.ownsRow w1.heap.size 48 2 u3 (prs E (k + 1)).length (pairVals (prs E (k + 1)))) := hown
          clear hown
          go_wp2_with fail
          go_roundw
          case rel => exact ⟨k + 1, by omega, by go_num, HO6.out, hB.out⟩
          case measure => simp [intOf]; omega
    · obtain rfl : i = len := by omega
      obtain ⟨ap, capp, rfl, hpr⟩ := owns_pairs hown
      have HPR : Hid (PRow wr ap (prs E i).length (pairAt (prs E i))) := hpr
      have HPL : Hid ((prs E i).length ≤ maxLen) := by
        have h1 := prs_len E i
        have h3 : i * i ≤ 10 * 10 := Nat.mul_le_mul (by omega) (by omega)
        show _ ≤ _; unfold maxLen; omega
      clear hown hpr
      go_wp2_with fail
      refine (refMake_any (i : Int) ap (prs E i).length capp (pairAt (prs E i)) _ HPL.out HPR.out).mono ?_
      rintro e w2 ⟨⟨c, x, hck, rfl, hx⟩, hb⟩
      obtain rfl : c = 0 := hck.unique (ahd_mk h10)
      have HZ2 : ZBox w2 w.heap.size := (HZ1.out.step hB.out).step hb
      have HB2 : Hid (Below w.heap.size w w2) := Below.then (Below.then HB1.out hB.out) hb
      rcases hx with ⟨h, _⟩ | ⟨_, ax, cx, rfl, hrow, hfr⟩
      · exact absurd rfl h
      · have HROW : Hid (Row w2 ax i (fun k => (ahd E i k : Nat))) := hrow
        have HFR : Hid (Fresh (w.heap.size + 1) ax i) := Fresh.mono hfr (by have := HS1.out; have := hB.out.size; omega)
        have bA := (Below.refl w2.heap.size w2).alloc (Nat.le_refl _) (.cells #[.int .i64 (i : Int), .slice ax i cx] 34)
        obtain ⟨z1, z2, z3, z4⟩ := HZ2.step bA
        have HROW3 := Row.below HROW.out bA
        have HB3 : Hid (Below w.heap.size w (w2.alloc (.cells #[.int .i64 (i : Int), .slice ax i cx] 34))) := Below.then HB2.out bA
        have HR3 : Hid (Row (w2.alloc (.cells #[.int .i64 (i : Int), .slice ax i cx] 34)) ax i (fun k => (ahd E i k : Nat))) := HROW3
        clear HROW3 hrow hfr hb hB hck bA HROW HB2 HZ2
        obtain ⟨W9, HW9⟩ : ∃ W9, Hid (w2.alloc (.cells #[.int .i64 (i : Int), .slice ax i cx] 34) = W9) := ⟨_, rfl⟩
        go_wp2_with fail
        exact bodyPost_ret (v := .agg #[.int .i64 (i : Int), .slice ax i cx]) (by simp [results, Tryd.results12, go_sem, z1, z2]) rfl ⟨⟨ax, cx, rfl, row_set2 HR3.out HFR.out, HFR.out.mono (Nat.le_succ _)⟩, set2B HB3.out (Nat.le_refl _)⟩
end Go.Proofs.YtomoodpgmkjacaaDoor
