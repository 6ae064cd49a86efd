/-
  What a reader's number and pair answer where they do not give up. Conditions: the reader lies in its variable; the text's bytes as each theorem says.
-/
import Derived.Test.YtkakhmkgapnlfaaDoorReadD
import Derived.Test.YtkakhmkgapnlfaaDoorMake
import Derived.Sort.Walk7a
namespace Go.Proofs.YtkakhmkgapnlfaaDoor
open Go.RowKit

/-- The reader has come to j; all else is as it was but for the count of draws. -/
structure MvN (R j : Nat) (w w' : World) : Prop where
  heap : w'.heap = (w.setCell ⟨R, 1, none⟩ (.int .i64 (j : Nat))).heap
  os : w'.os = w.os
  tape : w'.tape = w.tape
  output : w'.output = w.output
theorem cell_of_heap {w w' : World} (h : w'.heap = w.heap) (p : Addr) : w'.cell? p = w.cell? p := by unfold World.cell?; rw [h]
theorem frozen_of_heap {w w' : World} (h : w'.heap = w.heap) (p : Addr) : w'.frozen? p = w.frozen? p := by unfold World.frozen?; rw [h]
theorem set_of_heap {w w' : World} (h : w'.heap = w.heap) (p : Addr) (v : Value) : (w'.setCell p v).heap = (w.setCell p v).heap := by unfold World.setCell; rw [h]
theorem MvN.of {R j : Nat} {w w' : World} (h : Mv R j w w') : MvN R j w w' := by
  subst h
  have hb := ((Below.refl 0 w).setCell (p := ⟨R, 1, none⟩) (Nat.zero_le _) (.int .i64 (j : Nat))).drew
  exact ⟨rfl, hb.os, hb.tape, hb.output⟩
theorem MvN.drew {R j : Nat} {w w' : World} (h : MvN R j w w') : MvN R j w w'.drew := ⟨h.heap, h.os, h.tape, h.output⟩
theorem MvN.tr {R j k : Nat} {a b c : World} (h : MvN R j a b) (h' : MvN R k b c) : MvN R k a c :=
  ⟨by rw [h'.heap, set_of_heap h.heap, Go.Proofs.setCell_setCell], h'.os.trans h.os, h'.tape.trans h.tape, h'.output.trans h.output⟩
theorem MvN.rd {R i j : Nat} {s : ByteArray} {w w' : World} (h : Rd w R s i) (hm : MvN R j w w') : Rd w' R s j := by
  obtain ⟨h0, h1, h2⟩ := h
  refine ⟨?_, ?_, ?_⟩
  · rw [cell_of_heap hm.heap, World.cell?_setCell_other _ _ _ _ (fun e => by injection e with _ e2; cases e2)]; exact h0
  · rw [cell_of_heap hm.heap]; exact World.cell?_setCell_same _ _ _ h1
  · rw [frozen_of_heap hm.heap, World.frozen?_setCell]; exact h2
/-- Here no digit stands. -/
def Stop (s : ByteArray) (j : Nat) : Prop := j = s.size ∨ ∃ b, s.data[j]? = some b ∧ (b.toNat < 48 ∨ 57 < b.toNat)
theorem atDigit_stop (R : Nat) (s : ByteArray) (i : Nat) (w : World) (h : Rd w R s i) (hs : Stop s i) :
    Calls Tryd.prog 25 #[.pointer (some ⟨R, 0, none⟩)] w fun e w' => e = .returned (.bool false) ∧ w' = w.drew := by
  rcases hs with hs | ⟨b, hb, hs | hs⟩
  · exact atDigit_end R s i w h hs
  · exact atDigit_lo R s i b w h hb hs
  · exact atDigit_hi R s i b w h hb hs
set_option maxHeartbeats 2000000 in
theorem number_small (R : Nat) (s : ByteArray) (i p : Nat) (most er : Int) (b : UInt8) (w : World) (h : Rd w R s i) (hb : s.data[i]? = some b) (hp : p < 10) (hbd : b.toNat = 48 + p) (hst : Stop s (i + 1)) (hi9 : i < 9000000) (hm : (p : Int) ≤ most) :
    Calls Tryd.prog 16 #[.pointer (some ⟨R, 0, none⟩), .int .i64 most, .int .i64 er] w fun e w' => e = .returned (.int .i64 (p : Nat)) ∧ MvN R (i + 1) w w' := by
  have HR : Hid (Rd w R s i) := h
  have HB : Hid (s.data[i]? = some b) := hb
  have HBD : Hid (b.toNat = 48 + p) := hbd
  have HST : Hid (Stop s (i + 1)) := hst
  have h1 := h.2.1
  clear h hb hbd hst
  go_enter Tryd.func16, Tryd.ntmps16
  go_wp2_with fail
  clear h1
  refine (atDigit_yes R s i b _ HR.out HB.out (by rw [HBD.out]; omega) (by rw [HBD.out]; omega)).mono ?_
  rintro e w1 ⟨rfl, hw1⟩
  have HR1 : Hid (Rd w1 R s i) := by rw [hw1]; exact HR.out.drew
  have HW1 : Hid (w1 = w.drew) := hw1
  clear hw1
  go_wp2_with fail
  refine (digit_any R s i p b _ HR1.out HB.out hp HBD.out hi9).mono ?_
  rintro e w2 ⟨rfl, hm2⟩
  have HM2 : Hid (MvN R (i + 1) w w2) := by
    have := MvN.of hm2
    rw [HW1.out] at this
    exact ⟨by rw [this.heap, set_of_heap (show w.drew.heap = w.heap from rfl)], this.os, this.tape, this.output⟩
  clear hm2 HR1 HW1
  go_wp2_with fail
  go_loopw [8] (fun v wx => v = .int .i64 (p : Nat) ∧ Hid (MvN R (i + 1) w wx)) (fun _ _ => 0)
  case atStart => exact ⟨rfl, HM2⟩
  case round =>
    clear HM2
    obtain ⟨rfl, HM⟩ := hrel
    by_cases h0 : p = 0
    · subst h0
      have hm' : ¬ most < (0 : Int) := by omega
      go_wp2_with fail
      go_ret
      exact ⟨rfl, HM.out⟩
    · have h0' : (0 : Int) < (p : Int) := by omega
      have h0'' : 0 < p := by omega
      have hm' : ¬ most < (p : Int) := by omega
      go_wp2_with fail
      refine (atDigit_stop R s (i + 1) _ (MvN.rd HR.out HM.out) HST.out).mono ?_
      rintro e w3 ⟨rfl, hw3⟩
      have HM3 : Hid (MvN R (i + 1) w w3) := by rw [hw3]; exact HM.out.drew
      clear hw3 HM
      go_wp2_with fail
      go_ret
      exact ⟨rfl, HM3.out⟩
set_option maxHeartbeats 2000000 in
theorem number_ten (R : Nat) (s : ByteArray) (i : Nat) (most er : Int) (w : World) (h : Rd w R s i) (hb : s.data[i]? = some 49) (hb2 : s.data[i + 1]? = some 48) (hst : Stop s (i + 2)) (hi9 : i < 8000000) (hm : (10 : Int) ≤ most) :
    Calls Tryd.prog 16 #[.pointer (some ⟨R, 0, none⟩), .int .i64 most, .int .i64 er] w fun e w' => e = .returned (.int .i64 10) ∧ MvN R (i + 2) w w' := by
  have HR : Hid (Rd w R s i) := h
  have HB : Hid (s.data[i]? = some 49) := hb
  have HB2 : Hid (s.data[i + 1]? = some 48) := hb2
  have HST : Hid (Stop s (i + 2)) := hst
  have h1 := h.2.1
  clear h hb hst hb2
  go_enter Tryd.func16, Tryd.ntmps16
  go_wp2_with fail
  clear h1
  refine (atDigit_yes R s i 49 _ HR.out HB.out (by decide) (by decide)).mono ?_
  rintro e w1 ⟨rfl, hw1⟩
  have HR1 : Hid (Rd w1 R s i) := by rw [hw1]; exact HR.out.drew
  have HW1 : Hid (w1 = w.drew) := hw1
  clear hw1
  go_wp2_with fail
  refine (digit_any R s i 1 49 _ HR1.out HB.out (by decide) (by decide) (by omega)).mono ?_
  rintro e w2 ⟨rfl, hm2⟩
  have HM2 : Hid (MvN R (i + 1) w w2) := by
    have := MvN.of hm2
    rw [HW1.out] at this
    exact ⟨by rw [this.heap, set_of_heap (show w.drew.heap = w.heap from rfl)], this.os, this.tape, this.output⟩
  clear hm2 HR1 HW1
  go_wp2_with fail
  go_loopw [8] (fun v wx => (v = .int .i64 1 ∧ Hid (MvN R (i + 1) w wx)) ∨ (v = .int .i64 10 ∧ Hid (MvN R (i + 2) w wx))) (fun v _ => 11 - (intOf v).toNat)
  case atStart => exact .inl ⟨rfl, HM2⟩
  case round =>
    clear HM2
    rcases hrel with ⟨rfl, HM⟩ | ⟨rfl, HM⟩
    · go_wp2_with fail
      refine (atDigit_yes R s (i + 1) 48 _ (MvN.rd HR.out HM.out) HB2.out (by decide) (by decide)).mono ?_
      rintro e w3 ⟨rfl, hw3⟩
      have HM3 : Hid (MvN R (i + 1) w w3) := by rw [hw3]; exact HM.out.drew
      clear hw3 HM
      go_wp2_with fail
      refine (digit_any R s (i + 1) 0 48 _ (MvN.rd HR.out HM3.out) HB2.out (by decide) (by decide) (by omega)).mono ?_
      rintro e w4 ⟨rfl, hm4⟩
      have HM4 : Hid (MvN R (i + 2) w w4) := HM3.out.tr (MvN.of hm4)
      clear hm4 HM3
      go_wp2_with fail
      go_roundw
      case rel => exact .inr ⟨by go_num, HM4⟩
      case measure => first | (simp [intOf]; done) | (simp [intOf]; omega) | decide
    · have hm' : ¬ most < (10 : Int) := by omega
      go_wp2_with fail
      refine (atDigit_stop R s (i + 2) _ (MvN.rd HR.out HM.out) HST.out).mono ?_
      rintro e w3 ⟨rfl, hw3⟩
      have HM3 : Hid (MvN R (i + 2) w w3) := by rw [hw3]; exact HM.out.drew
      clear hw3 HM
      go_wp2_with fail
      go_ret
      exact ⟨rfl, HM3.out⟩
end Go.Proofs.YtkakhmkgapnlfaaDoor
