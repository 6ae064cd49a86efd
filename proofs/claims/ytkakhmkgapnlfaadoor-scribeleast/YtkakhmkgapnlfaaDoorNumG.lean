/-
  What a reader's number does at any text: a number up to the greatest, with as many bytes taken at least as its digits are; or it gives up. Conditions: the reader lies in its variable, not behind the text's end.
-/
import Derived.Test.YtkakhmkgapnlfaaDoorTakeG
import Derived.Test.YtkakhmkgapnlfaaDoorReadP
namespace Go.Proofs.YtkakhmkgapnlfaaDoor
open Go.RowKit

/-- Where a reader stands. -/
def atOf (R : Nat) (w : World) : Nat := match w.cell? ⟨R, 1, none⟩ with
  | some (.int _ k) => k.toNat
  | _ => 0
theorem atOf_rd {R i : Nat} {s : ByteArray} {w : World} (h : Rd w R s i) : atOf R w = i := by unfold atOf; rw [h.2.1]; rfl
/-- What stands at a place of a text. -/
theorem at_cases (s : ByteArray) (j : Nat) (hj : j ≤ s.size) : Stop s j ∨ ∃ b : UInt8, ∃ d : Nat, s.data[j]? = some b ∧ d < 10 ∧ b.toNat = 48 + d := by
  by_cases e : j = s.size
  · exact .inl (.inl e)
  · have hlt : j < s.data.size := by have : j < s.size := by omega
                                     exact this
    have hb : s.data[j]? = some s.data[j] := Array.getElem?_eq_getElem hlt
    by_cases h1 : s.data[j].toNat < 48
    · exact .inl (.inr ⟨_, hb, .inl h1⟩)
    · by_cases h2 : 57 < s.data[j].toNat
      · exact .inl (.inr ⟨_, hb, .inr h2⟩)
      · exact .inr ⟨_, s.data[j].toNat - 48, hb, by omega, by omega⟩
def NumIs (R : Nat) (s : ByteArray) (i : Nat) (most : Int) (w : World) (e : Ending) (w' : World) : Prop :=
  (∃ p j : Nat, e = .returned (.int .i64 (p : Nat)) ∧ MvN R j w w' ∧ (i + 1 ≤ j ∧ j ≤ s.size) ∧ (10 ≤ p → i + 2 ≤ j) ∧ p ≤ 11 ∧ (p : Int) ≤ most) ∨ ∃ (c : Int) (k : Nat), (c = 1 ∨ c = 2 ∨ c = 3) ∧ e = .panicked (flt c k) ∧ Kp R w w'
set_option maxHeartbeats 4000000 in
theorem number_gen (R : Nat) (s : ByteArray) (i : Nat) (most er : Int) (w : World) (h : Rd w R s i) (hi : i ≤ s.size) (hsz : s.size ≤ 2000) (her : er = 2 ∨ er = 3) :
    Calls Tryd.prog 16 #[.pointer (some ⟨R, 0, none⟩), .int .i64 most, .int .i64 er] w fun e w' => NumIs R s i most w e w' := by
  have HR : Hid (Rd w R s i) := h
  have h1 := h.2.1
  clear h
  go_enter Tryd.func16, Tryd.ntmps16
  go_wp2_with fail
  clear h1
  rcases at_cases s i hi with hst | ⟨b, d, hb, hd, hbd⟩
  · refine (atDigit_stop R s i _ HR.out hst).mono ?_
    rintro e w1 ⟨rfl, hw1⟩
    have HW1 : Hid (Kp R w w1) := by rw [hw1]; exact Kp.of (Below.refl _ _).drew
    clear hw1 hst
    go_wp2_with fail
    refine (giveUp_any 1 i _).mono ?_
    rintro e w2 ⟨rfl, rfl⟩
    exact ⟨rfl, .inr ⟨1, i, .inl rfl, rfl, HW1.out⟩⟩
  · refine (atDigit_yes R s i b _ HR.out hb (by omega) (by omega)).mono ?_
    rintro e w1 ⟨rfl, hw1⟩
    have HR1 : Hid (Rd w1 R s i) := by rw [hw1]; exact HR.out.drew
    have HW1 : Hid (w1 = w.drew) := hw1
    have HB : Hid (s.data[i]? = some b) := hb
    have HBD : Hid (b.toNat = 48 + d) := hbd
    have hlt : i < s.size := (Array.getElem?_eq_some_iff.1 hb).1
    clear hw1 hb hbd
    go_wp2_with fail
    refine (digit_any R s i d b _ HR1.out HB.out hd HBD.out (by omega)).mono ?_
    rintro e w2 ⟨rfl, hm2⟩
    have HM2 : Hid (MvN R (i + 1) w w2) := by
      have := MvN.of hm2
      rw [HW1.out] at this
      exact ⟨by rw [this.heap, set_of_heap (show w.drew.heap = w.heap from rfl)], this.os, this.tape, this.output⟩
    clear hm2 HR1 HW1
    go_wp2_with fail
    go_loopw [8] (fun x wx => ∃ v j : Nat, x = .int .i64 (v : Nat) ∧ Hid (MvN R j w wx) ∧ (i + 1 ≤ j ∧ j ≤ s.size) ∧ (10 ≤ v → i + 2 ≤ j) ∧ v ≤ 11) (fun _ wx => s.size - atOf R wx)
    case atStart => exact ⟨d, i + 1, rfl, HM2, ⟨Nat.le_refl _, by omega⟩, fun h => absurd h (by omega), by omega⟩
    case round =>
      clear HM2
      obtain ⟨v, j, rfl, HM, hj, hv10, hv11⟩ := hrel
      have HRJ : Hid (Rd wr R s j) := MvN.rd HR.out HM.out
      by_cases h0 : v = 0
      · subst h0
        by_cases hmost : most < 0
        · go_wp2_with fail
          refine (giveUp_any er i _).mono ?_
          rintro e w2 ⟨rfl, rfl⟩
          exact ⟨rfl, .inr ⟨er, i, .inr her, rfl, HM.out.kp⟩⟩
        · go_wp2_with fail
          go_ret
          exact .inl ⟨0, j, rfl, HM.out, hj, fun h => absurd h (by omega), by omega, by omega⟩
      · have h0' : (0 : Int) < (v : Int) := by omega
        have h0'' : 0 < v := by omega
        rcases at_cases s j hj.2 with hst | ⟨b', d', hb', hd', hbd'⟩
        · go_wp2_with fail
          refine (atDigit_stop R s j _ HRJ.out hst).mono ?_
          rintro e w3 ⟨rfl, hw3⟩
          have HM3 : Hid (MvN R j w w3) := by rw [hw3]; exact HM.out.drew
          clear hw3 HM hst HRJ
          by_cases hmost : most < (v : Int)
          · go_wp2_with fail
            refine (giveUp_any er i _).mono ?_
            rintro e w4 ⟨rfl, rfl⟩
            exact ⟨rfl, .inr ⟨er, i, .inr her, rfl, HM3.out.kp⟩⟩
          · go_wp2_with fail
            go_ret
            exact .inl ⟨v, j, rfl, HM3.out, hj, hv10, hv11, by omega⟩
        · have HB' : Hid (s.data[j]? = some b') := hb'
          have HBD' : Hid (b'.toNat = 48 + d') := hbd'
          have hjl : j < s.size := (Array.getElem?_eq_some_iff.1 hb').1
          clear hb' hbd'
          go_wp2_with fail
          refine (atDigit_yes R s j b' _ HRJ.out HB'.out (by rw [HBD'.out]; omega) (by rw [HBD'.out]; omega)).mono ?_
          rintro e w3 ⟨rfl, hw3⟩
          have HM3 : Hid (MvN R j w w3) := by rw [hw3]; exact HM.out.drew
          clear hw3 HM
          go_wp2_with fail
          refine (digit_any R s j d' b' _ (MvN.rd HR.out HM3.out) HB'.out hd' HBD'.out (by omega)).mono ?_
          rintro e w4 ⟨rfl, hm4⟩
          have HM4 : Hid (MvN R (j + 1) w w4) := HM3.out.tr (MvN.of hm4)
          have HR4 : Hid (Rd w4 R s (j + 1)) := MvN.rd HR.out HM4.out
          clear hm4 HM3
          obtain ⟨v2, hv2⟩ : ∃ v2 : Nat, v2 = min (v * 10 + d') 11 := ⟨_, rfl⟩
          have hmul : IntKind.i64.wrap ((v : Int) * 10) = ((v * 10 : Nat) : Int) := by rw [wrap_i64_small _ (by omega) (by omega)]; omega
          have hadd : IntKind.i64.wrap (((v * 10 : Nat) : Int) + (d' : Int)) = ((v * 10 + d' : Nat) : Int) := by rw [wrap_i64_small _ (by omega) (by omega)]; omega
          have hadd2 : IntKind.i64.wrap ((v : Int) * 10 + (d' : Int)) = ((v * 10 + d' : Nat) : Int) := by rw [wrap_i64_small _ (by omega) (by omega)]; omega
          go_wp2_with fail
          refine ⟨⟨v2, j + 1, ?_, HM4, ⟨by omega, by omega⟩, fun _ => by omega, by omega⟩, ?_⟩
          · have : min ((v : Int) * 10 + (d' : Int)) 11 = ((v2 : Nat) : Int) := by omega
            rw [this]
          · rw [atOf_rd HR4.out, atOf_rd HRJ.out]; omega
end Go.Proofs.YtkakhmkgapnlfaaDoor
