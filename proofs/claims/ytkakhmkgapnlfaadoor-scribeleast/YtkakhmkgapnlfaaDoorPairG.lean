/-
  What a reader's take and pair do at any text. Conditions: the reader lies in its variable, not behind the text's end.
-/
import Derived.Test.YtkakhmkgapnlfaaDoorNumG
namespace Go.Proofs.YtkakhmkgapnlfaaDoor
open Go.RowKit

theorem Sm0.kp {R : Nat} {w w' : World} (h : Sm0 w w') : Kp R w w' := ⟨h.os, h.tape, h.output, by rw [h.heap]; exact Nat.le_refl _, fun k _ _ => by rw [h.heap]⟩
theorem wrap_i64_small' (n : Nat) (h : n ≤ 10) : IntKind.i64.wrap ((n : Int) - 1) = (n : Int) - 1 := by
  simp [IntKind.wrap, IntKind.bits, IntKind.signed]; omega
theorem take_gen (R : Nat) (s : ByteArray) (i : Nat) (c : UInt8) (w : World) (h : Rd w R s i) (hi : i ≤ s.size) (hsz : s.size ≤ 2000) :
    Calls Tryd.prog 17 #[.pointer (some ⟨R, 0, none⟩), .int .u8 (c.toNat : Nat)] w fun e w' => (e = .returned (.tuple #[]) ∧ MvN R (i + 1) w w' ∧ i + 1 ≤ s.size) ∨ (∃ k : Nat, e = .panicked (flt 1 k) ∧ Kp R w w') := by
  by_cases e : i = s.size
  · exact (take_end R s i _ w h e).mono fun e w' ⟨h1, h2⟩ => .inr ⟨i, h1, h2.kp⟩
  · have hlt : i < s.data.size := by have : i < s.size := by omega
                                     exact this
    have hb : s.data[i]? = some s.data[i] := Array.getElem?_eq_getElem hlt
    by_cases hc : s.data[i] = c
    · rw [hc] at hb
      exact (take_any R s i c w h hb (by omega)).mono fun e w' ⟨h1, h2⟩ => .inl ⟨h1, MvN.of h2, by omega⟩
    · exact (take_not R s i _ _ w h hb (fun e => hc (UInt8.toNat_inj.1 (by omega)))).mono fun e w' ⟨h1, h2⟩ => .inr ⟨i, h1, h2.kp⟩
def PairIs (R : Nat) (s : ByteArray) (i : Nat) (n : Int) (w : World) (e : Ending) (w' : World) : Prop :=
  (∃ p1 p2 j : Nat, e = .returned (.agg #[.int .i64 (p1 : Nat), .int .i64 (p2 : Nat)]) ∧ Rd w' R s j ∧ Kp R w w' ∧ (i + 4 ≤ j ∧ j ≤ s.size) ∧ (p1 : Int) < n ∧ (p2 : Int) < n) ∨ ∃ (c : Int) (k : Nat), (c = 1 ∨ c = 2 ∨ c = 3) ∧ e = .panicked (flt c k) ∧ Kp R w w'
set_option maxHeartbeats 4000000 in
theorem pair_gen (R : Nat) (s : ByteArray) (i n : Nat) (w : World) (h : Rd w R s i) (hi : i ≤ s.size) (hsz : s.size ≤ 2000) (hn : n ≤ 10) :
    Calls Tryd.prog 18 #[.pointer (some ⟨R, 0, none⟩), .int .i64 (n : Int)] w fun e w' => PairIs R s i n w e w' := by
  have hRw := h.lt
  obtain ⟨W, HW⟩ : ∃ W, Hid (W = w.alloc (.cells #[.int .i64 0, .int .i64 0] 50)) := ⟨_, rfl⟩
  have HB0 : Hid (Below w.heap.size w W) := by rw [HW.out]; exact (Below.refl _ _).alloc (Nat.le_refl _) _
  have HK0 : Hid (Kp R w W) := Kp.of HB0.out
  have HR : Hid (Rd W R s i) := h.below HB0.out
  have HN : Hid (W.heap[w.heap.size]? = some (.cells #[.int .i64 0, .int .i64 0] 50)) := by rw [HW.out]; exact heap_alloc_new _ _
  have HSZ : Hid (W.heap.size = w.heap.size + 1) := by rw [HW.out]; simp [Hid]
  have hsub : IntKind.i64.wrap ((n : Int) - 1) = (n : Int) - 1 := wrap_i64_small' n hn
  clear h
  go_enter Tryd.func18, Tryd.ntmps18
  go_wp2_with fail
  rw [← HW.out]
  refine (take_gen R s i 32 _ HR.out hi hsz).mono ?_
  rintro e w1 (⟨rfl, m1, hj1⟩ | ⟨k, rfl, hk⟩)
  rotate_left
  · exact ⟨rfl, .inr ⟨1, k, .inl rfl, rfl, HK0.out.tr hk⟩⟩
  have HM1 : Hid (MvN R (i + 1) W w1) := m1
  clear m1
  go_wp2_with fail
  refine (number_gen R s (i + 1) ((n : Int) - 1) 3 _ (MvN.rd HR.out HM1.out) hj1 hsz (.inr rfl)).mono ?_
  rintro e w2 (⟨p1, j1, rfl, m2, hj2, _, _, hp1⟩ | ⟨c, k, hc, rfl, hk⟩)
  rotate_left
  · exact ⟨rfl, .inr ⟨c, k, hc, rfl, HK0.out.tr (HM1.out.kp.tr hk)⟩⟩
  have HM2 : Hid (MvN R j1 W w2) := HM1.out.tr m2
  clear m2 HM1
  go_wp2_with fail
  refine (take_gen R s j1 60 _ (MvN.rd HR.out HM2.out) hj2.2 hsz).mono ?_
  rintro e w3 (⟨rfl, m3, hj3⟩ | ⟨k, rfl, hk⟩)
  rotate_left
  · exact ⟨rfl, .inr ⟨1, k, .inl rfl, rfl, HK0.out.tr (HM2.out.kp.tr hk)⟩⟩
  have HM3 : Hid (MvN R (j1 + 1) W w3) := HM2.out.tr m3
  clear m3 HM2
  go_wp2_with fail
  refine (number_gen R s (j1 + 1) ((n : Int) - 1) 3 _ (MvN.rd HR.out HM3.out) hj3 hsz (.inr rfl)).mono ?_
  rintro e w4 (⟨p2, j2, rfl, m4, hj4, _, _, hp2⟩ | ⟨c, k, hc, rfl, hk⟩)
  rotate_left
  · exact ⟨rfl, .inr ⟨c, k, hc, rfl, HK0.out.tr (HM3.out.kp.tr hk)⟩⟩
  have HM4 : Hid (MvN R j2 W w4) := HM3.out.tr m4
  have hblk : w4.heap[w.heap.size]? = some (.cells #[.int .i64 0, .int .i64 0] 50) := by
    rw [(HM4.out.kp).block _ (by rw [HSZ.out]; omega) (by omega)]; exact HN.out
  have c0 : w4.cell? ⟨w.heap.size, 0, none⟩ = some (.int .i64 0) := by simp [World.cell?, hblk]
  have c1 : w4.cell? ⟨w.heap.size, 1, none⟩ = some (.int .i64 0) := by simp [World.cell?, hblk]
  have f0 : w4.frozen? ⟨w.heap.size, 0, none⟩ = false := by simp [World.frozen?, hblk]
  have f1 : w4.frozen? ⟨w.heap.size, 1, none⟩ = false := by simp [World.frozen?, hblk]
  have HR4 : Hid (Rd w4 R s j2) := MvN.rd HR.out HM4.out
  have HK4 : Hid (Kp R w w4) := HK0.out.tr HM4.out.kp
  clear m4 HM3 HM4 hblk HN HSZ
  go_wp2_with fail
  refine bodyPost_ret (v := .agg #[.int .i64 (p1 : Nat), .int .i64 (p2 : Nat)]) (by simp [results, Tryd.results18, go_sem, c0, c1]) rfl (.inl ⟨p1, p2, j2, rfl, ?_, ?_, ⟨by omega, hj4.2⟩, by omega, by omega⟩)
  · exact (HR4.out.other (p := ⟨w.heap.size, 0, none⟩) (by show w.heap.size ≠ R; omega) _).other (p := ⟨w.heap.size, 1, none⟩) (by show w.heap.size ≠ R; omega) _
  · exact (HK4.out.set (p := ⟨w.heap.size, 0, none⟩) (Nat.le_refl _) _).set (p := ⟨w.heap.size, 1, none⟩) (Nat.le_refl _) _
end Go.Proofs.YtkakhmkgapnlfaaDoor
