/-
  What the reference's Beside answers of two orders that were looked at. Conditions: as the theorem says.
-/
import Derived.Test.YtnjmelbnamgjcabSidesM
import Derived.Test.YtnjmelbnamgjcabOfBeside
namespace Go.Proofs.Ytnjmelbnamgjcab
open Go.RowKit

def bsP (g1 : Nat → Nat) (n1 : Nat) (g2 : Nat → Nat) (ov : Bool) (x y : Nat) : Bool :=
  if x < n1 then (if y < n1 then (g1 y).testBit x else ov) else (if y < n1 then false else (g2 (y - n1)).testBit (x - n1))
def undr (ov : Bool) (n : Nat) : Nat := if ov = true then pw n - 1 else 0
theorem undr_lt (ov : Bool) (n : Nat) : undr ov n < pw n := by
  have := pw_pos n
  unfold undr; split <;> omega
theorem undr_bit (ov : Bool) (n j : Nat) (h : j < n) : (undr ov n).testBit j = ov := by
  unfold undr
  cases ov
  · simp
  · have := rest_bit (n := n) (s := 0) (pw_pos n) j
    simpa [h] using this
theorem bs_eq (g1 : Nat → Nat) (n1 : Nat) (g2 : Nat → Nat) (n2 : Nat) (ov : Bool) (h1 : ∀ k, k < n1 → g1 k < pw n1) (h2 : ∀ k, k < n2 → g2 k < pw n2) (y : Nat) (hy : y < n1 + n2) :
    setBy (fun x => bsP g1 n1 g2 ov x y) (n1 + n2) = jn g1 n1 g2 (undr ov n1) y := by
  have hu := undr_lt ov n1
  rcases Nat.lt_or_ge y n1 with h | h
  · rw [jn_lo h]
    refine eq_of_bits (setBy_lt _ _) (Nat.lt_of_lt_of_le (h1 y h) (Nat.pow_le_pow_right (by decide) (by omega))) fun i hi => ?_
    rw [setBy_bit]
    unfold bsP
    rcases Nat.lt_or_ge i n1 with hi1 | hi1
    · simp [hi, hi1, h]
    · have : (g1 y).testBit i = false := by
        cases e : (g1 y).testBit i
        · rfl
        · have := bit_of_lt (h1 y h) e; omega
      have hn : ¬ i < n1 := by omega
      simp [hn, h, this]
  · obtain ⟨d, rfl⟩ : ∃ d, y = n1 + d := ⟨y - n1, by omega⟩
    rw [jn_hi]
    have hlt : g2 d * pw n1 + undr ov n1 < pw (n1 + n2) := by
      rw [pw_add]
      have := h2 d (by omega)
      have : g2 d * pw n1 + pw n1 ≤ pw n1 * pw n2 := by
        rw [← Nat.succ_mul, Nat.mul_comm (pw n1)]; exact Nat.mul_le_mul_right _ this
      omega
    refine eq_of_bits (setBy_lt _ _) hlt fun i hi => ?_
    rw [setBy_bit, Nat.mul_comm (g2 d), sum_bit hu]
    unfold bsP
    have hn : ¬ n1 + d < n1 := by omega
    rcases Nat.lt_or_ge i n1 with hi1 | hi1
    · rw [if_pos hi1, if_pos hi1, if_neg hn, undr_bit ov n1 i hi1]; simp [hi]
    · have hn2 : ¬ i < n1 := by omega
      simp [hi, hn2]

set_option maxHeartbeats 1000000 in
theorem beside1_any (x y : Nat) (a1 : Option Addr) (len1 cap1 : Nat) (g1 : Nat → Nat) (a2 : Option Addr) (len2 cap2 : Nat) (g2 : Nat → Nat) (ov : Bool) (b0 b1 b2 : Nat) (w : World) (h1 : len1 ≤ 10) (h2 : len2 ≤ 10) (hg1 : ∀ k, k < len1 → g1 k < 1024) (hg2 : ∀ k, k < len2 → g2 k < 1024)
    (hx : x < len1 + len2) (hy : y < len1 + len2) (H1 : Held w b0 len1 a1 len1 cap1 (fun k => (g1 k : Nat))) (H2 : Held w b1 len2 a2 len2 cap2 (fun k => (g2 k : Nat))) (ho : w.cell? ⟨b2, 0, none⟩ = some (.bool ov)) :
    Calls Try.prog 28 #[.int .i64 x, .int .i64 y, .pointer (some ⟨b0, 0, none⟩), .pointer (some ⟨b1, 0, none⟩), .pointer (some ⟨b2, 0, none⟩)] w fun e w' => e = .returned (.bool (bsP g1 len1 g2 ov x y)) ∧ Below w.heap.size w w' := by
  have c0 := H1.c0
  have c1 := H1.c1
  have d0 := H2.c0
  have d1 := H2.c1
  have HR1 : Hid (Row w a1 len1 (fun k => (g1 k : Nat))) := H1.row
  have HR2 : Hid (Row w a2 len2 (fun k => (g2 k : Nat))) := H2.row
  have HG1 : Hid (∀ k, k < len1 → g1 k < 1024) := hg1
  have HG2 : Hid (∀ k, k < len2 → g2 k < 1024) := hg2
  obtain ⟨Q, HQ⟩ : ∃ Q, Hid (Q = bsP g1 len1 g2 ov x y) := ⟨_, rfl⟩
  rw [← HQ.out]
  clear H1 H2 hg1 hg2
  rcases Nat.lt_or_ge x len1 with hx1 | hx1
  · rcases Nat.lt_or_ge y len1 with hy1 | hy1
    · have HV : Hid (Q = (g1 y).testBit x) := HQ.out.trans (by simp [bsP, hx1, hy1])
      have e1 : decide ((x : Int) < (len1 : Int)) = true := by simp; omega
      have e2 : decide ((y : Int) < (len1 : Int)) = true := by simp; omega
      go_enter Try.func28, Try.ntmps28
      go_wp2_with fail
      refine (less_any len1 a1 len1 cap1 g1 x y _ h1 HG1.out HR1.out (by omega) hy1).mono ?_
      rintro e w1 ⟨rfl, hb⟩
      have HB : Hid (Below w.heap.size w w1) := hb
      clear hb
      go_wp2_with fail
      go_ret
      exact ⟨ret_bool HV.out.symm, HB.out⟩
    · have HV : Hid (Q = ov) := HQ.out.trans (by have : ¬ y < len1 := by omega
                                                 simp [bsP, hx1, this])
      have e1 : decide ((x : Int) < (len1 : Int)) = true := by simp; omega
      have e2 : decide ((y : Int) < (len1 : Int)) = false := by simp; omega
      have e3 : decide ((len1 : Int) ≤ (x : Int)) = false := by simp; omega
      have e4 : decide ((x : Int) < (y : Int)) = true := by simp; omega
      cases ov
      · go_enter Try.func28, Try.ntmps28
        go_wp2
        go_ret
        exact ⟨ret_bool HV.out.symm, Below.refl _ _⟩
      · go_enter Try.func28, Try.ntmps28
        go_wp2
        go_ret
        exact ⟨ret_bool ((by simp; omega : decide (x < y) = true).trans HV.out.symm), Below.refl _ _⟩
  · rcases Nat.lt_or_ge y len1 with hy1 | hy1
    · have HV : Hid (Q = false) := HQ.out.trans (by have : ¬ x < len1 := by omega
                                                    simp [bsP, hy1, this])
      have e1 : decide ((x : Int) < (len1 : Int)) = false := by simp; omega
      have e2 : decide ((y : Int) < (len1 : Int)) = true := by simp; omega
      have e3 : decide ((len1 : Int) ≤ (x : Int)) = true := by simp; omega
      have e5 : decide ((len1 : Int) ≤ (y : Int)) = false := by simp; omega
      have e4 : decide ((x : Int) < (y : Int)) = false := by simp; omega
      cases ov
      · go_enter Try.func28, Try.ntmps28
        go_wp2
        go_ret
        exact ⟨ret_bool HV.out.symm, Below.refl _ _⟩
      · go_enter Try.func28, Try.ntmps28
        go_wp2
        go_ret
        exact ⟨ret_bool ((by simp; omega : decide (x < y) = false).trans HV.out.symm), Below.refl _ _⟩
    · have HV : Hid (Q = (g2 (y - len1)).testBit (x - len1)) := HQ.out.trans (by have h3 : ¬ x < len1 := by omega
                                                                                 have h4 : ¬ y < len1 := by omega
                                                                                 simp [bsP, h3, h4])
      have e1 : decide ((x : Int) < (len1 : Int)) = false := by simp; omega
      have e2 : decide ((y : Int) < (len1 : Int)) = false := by simp; omega
      have e3 : decide ((len1 : Int) ≤ (x : Int)) = true := by simp; omega
      have e5 : decide ((len1 : Int) ≤ (y : Int)) = true := by simp; omega
      go_enter Try.func28, Try.ntmps28
      go_wp2_with fail
      rw [show ((x : Int) - (len1 : Int)) = ((x - len1 : Nat) : Int) by omega, show ((y : Int) - (len1 : Int)) = ((y - len1 : Nat) : Int) by omega]
      refine (less_any len2 a2 len2 cap2 g2 (x - len1) (y - len1) _ h2 HG2.out HR2.out (by omega) (by omega)).mono ?_
      rintro e w1 ⟨rfl, hb⟩
      have HB : Hid (Below w.heap.size w w1) := hb
      clear hb
      go_wp2_with fail
      go_ret
      exact ⟨ret_bool HV.out.symm, HB.out⟩

theorem refBeside_any (a1 : Option Addr) (len1 cap1 : Nat) (g1 : Nat → Nat) (a2 : Option Addr) (len2 cap2 : Nat) (g2 : Nat → Nat) (ov : Bool) (w : World) (hn : len1 + len2 ≤ 10) (hg1 : ∀ k, k < len1 → g1 k < pw len1) (hg2 : ∀ k, k < len2 → g2 k < pw len2)
    (hr1 : Row w a1 len1 (fun k => (g1 k : Nat))) (hr2 : Row w a2 len2 (fun k => (g2 k : Nat))) :
    Calls Try.prog 11 #[.agg #[.int .i64 (len1 : Int), .slice a1 len1 cap1], .agg #[.int .i64 (len2 : Int), .slice a2 len2 cap2], .bool ov] w fun e w' => OrderPost w (len1 + len2) (jn g1 len1 g2 (undr ov len1)) e w' ∧ Below w.heap.size w w' := by
  obtain ⟨W3, HW⟩ : ∃ W3, Hid (W3 = (((w.alloc (.cells #[.int .i64 (len1 : Int), .slice a1 len1 cap1] 24)).alloc (.cells #[.int .i64 (len2 : Int), .slice a2 len2 cap2] 24)).alloc (.cells #[.bool ov] 4)).alloc (.cells #[.int .i64 0, .slice none 0 0] 24)) := ⟨_, rfl⟩
  have b1 := (Below.refl w.heap.size w).alloc (Nat.le_refl _) (.cells #[.int .i64 (len1 : Int), .slice a1 len1 cap1] 24)
  have b2 := b1.alloc (by simp) (.cells #[.int .i64 (len2 : Int), .slice a2 len2 cap2] 24)
  have b3 := b2.alloc (by simp; omega) (.cells #[.bool ov] 4)
  have hbw : Below w.heap.size w W3 := by rw [HW.out]; exact b3.alloc (by simp; omega) _
  have X3 := (((Box.new w (len1 : Int) a1 len1 cap1).step ((Below.refl _ _).alloc (Nat.le_refl _) (.cells #[.int .i64 (len2 : Int), .slice a2 len2 cap2] 24))).step ((Below.refl _ _).alloc (Nat.le_refl _) (.cells #[.bool ov] 4))).step ((Below.refl _ _).alloc (Nat.le_refl _) (.cells #[.int .i64 0, .slice none 0 0] 24))
  have Y3 := ((Box.new (w.alloc (.cells #[.int .i64 (len1 : Int), .slice a1 len1 cap1] 24)) (len2 : Int) a2 len2 cap2).step ((Below.refl _ _).alloc (Nat.le_refl _) (.cells #[.bool ov] 4))).step ((Below.refl _ _).alloc (Nat.le_refl _) (.cells #[.int .i64 0, .slice none 0 0] 24))
  have Z3 := ZBox.new (((w.alloc (.cells #[.int .i64 (len1 : Int), .slice a1 len1 cap1] 24)).alloc (.cells #[.int .i64 (len2 : Int), .slice a2 len2 cap2] 24)).alloc (.cells #[.bool ov] 4))
  have O3 : ((((w.alloc (.cells #[.int .i64 (len1 : Int), .slice a1 len1 cap1] 24)).alloc (.cells #[.int .i64 (len2 : Int), .slice a2 len2 cap2] 24)).alloc (.cells #[.bool ov] 4)).alloc (.cells #[.int .i64 0, .slice none 0 0] 24)).cell? ⟨w.heap.size + 1 + 1, 0, none⟩ = some (.bool ov) := by
    rw [World.cell?_alloc_lt _ _ _ (by simp), World.cell?_alloc_at _ _ _ _ (by simp)]; rfl
  simp only [World.size_alloc] at Y3 Z3
  rw [← HW.out] at X3 Y3 Z3 O3
  have hsz : w.heap.size + 4 = W3.heap.size := by rw [HW.out]; simp
  have H13 : Hid (Held W3 w.heap.size len1 a1 len1 cap1 (fun k => (g1 k : Nat))) := ⟨X3.1, X3.2, hr1.below hbw⟩
  have H23 : Hid (Held W3 (w.heap.size + 1) len2 a2 len2 cap2 (fun k => (g2 k : Nat))) := ⟨Y3.1, Y3.2, hr2.below hbw⟩
  have HO3 : Hid (W3.cell? ⟨w.heap.size + 1 + 1, 0, none⟩ = some (.bool ov)) := O3
  have HZ3 : Hid (ZBox W3 (w.heap.size + 1 + 1 + 1)) := Z3
  have HBW : Hid (Below w.heap.size w W3) := hbw
  have HG1 : Hid (∀ k, k < len1 → g1 k < 1024) := fun k hk => Nat.lt_of_lt_of_le (hg1 k hk) (pw_le len1 (by omega))
  have HG2 : Hid (∀ k, k < len2 → g2 k < 1024) := fun k hk => Nat.lt_of_lt_of_le (hg2 k hk) (pw_le len2 (by omega))
  have HEQ : Hid (∀ y, y < len1 + len2 → setBy (fun x => bsP g1 len1 g2 ov x y) (len1 + len2) = jn g1 len1 g2 (undr ov len1) y) := bs_eq g1 len1 g2 len2 ov hg1 hg2
  obtain ⟨x30, x31⟩ := X3
  obtain ⟨y30, y31⟩ := Y3
  clear b1 b2 b3 Z3 O3 hbw hg1 hg2 hr1 hr2
  go_enter Try.func11, Try.ntmps11
  go_wp2_with fail
  rw [← HW.out]
  rw [show ((len1 : Int) + (len2 : Int)) = ((len1 + len2 : Nat) : Int) by omega]
  clear x30 x31 y30 y31
  refine (orderOf_beside (len1 + len2) w.heap.size (w.heap.size + 1) (w.heap.size + 1 + 1) (fun x y => bsP g1 len1 g2 ov x y) _ hn (fun x y wx hx hy hb => beside1_any x y a1 len1 cap1 g1 a2 len2 cap2 g2 ov _ _ _ wx (by omega) (by omega) HG1.out HG2.out hx hy (H13.out.step hb) (H23.out.step hb) ((hb.cell (World.block_lt_of_cell? _ _ HO3.out)).trans HO3.out))).mono ?_
  rintro e w4 ⟨⟨a4, cap4, rfl, hrow, hfr⟩, hb⟩
  obtain ⟨r0, r1, r2, r3⟩ := HZ3.out.step hb
  have HB4 : Hid (Below w.heap.size w w4) := Below.then HBW.out hb
  have HR4 : Hid (Row w4 a4 (len1 + len2) (fun k => (jn g1 len1 g2 (undr ov len1) k : Nat))) := fun k hk => by
    obtain ⟨b, off, e, hc⟩ := hrow k hk
    refine ⟨b, off, e, ?_⟩
    rw [hc]
    simp only [HEQ.out k hk]
  have HF4 : Hid (Fresh (w.heap.size + 1 + 1 + 1 + 1) a4 (len1 + len2)) := hfr.mono (by omega)
  clear hb hrow hfr HZ3 HBW H13 H23 HO3 HG1 HG2 HEQ HW
  go_wp2_with fail
  exact bodyPost_ret (v := .agg #[.int .i64 ((len1 + len2 : Nat) : Int), .slice a4 (len1 + len2) cap4]) (by simp [results, Try.results11, go_sem, r0, r1]) rfl ⟨⟨a4, cap4, rfl, row_set2 HR4.out HF4.out, HF4.out.mono (by omega)⟩, set2B HB4.out (by omega)⟩
end Go.Proofs.Ytnjmelbnamgjcab
