/-
  What the reference's table and IsAccessible answer. Conditions: as each theorem says.
-/
import Derived.Test.YtjoklkbfcobfeaaDoorAccs
import Derived.Test.YtjoklkbfcobfeaaDoorTogR
import Derived.Deep.RegionHeld3
namespace Go.Proofs.YtjoklkbfcobfeaaDoor
open Go.RowKit

set_option maxHeartbeats 1000000 in
theorem table_any (n : Nat) (a : Option Addr) (len cap : Nat) (g : Nat → Nat) (w : World) (h10 : n ≤ 10) (hl : len ≤ maxLen) (hg : ∀ k, k < len → g k < pw n) (hr : Row w a len (fun k => (g k : Nat))) :
    Calls Tryd.prog 36 #[.agg #[.int .i64 (n : Nat), .slice a len cap]] w fun e w' => (∃ B, e = .returned (.slice (some ⟨B, 0, none⟩) (pw n) (pw n)) ∧ w.heap.size ≤ B ∧ BOwn w' B (pw n) (mem g len)) ∧ Below w.heap.size w w' := by
  unfold maxLen at hl
  have hpn := pw_le n h10
  obtain ⟨W0, HW0⟩ : ∃ W0, Hid (W0 = w.alloc (.cells #[.int .i64 (n : Nat), .slice a len cap] 24)) := ⟨_, rfl⟩
  have HB0 : Hid (Below w.heap.size w W0) := by rw [HW0.out]; exact (Below.refl _ _).alloc (Nat.le_refl _) _
  have K0 : Held W0 w.heap.size n a len cap (fun k => (g k : Nat)) := by rw [HW0.out]; exact Fam.box hr
  have HG : Hid (∀ k, k < len → g k < pw n) := hg
  obtain ⟨B, HB⟩ : ∃ B, Hid (B = W0.heap.size) := ⟨_, rfl⟩
  obtain ⟨i0, hi, hz0, hz1, hz2⟩ := info_parts Tryd.info4
  have HWB : Hid (w.heap.size ≤ B) := by rw [Hid, HB.out]; exact HB0.out.size
  have k0 := K0.c0
  clear hr hg
  go_enter Tryd.func36, Tryd.ntmps36
  go_wp2_with fail
  rw [← HW0.out]
  refine (bit_any n _ (by omega)).mono ?_
  rintro e w' ⟨rfl, rfl⟩
  go_wp2_with (at_make; refine wpList_make_full _ rfl _ _ 53 rfl W0.heap.size 4 i0 (.bool false) 1 Tryd.underlying53 hi hz0 hz1 .i64 .i64 _ _ (pw n) rfl rfl rfl rfl (by rw [hz2]; omega) (by unfold maxLen; omega) (Nat.le_refl _) ?_; intro w1 hown1 hgrow1)
  have HB1 : Hid (Below W0.heap.size W0 w1) := (Below.refl _ _).grown hgrow1 (Nat.le_refl _) (by simp)
  have HO1 : Hid (BOwn w1 B (pw n) (mem g 0)) := by rw [HB.out]; exact bools_made hown1
  rw [← HB.out]
  clear hown1 hgrow1 k0
  go_wp2_with fail
  go_loopw [4] (fun i wx => ∃ k : Nat, k ≤ len ∧ i = .int .i64 k ∧ Hid (BOwn wx B (pw n) (mem g k)) ∧ Hid (Below W0.heap.size W0 wx)) (fun i _ => len - (intOf i).toNat)
  case atStart => exact ⟨0, Nat.zero_le _, rfl, HO1, HB1⟩
  case round =>
    clear HO1 HB1
    obtain ⟨k, hk, rfl, HO, HBx⟩ := hrel
    have K1 := K0.step HBx.out
    have k0 := K1.c0
    have k1 := K1.c1
    by_cases hlt : k < len
    · obtain ⟨b2, off, rfl, hc⟩ := K1.row k hlt
      have hc2 : wr.cell? ⟨b2, off + k, none⟩ = some (.int .i64 (g k : Nat)) := hc
      have hlt' : (k : Int) < (len : Int) := by omega
      have hgk := HG.out k hlt
      have hgi : ((g k : Nat) : Int) < ((pw n : Nat) : Int) := by omega
      obtain ⟨hcm, hfm⟩ := HO.out (g k) hgk
      have HO2 : Hid (BOwn (wr.setCell ⟨B, g k, none⟩ (.bool true)) B (pw n) (mem g (k + 1))) := by rw [mem_succ]; exact HO.out.set (g k)
      have HB2 : Hid (Below W0.heap.size W0 (wr.setCell ⟨B, g k, none⟩ (.bool true))) := below_set HBx.out (by rw [HB.out]; exact Nat.le_refl _)
      clear hc
      go_wp2_with fail
      go_roundw
      case rel => exact ⟨k + 1, by omega, by go_num, HO2, HB2⟩
      case measure => simp [intOf]; omega
    · obtain rfl : k = len := by omega
      have hle : ((k : Nat) : Int) ≤ (k : Int) := Int.le_refl _
      go_wp2_with fail
      go_ret
      exact ⟨⟨B, rfl, HWB.out, HO.out⟩, Below.then HB0.out HBx.out⟩
end Go.Proofs.YtjoklkbfcobfeaaDoor
