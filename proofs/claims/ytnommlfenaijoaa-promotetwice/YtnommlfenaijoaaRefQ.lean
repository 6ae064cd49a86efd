/-
  What the reference's SwapsTo and EvacuateRow answer. Conditions: a good order and a row of it.
-/
import Derived.Test.YtnommlfenaijoaaRefP
namespace Go.Proofs.Ytnommlfenaijoaa
set_option maxRecDepth 100000
open Go.RowKit

set_option maxHeartbeats 2000000 in
theorem swapsTo_any (n : Nat) (ao : Option Addr) (co : Nat) (g : Nat → Nat) (v : Value) (r : Nat → Nat) (m : Nat) (s : Int) (w : World) (h10 : n ≤ 10) (hg : ∀ k, k < n → g k < 1024) (ho : Row w ao n (fun k => (g k : Nat))) (hv : RowV w v n r) (hR : Rw g n r) (hm : m = 0 ∨ m < n) (hs : s = m ∨ (s < 0 ∧ m = 0)) :
    Calls Try.prog 11 #[.agg #[.int .i64 n, .slice ao n co], v, .int .i64 s] w fun e w' => (∃ u, e = .returned u ∧ RowV w' u n (up g m r)) ∧ Below w.heap.size w w' := by
  have HB0 : Hid (Below w.heap.size w (w.alloc (.cells #[.int .i64 n, .slice ao n co] 24))) := bel_one w _
  have K0 : Hid (Held (w.alloc (.cells #[.int .i64 n, .slice ao n co] 24)) w.heap.size n ao n co (fun k => (g k : Nat))) := Held.box ho
  have HV : Hid (RowV (w.alloc (.cells #[.int .i64 n, .slice ao n co] 24)) v n r) := hv.step HB0.out
  have HG : Hid (∀ k, k < n → g k < 1024) := hg
  have HRW : Hid (Rw g n r) := hR
  clear ho hg hR hv
  go_enter Try.func11, Try.ntmps11
  go_wp2_with fail
  go_loopw [7, 1] (fun t u wx => ∃ k : Nat, k ≤ m ∧ t = .int .i64 k ∧ Hid (RowV wx u n (up g k r)) ∧ Hid (Held wx w.heap.size n ao n co (fun k => (g k : Nat))) ∧ Hid (Below w.heap.size w wx)) (fun t _ _ => m - (intOf t).toNat)
  case atStart => exact ⟨0, Nat.zero_le _, rfl, HV.out, K0.out, HB0.out⟩
  case round =>
    clear HV K0 HB0
    obtain ⟨k, hk, rfl, hVk, hH, hB⟩ := hrel
    have c0 := hH.out.c0
    have c1 := hH.out.c1
    by_cases hlt : k < m
    · have hs2 : (k : Int) < s := by omega
      obtain ⟨a1, cap1, hu, hr1⟩ := hVk.out
      subst hu
      have HR1 : Hid (Row wr a1 n (fun j => ((up g k r j : Nat) : Int))) := hr1
      clear hr1 hVk
      go_wp2_with fail
      refine (swapAt_any n ao co g a1 cap1 (up g k r) k wr h10 HG.out hH.out.row HR1.out (HRW.out.up k (by omega)).1 (by omega)).mono ?_
      rintro e w1 ⟨⟨u, rfl, hu⟩, hb1⟩
      have HU : Hid (RowV w1 u n (up g (k + 1) r)) := hu
      have HH1 : Hid (Held w1 w.heap.size n ao n co (fun k => (g k : Nat))) := hH.out.step hb1
      have HB1 : Hid (Below w.heap.size w w1) := Below.then hB.out hb1
      clear hu hb1 hH hB c0 c1
      go_wp2_with fail
      go_roundw
      case rel => exact ⟨k + 1, by omega, by go_num, HU.out, HH1.out, HB1.out⟩
      case measure => simp [intOf]; omega
    · obtain rfl : k = m := by omega
      have hs2 : ¬ (k : Int) < s := by omega
      clear c0 c1
      go_wp2_with fail
      go_ret
      exact ⟨⟨_, rfl, hVk.out⟩, hB.out⟩

set_option maxHeartbeats 2000000 in
theorem evacuateRow_any (n : Nat) (ao : Option Addr) (co : Nat) (g : Nat → Nat) (v : Value) (r : Nat → Nat) (w : World) (h10 : n ≤ 10) (hg : ∀ k, k < n → g k < 1024) (ho : Row w ao n (fun k => (g k : Nat))) (hv : RowV w v n r) (hR : Rw g n r) :
    Calls Try.prog 17 #[.agg #[.int .i64 n, .slice ao n co], v] w fun e w' => (∃ u, e = .returned u ∧ RowV w' u n (ev g (n - 1) r)) ∧ Below w.heap.size w w' := by
  have HB0 : Hid (Below w.heap.size w (w.alloc (.cells #[.int .i64 n, .slice ao n co] 24))) := bel_one w _
  have K0 : Hid (Held (w.alloc (.cells #[.int .i64 n, .slice ao n co] 24)) w.heap.size n ao n co (fun k => (g k : Nat))) := Held.box ho
  have HV : Hid (RowV (w.alloc (.cells #[.int .i64 n, .slice ao n co] 24)) v n r) := hv.step HB0.out
  have HG : Hid (∀ k, k < n → g k < 1024) := hg
  have HRW : Hid (Rw g n r) := hR
  clear ho hg hR hv
  have k0 := K0.out.c0
  go_enter Try.func17, Try.ntmps17
  go_wp2_with fail
  clear k0
  go_loopw [5, 1] (fun t u wx => ∃ (z : Int) (j : Nat) (X : Nat → Nat), (j < n ∨ j = 0) ∧ (z = (j : Int) ∨ (z < 0 ∧ j = 0)) ∧ t = .int .i64 z ∧ Hid (RowV wx u n X) ∧ Hid (Rw g n X) ∧ Hid (ev g j X = ev g (n - 1) r) ∧ Hid (Held wx w.heap.size n ao n co (fun k => (g k : Nat))) ∧ Hid (Below w.heap.size w wx)) (fun t _ _ => (intOf t).toNat)
  case atStart => exact ⟨(n : Int) - 1, n - 1, r, by omega, by omega, rfl, HV.out, HRW.out, rfl, K0.out, HB0.out⟩
  case round =>
    clear HV K0 HB0
    obtain ⟨z, j, X, hj, hz, rfl, hVk, hRk, hEk, hH, hB⟩ := hrel
    have c0 := hH.out.c0
    have c1 := hH.out.c1
    by_cases hlt : 0 < z
    · obtain ⟨k, rfl⟩ : ∃ k, j = k + 1 := ⟨j - 1, by omega⟩
      obtain rfl : z = ((k + 1 : Nat) : Int) := by omega
      have hlt1 : k + 1 < n := by omega
      go_wp2_with fail
      refine (swapsTo_any n ao co g _ X (k + 1) _ wr h10 HG.out hH.out.row hVk.out hRk.out (.inr hlt1) (.inl rfl)).mono ?_
      rintro e w1 ⟨⟨u, rfl, hu⟩, hb1⟩
      have HU : Hid (RowV w1 u n (up g (k + 1) X)) := hu
      have HH1 : Hid (Held w1 w.heap.size n ao n co (fun k => (g k : Nat))) := hH.out.step hb1
      have HB1 : Hid (Below w.heap.size w w1) := Below.then hB.out hb1
      have HR2 : Hid (Rw g n (up g (k + 1) X)) := hRk.out.up (k + 1) hlt1
      have HE2 : Hid (ev g k (up g (k + 1) X) = ev g (n - 1) r) := hEk.out
      have hm1 : ((k + 1 : Nat) : Int) - 1 = (k : Int) := by omega
      clear hu hb1 hH hB c0 c1 hVk hRk hEk hj hz
      go_wp2_with fail
      go_roundw
      case rel => exact ⟨(k : Int), k, up g (k + 1) X, by omega, .inl rfl, by first | rfl | go_num, HU.out, HR2.out, HE2.out, HH1.out, HB1.out⟩
      case measure => simp [intOf]
    · obtain rfl : j = 0 := by omega
      have HE : Hid (X = ev g (n - 1) r) := hEk.out
      clear c0 c1
      go_wp2_with fail
      go_ret
      exact ⟨⟨_, rfl, by rw [← HE.out]; exact hVk.out⟩, hB.out⟩
end Go.Proofs.Ytnommlfenaijoaa
