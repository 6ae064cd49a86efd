/-
  What slices.Grow and slices.Concat answer of slices of pairs. Conditions: two lists, at most five hundred pairs each, the first one not empty.
-/
import Derived.Test.YtappekjkcgmheabPofP
import Derived.Test.YtappekjkcgmheabClnP
import Derived.Test.YtappekjkcgmheabTabs
import Derived.Lib.AppendZeros
import Derived.Deep.Cut
import Derived.Deep.WholeRow
namespace Go.Proofs.Ytappekjkcgmheab
open Go.RowKit
set_option maxRecDepth 100000

theorem size_zeroC (z : Array Value) (n : Nat) : (Builtin.zeroCells z n).size = n * z.size := by simp [Builtin.zeroCells]
set_option maxHeartbeats 1000000 in
theorem grow_any (n : Nat) (w : World) (h1 : 1 ≤ n) (h2 : n ≤ 1000) :
    Calls Try.prog 34 #[.slice none 0 0, .int .i64 (n : Nat)] w fun e w' => (∃ v, e = .returned v ∧ w'.ownsRow w.heap.size 49 2 v 0 []) ∧ Below w.heap.size w w' := by
  obtain ⟨i0, hi, hz0, hz1, hz2⟩ := info_parts Try.infoRU
  have happ : ∀ w, (Builtin.append_ #[46, 3] 46 #[.slice none 0 0, .int .i64 (n : Nat)]).run Try.prog w = .ok _ _ := fun w => Lib.run_append_nil_zeros (P := Try.prog) w 46 3 46 49 i0 (.agg #[.int .i64 0, .int .i64 0]) .i64 .i64 Try.underlying46 Try.underlying3 hi hz0 n h1 (by rw [hz1]; decide) (by omega) (by rw [hz2]; omega)
  have hc1 : n ≤ grownCap w n 0 49 := grownCap_ge w _ 0 _
  have hc2 : grownCap w n 0 49 ≤ maxLen := grownCap_le_maxLen w _ 0 _ (by unfold maxLen; omega)
  have HOWN : Hid ((w.drew.alloc (.cells (Builtin.zeroCells (Value.agg #[.int .i64 0, .int .i64 0]).cells n ++ Builtin.zeroCells (Value.agg #[.int .i64 0, .int .i64 0]).cells (grownCap w n 0 49 - n)) 49)).ownsRow w.heap.size 49 2 (.slice (some ⟨w.heap.size, 0, none⟩) 0 (grownCap w n 0 49)) 0 []) :=
    ⟨rfl, .inr ⟨w.heap.size, _, _, rfl, Nat.le_refl _, heap_alloc_last w.drew _, Nat.zero_le _, hc2, by simp [size_zeroC, Value.cells]; omega, rfl⟩⟩
  have HB : Hid (Below w.heap.size w (w.drew.alloc (.cells (Builtin.zeroCells (Value.agg #[.int .i64 0, .int .i64 0]).cells n ++ Builtin.zeroCells (Value.agg #[.int .i64 0, .int .i64 0]).cells (grownCap w n 0 49 - n)) 49))) := ((Below.refl _ _).drew).alloc (Nat.le_refl _) _
  have hn0 : ¬ ((n : Int) < 0) := by omega
  have hn1 : (0 : Int) < (n : Int) := by omega
  go_enter Try.func34, Try.ntmps34
  go_wp2_with (at_builtin; refine Lib.wpList_append_run _ rfl _ _ _ _ rfl _ _ rfl rfl _ _ (happ _) ?_)
  go_ret
  exact ⟨⟨_, rfl, HOWN.out⟩, HB.out⟩
/-- The first k of two lists, one behind the other. -/
def catK (L1 L2 : List (Nat × Nat)) : Nat → List (Nat × Nat)
  | 0 => []
  | 1 => L1
  | _ => L1 ++ L2
def pick (x y : Nat) : Nat → Nat
  | 0 => x
  | _ => y
theorem papp_src {w : World} {base : Nat} {v : Value} {l : List (Nat × Nat)} (h : PApp w base v l) (hl : 0 < l.length) : PSrc w v l := by
  rcases h with ⟨rfl, _⟩ | h
  · exact absurd hl (Nat.lt_irrefl _)
  · obtain ⟨a, cap, e, hr⟩ := owns_pairs h
    obtain ⟨g, cap', rfl⟩ := owns_form h hl
    injection e with e1 e2 e3
    subst e1
    exact .inr ⟨g, 0, cap', rfl, hr⟩
theorem catK_more (L1 L2 : List (Nat × Nat)) {k : Nat} (h : k < 2) : catK L1 L2 (k + 1) = catK L1 L2 k ++ (if k = 0 then L1 else L2) := by
  rcases (by omega : k = 0 ∨ k = 1) with rfl | rfl <;> simp [catK]
set_option maxHeartbeats 1000000 in
theorem concat_any (q A ca B1 B2 c1 c2 : Nat) (L1 L2 : List (Nat × Nat)) (w : World) (h0 : 1 ≤ q) (h500 : q ≤ 500) (e1 : L1.length = q) (e2 : L2.length = q)
    (hA1 : w.cell? ⟨A, 0, none⟩ = some (.slice (some ⟨B1, 0, none⟩) q c1)) (hA2 : w.cell? ⟨A, 1, none⟩ = some (.slice (some ⟨B2, 0, none⟩) q c2)) (hp1 : PRow w (some ⟨B1, 0, none⟩) L1.length (pairAt L1)) (hp2 : PRow w (some ⟨B2, 0, none⟩) L2.length (pairAt L2)) :
    Calls Try.prog 18 #[.slice (some ⟨A, 0, none⟩) 2 ca] w fun e w' => (∃ v, e = .returned v ∧ PSrc w' v (L1 ++ L2)) ∧ Below w.heap.size w w' := by
  have HP1 : Hid (PRow w (some ⟨B1, 0, none⟩) L1.length (pairAt L1)) := hp1
  have HP2 : Hid (PRow w (some ⟨B2, 0, none⟩) L2.length (pairAt L2)) := hp2
  have HA1 : Hid (w.cell? ⟨A, 0, none⟩ = some (.slice (some ⟨B1, 0, none⟩) q c1)) := hA1
  have HA2 : Hid (w.cell? ⟨A, 1, none⟩ = some (.slice (some ⟨B2, 0, none⟩) q c2)) := hA2
  clear hp1 hp2
  go_enter Try.func18, Try.ntmps18
  go_wp2_with fail
  go_loop [3, 11] (fun s t => ∃ k : Nat, k ≤ 2 ∧ s = .int .i64 ((k * q : Nat) : Int) ∧ t = .int .i64 k) (fun _ t => 2 - (intOf t).toNat)
  case atStart => exact ⟨0, by omega, by simp, rfl⟩
  case round =>
    obtain ⟨k, hk, rfl, rfl⟩ := hrel
    rcases (by omega : k = 0 ∨ k = 1 ∨ k = 2) with rfl | rfl | rfl
    · have e0 : ((0 * q : Nat) : Int) = 0 := by simp
      rw [e0]
      have hq0 : ¬ ((q : Int) < 0) := by omega
      go_wp2_with fail
      go_round
      case rel => exact ⟨1, by omega, by go_num, by go_num⟩
      case measure => simp [intOf]
    · have e0 : ((1 * q : Nat) : Int) = (q : Int) := by simp
      rw [e0]
      have hq0 : ¬ ((q : Int) + (q : Int) < 0) := by omega
      go_wp2_with fail
      go_round
      case rel => exact ⟨2, by omega, by go_num, by go_num⟩
      case measure => simp [intOf]
    · clear hA1 hA2
      have hno : ¬ ((2 : Nat) : Int) < 2 := by decide
      go_wp2_with fail
      refine (grow_any (2 * q) _ (by omega) (by omega)).mono ?_
      rintro e w1 ⟨⟨v, rfl, hown⟩, hb1⟩
      have HOW : Hid (PApp w1 w.heap.size v (catK L1 L2 0)) := .inr hown
      have HB1 : Hid (Below w.heap.size w w1) := hb1
      clear hown hb1
      go_wp2_with fail
      go_loopw [6, 27] (fun v t wx => ∃ k : Nat, k ≤ 2 ∧ t = .int .i64 k ∧ Hid (PApp wx w.heap.size v (catK L1 L2 k)) ∧ Hid (Below w.heap.size w wx)) (fun _ t _ => 2 - (intOf t).toNat)
      case atStart => exact ⟨0, by omega, rfl, HOW.out, HB1.out⟩
      case round =>
        clear HOW HB1
        obtain ⟨k, hk, rfl, HO, HB⟩ := hrel
        rcases (by omega : k = 0 ∨ k = 1 ∨ k = 2) with rfl | rfl | rfl
        · have k0 := cell_step HB.out HA1.out
          have HPX : Hid (PRow wr (some ⟨B1, 0, none⟩) L1.length (pairAt L1)) := HP1.out.below HB.out
          have HLE : Hid ((catK L1 L2 0).length + L1.length ≤ 1000) := by
            have e : (catK L1 L2 0).length + L1.length ≤ 1000 := by simp [catK]; omega
            exact e
          go_wp2_with (at_builtin; refine wpList_plain rfl fun K hK => wp_app _ w (.tmp 31) (.tmp 32) rfl _ (catK L1 L2 0) L1 rfl HO.out HB.out B1 0 q c1 rfl e1.symm HPX.out HLE.out ?_; intro v2 w2 hA2 hB2; refine hK _ _ ?_)
          have HO2 : Hid (PApp w2 w.heap.size v2 (catK L1 L2 (0 + 1))) := by rw [catK_more L1 L2 (by omega)]; exact hA2
          have HB2 : Hid (Below w.heap.size w w2) := hB2
          clear hA2 hB2 HO HB HPX HLE k0
          go_wp2_with fail
          go_roundw
          case rel => exact ⟨0 + 1, by omega, by go_num, HO2.out, HB2.out⟩
          case measure => simp [intOf]
        · have k0 := cell_step HB.out HA2.out
          have HPX : Hid (PRow wr (some ⟨B2, 0, none⟩) L2.length (pairAt L2)) := HP2.out.below HB.out
          have HLE : Hid ((catK L1 L2 1).length + L2.length ≤ 1000) := by
            have e : (catK L1 L2 1).length + L2.length ≤ 1000 := by simp [catK]; omega
            exact e
          go_wp2_with (at_builtin; refine wpList_plain rfl fun K hK => wp_app _ w (.tmp 31) (.tmp 32) rfl _ (catK L1 L2 1) L2 rfl HO.out HB.out B2 0 q c2 rfl e2.symm HPX.out HLE.out ?_; intro v2 w2 hA2 hB2; refine hK _ _ ?_)
          have HO2 : Hid (PApp w2 w.heap.size v2 (catK L1 L2 (1 + 1))) := by rw [catK_more L1 L2 (by omega)]; exact hA2
          have HB2 : Hid (Below w.heap.size w w2) := hB2
          clear hA2 hB2 HO HB HPX HLE k0
          go_wp2_with fail
          go_roundw
          case rel => exact ⟨1 + 1, by omega, by go_num, HO2.out, HB2.out⟩
          case measure => simp [intOf]
        · have HF : Hid (PSrc wr u6 (L1 ++ L2)) := papp_src HO.out (by simp; omega)
          go_wp2_with fail
          go_ret
          exact ⟨⟨_, rfl, HF.out⟩, HB.out⟩
end Go.Proofs.Ytappekjkcgmheab
