/-
  What slices.Grow and slices.Concat answer of slices of pairs. Conditions: two lists, at most five hundred pairs each, the first one not empty.
  What quotient.Simple answers, whatever it is handed. No condition but that slices read as slices of rows.
  That the library's SortFunc lies in this program as the shelf knows it. No condition.
-/
import Derived.Test.YthhnngmfbbljaaaGreatPofP
import Derived.Test.YthhnngmfbbljaaaGreatTogM
import Derived.Test.YthhnngmfbbljaaaGreatTabs
import Derived.Lib.AppendZeros
import Derived.Deep.Cut
import Derived.Deep.WholeRow
import Derived.Test.YthhnngmfbbljaaaGreatOfpP
import Derived.Shelf.SlLaysF
import Derived.Ground.SlsfProg
import Derived.Test.YthhnngmfbbljaaaGreatCmpP
namespace Go.Proofs.YthhnngmfbbljaaaGreat
open Go.RowKit
set_option maxRecDepth 100000

theorem size_zeroC (z : Array Value) (n : Nat) : (Builtin.zeroCells z n).size = n * z.size := by simp [Builtin.zeroCells]
set_option maxHeartbeats 1000000 in
theorem grow_any (n : Nat) (w : World) (h1 : 1 ≤ n) (h2 : n ≤ 1000) :
    Calls Tryz.prog 85 #[.slice none 0 0, .int .i64 (n : Nat)] w fun e w' => (∃ v, e = .returned v ∧ w'.ownsRow w.heap.size 94 2 v 0 []) ∧ Below w.heap.size w w' := by
  obtain ⟨i0, hi, hz0, hz1, hz2⟩ := info_parts Tryz.infoRU
  have happ : ∀ w, (Builtin.append_ #[92, 3] 92 #[.slice none 0 0, .int .i64 (n : Nat)]).run Tryz.prog w = .ok _ _ := fun w => Lib.run_append_nil_zeros (P := Tryz.prog) w 92 3 92 94 i0 (.agg #[.int .i64 0, .int .i64 0]) .i64 .i64 Tryz.underlying92 Tryz.underlying3 hi hz0 n h1 (by rw [hz1]; decide) (by omega) (by rw [hz2]; omega)
  have hc1 : n ≤ grownCap w n 0 94 := grownCap_ge w _ 0 _
  have hc2 : grownCap w n 0 94 ≤ maxLen := grownCap_le_maxLen w _ 0 _ (by unfold maxLen; omega)
  have HOWN : Hid ((w.drew.alloc (.cells (Builtin.zeroCells (Value.agg #[.int .i64 0, .int .i64 0]).cells n ++ Builtin.zeroCells (Value.agg #[.int .i64 0, .int .i64 0]).cells (grownCap w n 0 94 - n)) 94)).ownsRow w.heap.size 94 2 (.slice (some ⟨w.heap.size, 0, none⟩) 0 (grownCap w n 0 94)) 0 []) :=
    ⟨rfl, .inr ⟨w.heap.size, _, _, rfl, Nat.le_refl _, heap_alloc_last w.drew _, Nat.zero_le _, hc2, by simp [size_zeroC, Value.cells]; omega, rfl⟩⟩
  have HB : Hid (Below w.heap.size w (w.drew.alloc (.cells (Builtin.zeroCells (Value.agg #[.int .i64 0, .int .i64 0]).cells n ++ Builtin.zeroCells (Value.agg #[.int .i64 0, .int .i64 0]).cells (grownCap w n 0 94 - n)) 94))) := ((Below.refl _ _).drew).alloc (Nat.le_refl _) _
  have hn0 : ¬ ((n : Int) < 0) := by omega
  have hn1 : (0 : Int) < (n : Int) := by omega
  go_enter Tryz.func85, Tryz.ntmps85
  go_wp2_with (at_builtin; refine Lib.wpList_append_run _ rfl _ _ _ _ rfl _ _ rfl rfl _ _ (happ _) ?_)
  go_ret
  exact ⟨⟨_, rfl, HOWN.out⟩, HB.out⟩
/-- The first k of two lists, one behind the other. -/
def catK (L1 L2 : List (Nat × Nat)) : Nat → List (Nat × Nat)
  | 0 => []
  | 1 => L1
  | _ => L1 ++ L2
def pick (x y : Nat) : Nat → Nat
  | 0 => x
  | _ => y
theorem papp_src {w : World} {base : Nat} {v : Value} {l : List (Nat × Nat)} (h : PApp w base v l) (hl : 0 < l.length) : PSrc w v l := by
  rcases h with ⟨rfl, _⟩ | h
  · exact absurd hl (Nat.lt_irrefl _)
  · obtain ⟨a, cap, e, hr⟩ := owns_qpairs h
    obtain ⟨g, cap', rfl⟩ := owns_form h hl
    injection e with e1 e2 e3
    subst e1
    exact .inr ⟨g, 0, cap', rfl, hr⟩
theorem catK_more (L1 L2 : List (Nat × Nat)) {k : Nat} (h : k < 2) : catK L1 L2 (k + 1) = catK L1 L2 k ++ (if k = 0 then L1 else L2) := by
  rcases (by omega : k = 0 ∨ k = 1) with rfl | rfl <;> simp [catK]
set_option maxHeartbeats 1000000 in
theorem concat_any (q A ca B1 B2 c1 c2 : Nat) (L1 L2 : List (Nat × Nat)) (w : World) (h0 : 1 ≤ q) (h500 : q ≤ 500) (e1 : L1.length = q) (e2 : L2.length = q)
    (hA1 : w.cell? ⟨A, 0, none⟩ = some (.slice (some ⟨B1, 0, none⟩) q c1)) (hA2 : w.cell? ⟨A, 1, none⟩ = some (.slice (some ⟨B2, 0, none⟩) q c2)) (hp1 : PRow w (some ⟨B1, 0, none⟩) L1.length (pairAt L1)) (hp2 : PRow w (some ⟨B2, 0, none⟩) L2.length (pairAt L2)) :
    Calls Tryz.prog 61 #[.slice (some ⟨A, 0, none⟩) 2 ca] w fun e w' => (∃ v, e = .returned v ∧ PSrc w' v (L1 ++ L2)) ∧ Below w.heap.size w w' := by
  have HP1 : Hid (PRow w (some ⟨B1, 0, none⟩) L1.length (pairAt L1)) := hp1
  have HP2 : Hid (PRow w (some ⟨B2, 0, none⟩) L2.length (pairAt L2)) := hp2
  have HA1 : Hid (w.cell? ⟨A, 0, none⟩ = some (.slice (some ⟨B1, 0, none⟩) q c1)) := hA1
  have HA2 : Hid (w.cell? ⟨A, 1, none⟩ = some (.slice (some ⟨B2, 0, none⟩) q c2)) := hA2
  clear hp1 hp2
  go_enter Tryz.func61, Tryz.ntmps61
  go_wp2_with fail
  go_loop [3, 11] (fun s t => ∃ k : Nat, k ≤ 2 ∧ s = .int .i64 ((k * q : Nat) : Int) ∧ t = .int .i64 k) (fun _ t => 2 - (intOf t).toNat)
  case atStart => exact ⟨0, by omega, by simp, rfl⟩
  case round =>
    obtain ⟨k, hk, rfl, rfl⟩ := hrel
    rcases (by omega : k = 0 ∨ k = 1 ∨ k = 2) with rfl | rfl | rfl
    · have e0 : ((0 * q : Nat) : Int) = 0 := by simp
      rw [e0]
      have hq0 : ¬ ((q : Int) < 0) := by omega
      go_wp2_with fail
      go_round
      case rel => exact ⟨1, by omega, by go_num, by go_num⟩
      case measure => simp [intOf]
    · have e0 : ((1 * q : Nat) : Int) = (q : Int) := by simp
      rw [e0]
      have hq0 : ¬ ((q : Int) + (q : Int) < 0) := by omega
      go_wp2_with fail
      go_round
      case rel => exact ⟨2, by omega, by go_num, by go_num⟩
      case measure => simp [intOf]
    · clear hA1 hA2
      have hno : ¬ ((2 : Nat) : Int) < 2 := by decide
      go_wp2_with fail
      refine (grow_any (2 * q) _ (by omega) (by omega)).mono ?_
      rintro e w1 ⟨⟨v, rfl, hown⟩, hb1⟩
      have HOW : Hid (PApp w1 w.heap.size v (catK L1 L2 0)) := .inr hown
      have HB1 : Hid (Below w.heap.size w w1) := hb1
      clear hown hb1
      go_wp2_with fail
      go_loopw [6, 27] (fun v t wx => ∃ k : Nat, k ≤ 2 ∧ t = .int .i64 k ∧ Hid (PApp wx w.heap.size v (catK L1 L2 k)) ∧ Hid (Below w.heap.size w wx)) (fun _ t _ => 2 - (intOf t).toNat)
      case atStart => exact ⟨0, by omega, rfl, HOW.out, HB1.out⟩
      case round =>
        clear HOW HB1
        obtain ⟨k, hk, rfl, HO, HB⟩ := hrel
        rcases (by omega : k = 0 ∨ k = 1 ∨ k = 2) with rfl | rfl | rfl
        · have k0 := cell_step HB.out HA1.out
          have HPX : Hid (PRow wr (some ⟨B1, 0, none⟩) L1.length (pairAt L1)) := HP1.out.below HB.out
          have HLE : Hid ((catK L1 L2 0).length + L1.length ≤ 1000) := by
            have e : (catK L1 L2 0).length + L1.length ≤ 1000 := by simp [catK]; omega
            exact e
          go_wp2_with (at_builtin; refine wpList_plain rfl fun K hK => wp_app _ w (.tmp 31) (.tmp 32) rfl _ (catK L1 L2 0) L1 rfl HO.out HB.out B1 0 q c1 rfl e1.symm HPX.out HLE.out ?_; intro v2 w2 hA2 hB2; refine hK _ _ ?_)
          have HO2 : Hid (PApp w2 w.heap.size v2 (catK L1 L2 (0 + 1))) := by rw [catK_more L1 L2 (by omega)]; exact hA2
          have HB2 : Hid (Below w.heap.size w w2) := hB2
          clear hA2 hB2 HO HB HPX HLE k0
          go_wp2_with fail
          go_roundw
          case rel => exact ⟨0 + 1, by omega, by go_num, HO2.out, HB2.out⟩
          case measure => simp [intOf]
        · have k0 := cell_step HB.out HA2.out
          have HPX : Hid (PRow wr (some ⟨B2, 0, none⟩) L2.length (pairAt L2)) := HP2.out.below HB.out
          have HLE : Hid ((catK L1 L2 1).length + L2.length ≤ 1000) := by
            have e : (catK L1 L2 1).length + L2.length ≤ 1000 := by simp [catK]; omega
            exact e
          go_wp2_with (at_builtin; refine wpList_plain rfl fun K hK => wp_app _ w (.tmp 31) (.tmp 32) rfl _ (catK L1 L2 1) L2 rfl HO.out HB.out B2 0 q c2 rfl e2.symm HPX.out HLE.out ?_; intro v2 w2 hA2 hB2; refine hK _ _ ?_)
          have HO2 : Hid (PApp w2 w.heap.size v2 (catK L1 L2 (1 + 1))) := by rw [catK_more L1 L2 (by omega)]; exact hA2
          have HB2 : Hid (Below w.heap.size w w2) := hB2
          clear hA2 hB2 HO HB HPX HLE k0
          go_wp2_with fail
          go_roundw
          case rel => exact ⟨1 + 1, by omega, by go_num, HO2.out, HB2.out⟩
          case measure => simp [intOf]
        · have HF : Hid (PSrc wr u6 (L1 ++ L2)) := papp_src HO.out (by simp; omega)
          go_wp2_with fail
          go_ret
          exact ⟨⟨_, rfl, HF.out⟩, HB.out⟩
end Go.Proofs.YthhnngmfbbljaaaGreat
namespace Go.Proofs.YthhnngmfbbljaaaGreat
open Go.RowKit
set_option maxRecDepth 100000

/-- What Simple must answer: the error and the truth. -/
def SmIs (n : Int) (la : Nat) (SA : Nat → Option Addr × Nat × Nat) (FA : Nat → Nat → Int) (lb : Nat) (SB : Nat → Option Addr × Nat × Nat) (FB : Nat → Nat → Int) (c : Int) (t : Bool) : Prop :=
  (c ≠ 0 ∧ LCk n la SA FA lb SB FB c ∧ t = false) ∨ (c = 0 ∧ LCk n la SA FA lb SB FB 0 ∧ ∃ k G, OP n.toNat (nat2 FA) (nat2 FB) n.toNat 0 k G ∧ t = (k == 1))

set_option maxHeartbeats 4000000 in
theorem simple_any (n : Int) (a : Option Addr) (la ca : Nat) (SA : Nat → Option Addr × Nat × Nat) (FA : Nat → Nat → Int) (b : Option Addr) (lb cb : Nat) (SB : Nat → Option Addr × Nat × Nat) (FB : Nat → Nat → Int) (w : World) (hla : la ≤ maxLen) (hlb : lb ≤ maxLen) (hra : RR w a la SA FA) (hrb : RR w b lb SB FB) :
    Calls Tryz.prog 30 #[.agg #[.int .i64 n, .slice a la ca, .slice b lb cb]] w fun e w' => (∃ c t, e = .returned (.tuple #[.bool t, .int .i64 c]) ∧ SmIs n la SA FA lb SB FB c t) ∧ Below w.heap.size w w' := by
  have hb0 : Below w.heap.size w (w.alloc (.cells #[.int .i64 n, .slice a la ca, .slice b lb cb] 27)) := (Below.refl _ _).alloc (Nat.le_refl _) _
  have HC := (show Hid _ from lCheck_any n a la ca SA FA b lb cb SB FB _ hla hlb (hra.below hb0) (hrb.below hb0))
  have HB0 : Hid (Below w.heap.size w (w.alloc (.cells #[.int .i64 n, .slice a la ca, .slice b lb cb] 27))) := hb0
  have HK0 : Hid (LB (w.alloc (.cells #[.int .i64 n, .slice a la ca, .slice b lb cb] 27)) w.heap.size n a la ca b lb cb) := LB.new _ _ _ _ _ _ _ _
  have HRA : Hid (RR w a la SA FA) := hra
  have HRB : Hid (RR w b lb SB FB) := hrb
  clear hra hrb hb0
  go_enter Tryz.func30, Tryz.ntmps30
  go_wp2_with fail
  refine Calls.mono HC.out ?_
  rintro e w1 ⟨⟨c, rfl, hc⟩, hb1⟩
  have HK1 : Hid (LB w1 w.heap.size n a la ca b lb cb) := HK0.out.step hb1
  have HB1 : Hid (Below w.heap.size w w1) := Below.then HB0.out hb1
  have HCK : Hid (LCk n la SA FA lb SB FB c) := hc
  clear hc hb1 HC HB0 HK0
  by_cases h0 : c = 0
  · subst h0
    obtain ⟨q, rfl, h1, h40, rfl, rfl, hsa, hsb, hga, hgb, _⟩ := HCK.out.good
    obtain ⟨bA, oA, rfl, hta, hia⟩ := HRA.out.tb h1 hsa hga
    obtain ⟨bB, oB, rfl, htb, hib⟩ := HRB.out.tb h1 hsb hgb
    have k0 := HK1.out.1
    have k1 := HK1.out.2.1
    have k2 := HK1.out.2.2
    have HQ := (show Hid _ from ofPairs_any _ bA oA ca bB oB cb _ _ (nat2 FA) (nat2 FB) w1 h1 h40 hia hib (Tb.step hta HB1.out) (Tb.step htb HB1.out))
    clear hsa hsb hga hgb hta htb hia hib HRA HRB
    go_wp2_with fail
    refine Calls.mono HQ.out ?_
    rintro e w2 ⟨⟨v, r, k, G, rfl, hcr, hop⟩, hb2⟩
    obtain ⟨av, cv, rfl⟩ := slice_of hcr.own
    have HB2 : Hid (Below w.heap.size w w2) := Below.then HB1.out hb2
    have HF : Hid (∀ t, t = (k == 1) → SmIs (lb : Int) lb SA FA lb SB FB 0 t) := fun t ht => .inr ⟨rfl, HCK.out, k, G, hop, ht⟩
    clear hcr hop hb2 HQ k0 k1 k2
    go_wp2_with fail
    go_ret2
    refine ⟨⟨_, _, rfl, HF.out _ ?_⟩, HB2.out⟩
    rw [Bool.eq_iff_iff]; simp; omega
  · have hne : (c != 0) = true := by simp [h0]
    have HF : Hid (SmIs n la SA FA lb SB FB c false) := .inl ⟨h0, HCK.out, rfl⟩
    clear HCK HRA HRB
    go_wp2_with fail
    go_ret2
    exact ⟨⟨_, _, rfl, HF.out⟩, HB1.out⟩
end Go.Proofs.YthhnngmfbbljaaaGreat
namespace Go.Proofs.YthhnngmfbbljaaaGreat
set_option maxRecDepth 100000
open Go.Shelf Go.RowKit
def Tryz.sortL_ren : Go.Shelf.Ren := ⟨fun | 6 => 63 | 15 => 88 | 14 => 87 | 28 => 105 | 29 => 106 | 20 => 97 | 21 => 98 | 22 => 99 | 23 => 100 | 24 => 101 | 25 => 102 | 26 => 103 | 27 => 104 | 46 => 109 | 47 => 110 | 48 => 111 | 49 => 112 | 50 => 113 | 57 => 114 | n => n, fun | 22 => 25 | 24 => 22 | 25 => 97 | 3 => 3 | 39 => 119 | 0 => 0 | 53 => 132 | 55 => 134 | 4 => 4 | 46 => 126 | 45 => 125 | 50 => 85 | 5 => 5 | 9 => 9 | 66 => 135 | 70 => 139 | 76 => 141 | 77 => 142 | n => n, fun | n => n⟩
theorem Tryz.sortL : Go.Proofs.SlLaysF.n6 Tryz.prog Tryz.sortL_ren := {
  mixed := by kernel_rfl
  f6 := ⟨Tryz.f63.name, by decide, Tryz.func63.trans (congrArg some (by kernel_rfl))⟩
  f14 := ⟨Tryz.f87.name, by decide, Tryz.func87.trans (congrArg some (by kernel_rfl))⟩
  f15 := Tryz.func88.trans (congrArg some (by kernel_rfl))
  f20 := ⟨Tryz.f97.name, by decide, Tryz.func97.trans (congrArg some (by kernel_rfl))⟩
  f21 := ⟨Tryz.f98.name, by decide, Tryz.func98.trans (congrArg some (by kernel_rfl))⟩
  f22 := ⟨Tryz.f99.name, by decide, Tryz.func99.trans (congrArg some (by kernel_rfl))⟩
  f23 := ⟨Tryz.f100.name, by decide, Tryz.func100.trans (congrArg some (by kernel_rfl))⟩
  f24 := ⟨Tryz.f101.name, by decide, Tryz.func101.trans (congrArg some (by kernel_rfl))⟩
  f25 := ⟨Tryz.f102.name, by decide, Tryz.func102.trans (congrArg some (by kernel_rfl))⟩
  f26 := ⟨Tryz.f103.name, by decide, Tryz.func103.trans (congrArg some (by kernel_rfl))⟩
  f27 := ⟨Tryz.f104.name, by decide, Tryz.func104.trans (congrArg some (by kernel_rfl))⟩
  f28 := Tryz.func105.trans (congrArg some (by kernel_rfl))
  f29 := Tryz.func106.trans (congrArg some (by kernel_rfl))
  f46 := ⟨Tryz.f109.name, by decide, Tryz.func109.trans (congrArg some (by kernel_rfl))⟩
  f47 := Tryz.func110.trans (congrArg some (by kernel_rfl))
  f48 := Tryz.func111.trans (congrArg some (by kernel_rfl))
  f49 := ⟨Tryz.f112.name, by decide, Tryz.func112.trans (congrArg some (by kernel_rfl))⟩
  f50 := ⟨Tryz.f113.name, by decide, Tryz.func113.trans (congrArg some (by kernel_rfl))⟩
  f57 := ⟨Tryz.f114.name, by decide, Tryz.func114.trans (congrArg some (by kernel_rfl))⟩
  t0 := Tryz.underlying0
  a0 := Tryz.isAgg0
  z0 := Tryz.sizeOf0
  v0 := Tryz.zeroValue0
  t3 := Tryz.underlying3
  a3 := Tryz.isAgg3
  z3 := Tryz.sizeOf3
  v3 := Tryz.zeroValue3
  t4 := Tryz.underlying4
  a4 := Tryz.isAgg4
  z4 := Tryz.sizeOf4
  v4 := Tryz.zeroValue4
  t5 := Tryz.underlying5
  a5 := Tryz.isAgg5
  z5 := Tryz.sizeOf5
  v5 := Tryz.zeroValue5
  t9 := Tryz.underlying9
  a9 := Tryz.isAgg9
  z9 := Tryz.sizeOf9
  v9 := Tryz.zeroValue9
  t22 := Tryz.underlying25
  a22 := Tryz.isAgg25
  z22 := Tryz.sizeOf25
  v22 := Tryz.zeroValue25
  a24 := Tryz.isAgg22
  z24 := Tryz.sizeOf22
  t25 := Tryz.underlying97
  a25 := Tryz.isAgg97
  z25 := Tryz.sizeOf97
  v25 := Tryz.zeroValue97
  t39 := Tryz.underlying119
  a39 := Tryz.isAgg119
  z39 := Tryz.sizeOf119
  v39 := Tryz.zeroValue119
  t45 := Tryz.underlying125
  a45 := Tryz.isAgg125
  z45 := Tryz.sizeOf125
  v45 := Tryz.zeroValue125
  t46 := Tryz.underlying126
  a46 := Tryz.isAgg126
  z46 := Tryz.sizeOf126
  v46 := Tryz.zeroValue126
  t50 := Tryz.underlying85
  a50 := Tryz.isAgg85
  z50 := Tryz.sizeOf85
  v50 := Tryz.zeroValue85
  t53 := Tryz.underlying132
  a53 := Tryz.isAgg132
  z53 := Tryz.sizeOf132
  v53 := Tryz.zeroValue132
  t55 := Tryz.underlying134
  a55 := Tryz.isAgg134
  z55 := Tryz.sizeOf134
  v55 := Tryz.zeroValue134
  t66 := Tryz.underlying135
  a66 := Tryz.isAgg135
  z66 := Tryz.sizeOf135
  v66 := Tryz.zeroValue135
  t70 := Tryz.underlying139
  a70 := Tryz.isAgg139
  z70 := Tryz.sizeOf139
  v70 := Tryz.zeroValue139
  t76 := Tryz.underlying141
  a76 := Tryz.isAgg141
  z76 := Tryz.sizeOf141
  v76 := Tryz.zeroValue141
  t77 := Tryz.underlying142
  a77 := Tryz.isAgg142
  z77 := Tryz.sizeOf142
  v77 := Tryz.zeroValue142 }
end Go.Proofs.YthhnngmfbbljaaaGreat
