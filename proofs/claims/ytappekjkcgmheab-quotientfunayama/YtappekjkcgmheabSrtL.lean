/-
  What quotient.Simple answers, whatever it is handed. No condition but that slices read as slices of rows.
  That the library's SortFunc lies in this program as the shelf knows it. No condition.
-/
import Derived.Test.YtappekjkcgmheabOfpP
import Derived.Shelf.SlLaysF
import Derived.Ground.SlsfProg
import Derived.Test.YtappekjkcgmheabCmpP
namespace Go.Proofs.Ytappekjkcgmheab
open Go.RowKit
set_option maxRecDepth 100000

/-- What Simple must answer: the error and the truth. -/
def SmIs (n : Int) (la : Nat) (SA : Nat → Option Addr × Nat × Nat) (FA : Nat → Nat → Int) (lb : Nat) (SB : Nat → Option Addr × Nat × Nat) (FB : Nat → Nat → Int) (c : Int) (t : Bool) : Prop :=
  (c ≠ 0 ∧ LCk n la SA FA lb SB FB c ∧ t = false) ∨ (c = 0 ∧ LCk n la SA FA lb SB FB 0 ∧ ∃ k G, OP n.toNat (nat2 FA) (nat2 FB) n.toNat 0 k G ∧ t = (k == 1))

set_option maxHeartbeats 4000000 in
theorem simple_any (n : Int) (a : Option Addr) (la ca : Nat) (SA : Nat → Option Addr × Nat × Nat) (FA : Nat → Nat → Int) (b : Option Addr) (lb cb : Nat) (SB : Nat → Option Addr × Nat × Nat) (FB : Nat → Nat → Int) (w : World) (hla : la ≤ maxLen) (hlb : lb ≤ maxLen) (hra : RR w a la SA FA) (hrb : RR w b lb SB FB) :
    Calls Try.prog 12 #[.agg #[.int .i64 n, .slice a la ca, .slice b lb cb]] w fun e w' => (∃ c t, e = .returned (.tuple #[.bool t, .int .i64 c]) ∧ SmIs n la SA FA lb SB FB c t) ∧ Below w.heap.size w w' := by
  have hb0 : Below w.heap.size w (w.alloc (.cells #[.int .i64 n, .slice a la ca, .slice b lb cb] 24)) := (Below.refl _ _).alloc (Nat.le_refl _) _
  have HC := (show Hid _ from lCheck_any n a la ca SA FA b lb cb SB FB _ hla hlb (hra.below hb0) (hrb.below hb0))
  have HB0 : Hid (Below w.heap.size w (w.alloc (.cells #[.int .i64 n, .slice a la ca, .slice b lb cb] 24))) := hb0
  have HK0 : Hid (LB (w.alloc (.cells #[.int .i64 n, .slice a la ca, .slice b lb cb] 24)) w.heap.size n a la ca b lb cb) := LB.new _ _ _ _ _ _ _ _
  have HRA : Hid (RR w a la SA FA) := hra
  have HRB : Hid (RR w b lb SB FB) := hrb
  clear hra hrb hb0
  go_enter Try.func12, Try.ntmps12
  go_wp2_with fail
  refine Calls.mono HC.out ?_
  rintro e w1 ⟨⟨c, rfl, hc⟩, hb1⟩
  have HK1 : Hid (LB w1 w.heap.size n a la ca b lb cb) := HK0.out.step hb1
  have HB1 : Hid (Below w.heap.size w w1) := Below.then HB0.out hb1
  have HCK : Hid (LCk n la SA FA lb SB FB c) := hc
  clear hc hb1 HC HB0 HK0
  by_cases h0 : c = 0
  · subst h0
    obtain ⟨q, rfl, h1, h40, rfl, rfl, hsa, hsb, hga, hgb, _⟩ := HCK.out.good
    obtain ⟨bA, oA, rfl, hta, hia⟩ := HRA.out.tb h1 hsa hga
    obtain ⟨bB, oB, rfl, htb, hib⟩ := HRB.out.tb h1 hsb hgb
    have k0 := HK1.out.1
    have k1 := HK1.out.2.1
    have k2 := HK1.out.2.2
    have HQ := (show Hid _ from ofPairs_any _ bA oA ca bB oB cb _ _ (nat2 FA) (nat2 FB) w1 h1 h40 hia hib (Tb.step hta HB1.out) (Tb.step htb HB1.out))
    clear hsa hsb hga hgb hta htb hia hib HRA HRB
    go_wp2_with fail
    refine Calls.mono HQ.out ?_
    rintro e w2 ⟨⟨v, r, k, G, rfl, hcr, hop⟩, hb2⟩
    obtain ⟨av, cv, rfl⟩ := slice_of hcr.own
    have HB2 : Hid (Below w.heap.size w w2) := Below.then HB1.out hb2
    have HF : Hid (∀ t, t = (k == 1) → SmIs (lb : Int) lb SA FA lb SB FB 0 t) := fun t ht => .inr ⟨rfl, HCK.out, k, G, hop, ht⟩
    clear hcr hop hb2 HQ k0 k1 k2
    go_wp2_with fail
    go_ret2
    refine ⟨⟨_, _, rfl, HF.out _ ?_⟩, HB2.out⟩
    rw [Bool.eq_iff_iff]; simp; omega
  · have hne : (c != 0) = true := by simp [h0]
    have HF : Hid (SmIs n la SA FA lb SB FB c false) := .inl ⟨h0, HCK.out, rfl⟩
    clear HCK HRA HRB
    go_wp2_with fail
    go_ret2
    exact ⟨⟨_, _, rfl, HF.out⟩, HB1.out⟩
end Go.Proofs.Ytappekjkcgmheab
namespace Go.Proofs.Ytappekjkcgmheab
open Go.Shelf Go.RowKit
def Try.sortL_ren : Go.Shelf.Ren := ⟨fun | 6 => 20 | 15 => 37 | 14 => 36 | 28 => 50 | 29 => 51 | 20 => 42 | 21 => 43 | 22 => 44 | 23 => 45 | 24 => 46 | 25 => 47 | 26 => 48 | 27 => 49 | 46 => 53 | 47 => 54 | 48 => 55 | 49 => 56 | 50 => 57 | 57 => 58 | n => n, fun | 22 => 22 | 24 => 31 | 25 => 52 | 3 => 3 | 39 => 74 | 0 => 0 | 53 => 85 | 55 => 87 | 4 => 4 | 46 => 79 | 45 => 78 | 50 => 65 | 5 => 5 | 9 => 9 | 66 => 89 | 70 => 93 | 76 => 95 | 77 => 96 | n => n, fun | n => n⟩
theorem Try.sortL : Go.Proofs.SlLaysF.n6 Try.prog Try.sortL_ren := {
  mixed := by kernel_rfl
  f6 := ⟨Try.f20.name, by decide, Try.func20.trans (congrArg some (by kernel_rfl))⟩
  f14 := ⟨Try.f36.name, by decide, Try.func36.trans (congrArg some (by kernel_rfl))⟩
  f15 := Try.func37.trans (congrArg some (by kernel_rfl))
  f20 := ⟨Try.f42.name, by decide, Try.func42.trans (congrArg some (by kernel_rfl))⟩
  f21 := ⟨Try.f43.name, by decide, Try.func43.trans (congrArg some (by kernel_rfl))⟩
  f22 := ⟨Try.f44.name, by decide, Try.func44.trans (congrArg some (by kernel_rfl))⟩
  f23 := ⟨Try.f45.name, by decide, Try.func45.trans (congrArg some (by kernel_rfl))⟩
  f24 := ⟨Try.f46.name, by decide, Try.func46.trans (congrArg some (by kernel_rfl))⟩
  f25 := ⟨Try.f47.name, by decide, Try.func47.trans (congrArg some (by kernel_rfl))⟩
  f26 := ⟨Try.f48.name, by decide, Try.func48.trans (congrArg some (by kernel_rfl))⟩
  f27 := ⟨Try.f49.name, by decide, Try.func49.trans (congrArg some (by kernel_rfl))⟩
  f28 := Try.func50.trans (congrArg some (by kernel_rfl))
  f29 := Try.func51.trans (congrArg some (by kernel_rfl))
  f46 := ⟨Try.f53.name, by decide, Try.func53.trans (congrArg some (by kernel_rfl))⟩
  f47 := Try.func54.trans (congrArg some (by kernel_rfl))
  f48 := Try.func55.trans (congrArg some (by kernel_rfl))
  f49 := ⟨Try.f56.name, by decide, Try.func56.trans (congrArg some (by kernel_rfl))⟩
  f50 := ⟨Try.f57.name, by decide, Try.func57.trans (congrArg some (by kernel_rfl))⟩
  f57 := ⟨Try.f58.name, by decide, Try.func58.trans (congrArg some (by kernel_rfl))⟩
  t0 := Try.underlying0
  a0 := Try.isAgg0
  z0 := Try.sizeOf0
  v0 := Try.zeroValue0
  t3 := Try.underlying3
  a3 := Try.isAgg3
  z3 := Try.sizeOf3
  v3 := Try.zeroValue3
  t4 := Try.underlying4
  a4 := Try.isAgg4
  z4 := Try.sizeOf4
  v4 := Try.zeroValue4
  t5 := Try.underlying5
  a5 := Try.isAgg5
  z5 := Try.sizeOf5
  v5 := Try.zeroValue5
  t9 := Try.underlying9
  a9 := Try.isAgg9
  z9 := Try.sizeOf9
  v9 := Try.zeroValue9
  t22 := Try.underlying22
  a22 := Try.isAgg22
  z22 := Try.sizeOf22
  v22 := Try.zeroValue22
  a24 := Try.isAgg31
  z24 := Try.sizeOf31
  t25 := Try.underlying52
  a25 := Try.isAgg52
  z25 := Try.sizeOf52
  v25 := Try.zeroValue52
  t39 := Try.underlying74
  a39 := Try.isAgg74
  z39 := Try.sizeOf74
  v39 := Try.zeroValue74
  t45 := Try.underlying78
  a45 := Try.isAgg78
  z45 := Try.sizeOf78
  v45 := Try.zeroValue78
  t46 := Try.underlying79
  a46 := Try.isAgg79
  z46 := Try.sizeOf79
  v46 := Try.zeroValue79
  t50 := Try.underlying65
  a50 := Try.isAgg65
  z50 := Try.sizeOf65
  v50 := Try.zeroValue65
  t53 := Try.underlying85
  a53 := Try.isAgg85
  z53 := Try.sizeOf85
  v53 := Try.zeroValue85
  t55 := Try.underlying87
  a55 := Try.isAgg87
  z55 := Try.sizeOf87
  v55 := Try.zeroValue87
  t66 := Try.underlying89
  a66 := Try.isAgg89
  z66 := Try.sizeOf89
  v66 := Try.zeroValue89
  t70 := Try.underlying93
  a70 := Try.isAgg93
  z70 := Try.sizeOf93
  v70 := Try.zeroValue93
  t76 := Try.underlying95
  a76 := Try.isAgg95
  z76 := Try.sizeOf95
  v76 := Try.zeroValue95
  t77 := Try.underlying96
  a77 := Try.isAgg96
  z77 := Try.sizeOf96
  v77 := Try.zeroValue96 }
end Go.Proofs.Ytappekjkcgmheab
