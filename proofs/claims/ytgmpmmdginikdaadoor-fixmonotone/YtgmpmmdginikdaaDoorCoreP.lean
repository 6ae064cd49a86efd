/-
  What fix.Core answers. No condition but that a slice reads as a slice of numbers and the library's table lies in its variable.
-/
import Derived.ScopeJumps
import Derived.WalkMore
import Derived.Test.YtgmpmmdginikdaaDoorNear
import Derived.Test.YtgmpmmdginikdaaDoorCnt
namespace Go.Proofs.YtgmpmmdginikdaaDoor
open Go.RowKit

/-- The least of the first k of which it is so. -/
def findB (P : Nat → Bool) : Nat → Option Nat
  | 0 => none
  | k + 1 => match findB P k with
    | some p => some p
    | none => if P k = true then some k else none
theorem findB_none {P : Nat → Bool} : ∀ {k : Nat}, (∀ p, p < k → P p = false) → findB P k = none
  | 0, _ => rfl
  | k + 1, h => by rw [findB, findB_none fun p hp => h p (by omega)]; simp [h k (by omega)]
theorem findB_some {P : Nat → Bool} {p : Nat} : ∀ {k : Nat}, p < k → P p = true → (∀ i, i < p → P i = false) → findB P k = some p
  | 0, h, _, _ => absurd h (Nat.not_lt_zero _)
  | k + 1, h, hp, hn => by
    by_cases e : p = k
    · subst e; rw [findB, findB_none hn]; simp [hp]
    · rw [findB, findB_some (by omega) hp hn]
/-- May p go? -/
def goB (g h : Nat → Nat) (left p : Nat) : Bool := left.testBit p && mayB g h left p
/-- What is left at last. -/
def core (g h : Nat → Nat) (n : Nat) : Nat → Nat → Nat
  | 0, left => left
  | k + 1, left => match findB (goB g h left) n with
    | some p => core g h n k (lack left (pw p))
    | none => left
theorem core_stop {g h : Nat → Nat} {n fuel left : Nat} (hf : findB (goB g h left) n = none) (_ : left ≤ fuel) : core g h n fuel left = left := by
  cases fuel with
  | zero => rfl
  | succ k => rw [core, hf]
theorem core_next {g h : Nat → Nat} {n fuel left p : Nat} (hf : findB (goB g h left) n = some p) (hl : left ≤ fuel) (h0 : 0 < left) : core g h n fuel left = core g h n (fuel - 1) (lack left (pw p)) := by
  obtain ⟨k, rfl⟩ : ∃ k, fuel = k + 1 := ⟨fuel - 1, by omega⟩
  rw [core, hf]; rfl
theorem lack_less {left p : Nat} (hb : left.testBit p = true) (hl : left < 1024) : lack left (pw p) < left := by
  have h1 := lack_le left (pw p)
  rcases Nat.lt_or_eq_of_le h1 with h | h
  · exact h
  · have hp : p < 10 := bit_of_lt (n := 10) hl hb
    have hq : pw p < 1024 := Nat.pow_lt_pow_right (by decide) hp
    have := lack_bit left (pw p) p (by omega) (by omega)
    rw [h, hb] at this
    simp [pw] at this
theorem has_as' (s p : Nat) (w : World) (v : Bool) (hv : s.testBit p = v) (hs : s < 9223372036854775808) (hp : p < 63) :
    Calls Tryd.prog 43 #[.int .i64 s, .int .i64 p] w fun e w' => e = .returned (.bool v) ∧ w = w' := by
  rw [← hv]; exact has_any s p w hs hp

/-- What lies there when the search begins. -/
structure CoreS (w W : World) (X : OA) (n0 : Int) (a : Option Addr) (la ca : Nat) (F : Nat → Int) (n D : Nat) (d : Option Addr) (cd : Nat) : Prop where
  en : n0 = (n : Nat)
  el : n = la
  ck : X.Ck 0
  n10 : n ≤ 10
  gg : ∀ k, k < n → nat F k < pw n
  b1 : OB W w.heap.size (n : Nat) a n ca
  b2 : OB W D (n : Nat) d n cd
  r1 : Row W a n (fun k => (nat F k : Nat))
  r2 : Row W d n (fun k => (trn (nat F) n k : Nat))
  tb : Tab W
  bl : Below w.heap.size w W
def CorePost (o : OA) (e : Ending) : Prop := ∃ c v, o.Ck c ∧ e = .returned (.tuple #[.int .i64 v, .int .i64 c]) ∧ ((c ≠ 0 ∧ v = 0) ∨ (c = 0 ∧ v = (core o.g (trn o.g o.q) o.q (pw o.q - 1) (pw o.q - 1) : Nat)))

set_option maxRecDepth 100000 in
set_option maxHeartbeats 8000000 in
theorem core_any (o : OA) (w : World) (ho : o.In w) (hT : Tab w) : Calls Tryd.prog 22 #[o.v] w fun e w' => CorePost o e ∧ Below w.heap.size w w' := by
  obtain ⟨X, hX⟩ : ∃ X, X = o := ⟨_, rfl⟩
  have HE : Hid (X = o) := hX
  have HV : Hid (X.v = o.v) := congrArg OA.v hX
  rw [← hX, HV.out]
  rw [← hX] at ho
  clear hX HV
  obtain ⟨n0, a, la, ca, F⟩ := o
  simp only [OA.v] at *
  obtain ⟨W0, HWE⟩ : ∃ W0, Hid (W0 = w.alloc (.cells #[.int .i64 n0, .slice a la ca] 24)) := ⟨_, rfl⟩
  have hW0 : Below w.heap.size w W0 := by rw [HWE.out]; exact (Below.refl _ _).alloc (Nat.le_refl _) _
  have x0 : OB W0 w.heap.size n0 a la ca := by rw [HWE.out]; exact OB.new _ _ _ _ _
  have HB0 : Hid (Below w.heap.size w W0) := hW0
  have HI : Hid (X.In W0) := ho.step hW0
  have HT0 : Hid (Tab W0) := hT.step hW0
  have HDU : Hid (∀ wx, X.In wx → Calls Tryd.prog 41 #[.agg #[.int .i64 n0, .slice a la ca]] wx fun e w' => DualPost n0 la F e w' ∧ Below wx.heap.size wx w') := fun wx hx => by
    rw [HE.out] at hx
    exact dual_any n0 a la ca F wx hx.1 hx.2
  clear ho hT hW0
  go_enter Tryd.func22, Tryd.ntmps22
  go_wp2_with fail
  refine wp_scope_jumps 0 (fun a' w' => ∃ (n D : Nat) (d : Option Addr) (cd : Nat) (W : World) (left fuel : Nat), CoreS w W X n0 a la ca F n D d cd ∧ Below W.heap.size W w' ∧ left < 1024 ∧ left ≤ fuel ∧ core (nat F) (trn (nat F) n) n fuel left = core (nat F) (trn (nat F) n) n (pw n - 1) (pw n - 1) ∧
    ∃ u7 u8 u9 u10 u11 u12 u13 u14 u15 u16 u17 u18 u19 u20 u21 u22 u23 u24 u25 u26 u27 u28 u29 u30 u31 u32 u33 u34 u35 u36 u37 u38 u39 : Value, a' = { tmps := #[.agg #[.int .i64 n0, .slice a la ca], .pointer (some ⟨w.heap.size, 0, none⟩), .int .i64 0, .int .i64 0, .pointer (some ⟨D, 0, none⟩), .int .i64 0, .int .i64 (left : Nat), u7, u8, u9, u10, u11, u12, u13, u14, u15, u16, u17, u18, u19, u20, u21, u22, u23, u24, u25, u26, u27, u28, u29, u30, u31, u32, u33, u34, u35, u36, u37, u38, u39], defers := [] }) (fun a' _ => (intOf (a'.tmps.getD 6 undef)).toNat) rfl ?_ ?_
  · go_wp2_with fail
    rw [← HWE.out]
    refine (Calls.mono (HDU.out _ HI.out)) ?_
    rintro e w1 ⟨⟨c, x, hc, rfl, hx⟩, hb1⟩
    have HB1 : Hid (Below w.heap.size w w1) := Below.then HB0.out hb1
    have x1 := x0.step hb1
    have HT1 : Hid (Tab w1) := HT0.out.step hb1
    have HI1 : Hid (X.In w1) := HI.out.step hb1
    by_cases h0 : c = 0
    · subst h0
      obtain ⟨en, h10, hrg, hord⟩ := Chk.good hc
      rcases hx with ⟨h, _⟩ | ⟨_, d, cd, rfl, hrd⟩
      · exact absurd rfl h
      obtain ⟨n, hn⟩ : ∃ n, n = la := ⟨_, rfl⟩
      rw [← hn] at en h10 hrg hord hrd
      subst hn
      subst en
      have hxi := HI1.out
      rw [HE.out] at hxi
      obtain ⟨W, HW1⟩ : ∃ W, Hid (W = w1.alloc (.cells #[.int .i64 (n : Nat), .slice d n cd] 24)) := ⟨_, rfl⟩
      have hbW : Below w1.heap.size w1 W := by rw [HW1.out]; exact (Below.refl _ _).alloc (Nat.le_refl _) _
      have S : CoreS w W X (n : Nat) a n ca F n w1.heap.size d cd := ⟨rfl, rfl, by rw [HE.out]; exact hc, h10, hrg.small, x1.step hbW, by rw [HW1.out]; exact OB.new _ _ _ _ _, (hrg.row hxi.2).below hbW, hrd.below hbW, HT1.out.step hbW, Below.then HB1.out hbW⟩
      have HSS : Hid (CoreS w W X (n : Nat) a n ca F n w1.heap.size d cd) := S
      have HC : Hid (∀ wx, Below W.heap.size W wx → OB wx w.heap.size (n : Nat) a n ca ∧ OB wx w1.heap.size (n : Nat) d n cd) := fun wx hx => ⟨S.b1.step hx, S.b2.step hx⟩
      obtain ⟨g, HG⟩ : ∃ g, Hid (g = nat F) := ⟨_, rfl⟩
      obtain ⟨h, HH⟩ : ∃ h, Hid (h = trn g n) := ⟨_, rfl⟩
      have HM : Hid (∀ wx lf p, Below W.heap.size W wx → p < n → lf < 1024 → Calls Tryd.prog 44 #[.agg #[.int .i64 (n : Nat), .slice a n ca], .agg #[.int .i64 (n : Nat), .slice d n cd], .int .i64 (lf : Nat), .int .i64 (p : Nat)] wx fun e w' => e = .returned (.bool (mayB g h lf p)) ∧ Below wx.heap.size wx w') := fun wx lf p hx hp hlf => by
        rw [HH.out, HG.out]
        exact mayGo_any n a d ca cd (nat F) (trn (nat F) n) lf p wx S.n10 S.gg (fun k _ => trn_small _ _ _ _ (Nat.le_refl _)) (S.r1.below hx) (S.r2.below hx) hp hlf (S.tb.step hx)
      have HB : Hid (Below w.heap.size w W) := S.bl
      have HCK : Hid (X.Ck 0) := S.ck
      have hn10 := S.n10
      have hpw := pw_le n h10
      have hpp := pw_pos n
      obtain ⟨left, HLF⟩ : ∃ left, Hid (left = pw n - 1) := ⟨_, rfl⟩
      have hleft : left < 1024 := by rw [HLF.out]; omega
      have hlv : ((pw n : Nat) : Int) - 1 = (left : Nat) := by rw [HLF.out]; omega
      obtain ⟨fuel, HFE⟩ : ∃ fuel, Hid (fuel = left) := ⟨_, rfl⟩
      have HFU : Hid (left ≤ fuel) := Nat.le_of_eq HFE.out.symm
      have HCR : Hid (core g h n fuel left = core g h n (pw n - 1) (pw n - 1)) := by
        have e1 := HLF.out
        have e2 := HFE.out
        subst e2
        subst e1
        exact rfl
      have HOUT : Hid (core X.g (trn X.g X.q) X.q (pw X.q - 1) (pw X.q - 1) = core g h n (pw n - 1) (pw n - 1)) := by rw [HE.out, HH.out, HG.out]; exact rfl
      have HST : Hid (Below W.heap.size W W) := Below.refl _ _
      have HLV : Hid (((pw n : Nat) : Int) - 1 = (left : Nat)) := hlv
      have hy := S.b1
      rw [HW1.out] at hy
      obtain ⟨y0, y1⟩ := hy
      clear S hbW hxi hc hrg hord hrd x1 x0 hb1 hlv
      go_wp2_with (go_at_call 42; refine (all_any n _ (by omega)).mono ?_; rintro e w' ⟨rfl, hww⟩; subst hww)
      clear y0 y1
      rw [HLV.out, ← HW1.out]
      go_step3
      obtain ⟨⟨c0, c1⟩, d0, d1⟩ := HC.out _ HST.out
      go_wp2_with fail
      clear c0 c1 d0 d1
      go_loopw [6, 21] (fun l i wx => ∃ k : Nat, k ≤ n ∧ i = .int .i64 k ∧ l = .int .i64 (left : Nat) ∧ Hid (Below W.heap.size W wx) ∧ Hid (∀ p, p < k → goB g h left p = false)) (fun _ i _ => n - (intOf i).toNat)
      case atStart => exact ⟨0, Nat.zero_le _, rfl, rfl, HST, fun p hp => absurd hp (Nat.not_lt_zero _)⟩
      case round =>
        obtain ⟨k, hk, rfl, rfl, HW, HN⟩ := hrel
        by_cases hlt : k < n
        · obtain ⟨⟨c0, c1⟩, d0, d1⟩ := HC.out _ HW.out
          obtain ⟨vb, hvb⟩ : ∃ v, left.testBit k = v := ⟨_, rfl⟩
          rcases vb with _ | _
          · have HN2 : Hid (∀ p, p < k + 1 → goB g h left p = false) := upto_succ HN.out (by simp [goB, hvb])
            go_wp2_with (go_at_call 43; refine (has_as' left k _ _ hvb (by omega) (by omega)).mono ?_; rintro e w' ⟨rfl, hww⟩; subst hww)
            go_roundw
            case rel => exact ⟨k + 1, by omega, by go_num, rfl, HW, HN2⟩
            case measure => simp [intOf]; omega
          · have HMG := HM.out _ left k HW.out hlt hleft
            rcases hmay : mayB g h left k with _ | _
            · have HN2 : Hid (∀ p, p < k + 1 → goB g h left p = false) := upto_succ HN.out (by simp [goB, hvb, hmay])
              rw [hmay] at HMG
              have HMC := (show Hid (Calls _ _ _ _ _) from HMG)
              clear HMG hmay
              go_wp2_with (go_at_call 43; refine (has_as' left k _ _ hvb (by omega) (by omega)).mono ?_; rintro e w' ⟨rfl, hww⟩; subst hww)
              refine (Calls.mono HMC.out) ?_
              rintro e w2 ⟨rfl, hb2⟩
              have HW2 : Hid (Below W.heap.size W w2) := Below.then HW.out hb2
              clear hb2 HW HMC c0 c1 d0 d1
              go_wp2_with fail
              go_roundw
              case rel => exact ⟨k + 1, by omega, by go_num, rfl, HW2, HN2⟩
              case measure => simp [intOf]; omega
            · have HF : Hid (findB (goB g h left) n = some k) := findB_some hlt (by simp [goB, hvb, hmay]) HN.out
              rw [hmay] at HMG
              have HMC := (show Hid (Calls _ _ _ _ _) from HMG)
              have hpk := pw_le k (by omega)
              have han := i64_andNot left (pw k) (by omega) (by omega)
              have hsh := wrap_pow k (by omega)
              have HLT : Hid (lack left (pw k) < left) := lack_less hvb (by omega)
              clear HMG hmay
              go_wp2_with (go_at_call 43; refine (has_as' left k _ _ hvb (by omega) (by omega)).mono ?_; rintro e w' ⟨rfl, hww⟩; subst hww)
              refine (Calls.mono HMC.out) ?_
              rintro e w2 ⟨rfl, hb2⟩
              have HW2 : Hid (Below W.heap.size W w2) := Below.then HW.out hb2
              clear hb2 HW HMC c0 c1 d0 d1 HN hvb
              go_wp2_with fail
              go_step3
              refine ⟨rfl, ⟨n, w1.heap.size, d, cd, W, lack left (pw k), fuel - 1, HSS.out, HW2.out, Nat.lt_trans HLT.out hleft, by have := HLT.out; have := HFU.out; omega, ?_, _, _, _, _, _, _, _, _, _, _, _, _, _, _, _, _, _, _, _, _, _, _, _, _, _, _, _, _, _, _, _, _, _, rfl⟩⟩
              have := (core_next HF.out HFU.out (Nat.lt_of_le_of_lt (Nat.zero_le _) HLT.out)).symm.trans HCR.out
              rw [HH.out, HG.out] at this
              exact this

        · obtain rfl : k = n := by omega
          have HF : Hid (findB (goB g h left) k = none) := findB_none HN.out
          have HRS : Hid (left = core g h k (pw k - 1) (pw k - 1)) := (core_stop HF.out HFU.out).symm.trans HCR.out
          have HBF : Hid (Below w.heap.size w wr) := Below.then HB.out HW.out
          clear HN HF
          go_wp2_with fail
          simp only [Exit.jump]
          go_ret2
          exact ⟨⟨0, _, HCK.out, rfl, .inr ⟨rfl, congrArg (fun z : Nat => (z : Int)) (HRS.out.trans HOUT.out.symm)⟩⟩, HBF.out⟩
    · have hne : (c != 0) = true := by simpa using h0
      have HCK : Hid (X.Ck c) := by rw [HE.out]; exact hc
      rcases hx with ⟨_, rfl⟩ | ⟨h, _⟩
      · unfold noOrder
        clear hc
        go_wp2_with fail
        simp only [Exit.jump]
        go_ret2
        exact ⟨⟨c, 0, HCK.out, rfl, .inl ⟨h0, rfl⟩⟩, Below.alloc HB1.out (by have := HB1.out.size; omega) _⟩
      · exact absurd h h0
  · rintro a' w' ⟨n, D, d, cd, W, left, fuel, S, hbw, hleft, hfu, hcr, u7, u8, u9, u10, u11, u12, u13, u14, u15, u16, u17, u18, u19, u20, u21, u22, u23, u24, u25, u26, u27, u28, u29, u30, u31, u32, u33, u34, u35, u36, u37, u38, u39, rfl⟩
    have HBW : Hid (Below W.heap.size W w') := hbw
    have HSS : Hid (CoreS w W X n0 a la ca F n D d cd) := S
    have en := S.en
    have el := S.el
    subst en
    subst el
    have HC : Hid (∀ wx, Below W.heap.size W wx → OB wx w.heap.size (n : Nat) a n ca ∧ OB wx D (n : Nat) d n cd) := fun wx hx => ⟨S.b1.step hx, S.b2.step hx⟩
    obtain ⟨g, HG⟩ : ∃ g, Hid (g = nat F) := ⟨_, rfl⟩
    obtain ⟨h, HH⟩ : ∃ h, Hid (h = trn g n) := ⟨_, rfl⟩
    have HM : Hid (∀ wx lf p, Below W.heap.size W wx → p < n → lf < 1024 → Calls Tryd.prog 44 #[.agg #[.int .i64 (n : Nat), .slice a n ca], .agg #[.int .i64 (n : Nat), .slice d n cd], .int .i64 (lf : Nat), .int .i64 (p : Nat)] wx fun e w' => e = .returned (.bool (mayB g h lf p)) ∧ Below wx.heap.size wx w') := fun wx lf p hx hp hlf => by
      rw [HH.out, HG.out]
      exact mayGo_any n a d ca cd (nat F) (trn (nat F) n) lf p wx S.n10 S.gg (fun k _ => trn_small _ _ _ _ (Nat.le_refl _)) (S.r1.below hx) (S.r2.below hx) hp hlf (S.tb.step hx)
    have HB : Hid (Below w.heap.size w W) := S.bl
    have HCK : Hid (X.Ck 0) := S.ck
    have hn10 := S.n10
    have HOUT : Hid (core X.g (trn X.g X.q) X.q (pw X.q - 1) (pw X.q - 1) = core g h n (pw n - 1) (pw n - 1)) := by rw [HE.out, HH.out, HG.out]; exact rfl
    have HFU : Hid (left ≤ fuel) := hfu
    have HCR : Hid (core g h n fuel left = core g h n (pw n - 1) (pw n - 1)) := by rw [HH.out, HG.out]; exact hcr
    clear S hbw hfu hcr
    obtain ⟨⟨c0, c1⟩, d0, d1⟩ := HC.out _ HBW.out
    go_wp2_with fail
    clear c0 c1 d0 d1
    go_loopw [6, 21] (fun l i wx => ∃ k : Nat, k ≤ n ∧ i = .int .i64 k ∧ l = .int .i64 (left : Nat) ∧ Hid (Below W.heap.size W wx) ∧ Hid (∀ p, p < k → goB g h left p = false)) (fun _ i _ => n - (intOf i).toNat)
    case atStart => exact ⟨0, Nat.zero_le _, rfl, rfl, HBW, fun p hp => absurd hp (Nat.not_lt_zero _)⟩
    case round =>
      obtain ⟨k, hk, rfl, rfl, HW, HN⟩ := hrel
      by_cases hlt : k < n
      · obtain ⟨⟨c0, c1⟩, d0, d1⟩ := HC.out _ HW.out
        obtain ⟨vb, hvb⟩ : ∃ v, left.testBit k = v := ⟨_, rfl⟩
        rcases vb with _ | _
        · have HN2 : Hid (∀ p, p < k + 1 → goB g h left p = false) := upto_succ HN.out (by simp [goB, hvb])
          go_wp2_with (go_at_call 43; refine (has_as' left k _ _ hvb (by omega) (by omega)).mono ?_; rintro e w' ⟨rfl, hww⟩; subst hww)
          go_roundw
          case rel => exact ⟨k + 1, by omega, by go_num, rfl, HW, HN2⟩
          case measure => simp [intOf]; omega
        · have HMG := HM.out _ left k HW.out hlt hleft
          rcases hmay : mayB g h left k with _ | _
          · have HN2 : Hid (∀ p, p < k + 1 → goB g h left p = false) := upto_succ HN.out (by simp [goB, hvb, hmay])
            rw [hmay] at HMG
            have HMC := (show Hid (Calls _ _ _ _ _) from HMG)
            clear HMG hmay
            go_wp2_with (go_at_call 43; refine (has_as' left k _ _ hvb (by omega) (by omega)).mono ?_; rintro e w' ⟨rfl, hww⟩; subst hww)
            refine (Calls.mono HMC.out) ?_
            rintro e w2 ⟨rfl, hb2⟩
            have HW2 : Hid (Below W.heap.size W w2) := Below.then HW.out hb2
            clear hb2 HW HMC c0 c1 d0 d1
            go_wp2_with fail
            go_roundw
            case rel => exact ⟨k + 1, by omega, by go_num, rfl, HW2, HN2⟩
            case measure => simp [intOf]; omega
          · have HF : Hid (findB (goB g h left) n = some k) := findB_some hlt (by simp [goB, hvb, hmay]) HN.out
            rw [hmay] at HMG
            have HMC := (show Hid (Calls _ _ _ _ _) from HMG)
            have hpk := pw_le k (by omega)
            have han := i64_andNot left (pw k) (by omega) (by omega)
            have hsh := wrap_pow k (by omega)
            have HLT : Hid (lack left (pw k) < left) := lack_less hvb (by omega)
            clear HMG hmay
            go_wp2_with (go_at_call 43; refine (has_as' left k _ _ hvb (by omega) (by omega)).mono ?_; rintro e w' ⟨rfl, hww⟩; subst hww)
            refine (Calls.mono HMC.out) ?_
            rintro e w2 ⟨rfl, hb2⟩
            have HW2 : Hid (Below W.heap.size W w2) := Below.then HW.out hb2
            clear hb2 HW HMC c0 c1 d0 d1 HN hvb
            go_wp2_with fail
            go_step3
            refine ⟨rfl, ⟨n, D, d, cd, W, lack left (pw k), fuel - 1, HSS.out, HW2.out, Nat.lt_trans HLT.out hleft, by have := HLT.out; have := HFU.out; omega, ?_, _, _, _, _, _, _, _, _, _, _, _, _, _, _, _, _, _, _, _, _, _, _, _, _, _, _, _, _, _, _, _, _, _, rfl⟩, ?_⟩
            · have := (core_next HF.out HFU.out (Nat.lt_of_le_of_lt (Nat.zero_le _) HLT.out)).symm.trans HCR.out
              rw [HH.out, HG.out] at this
              exact this
            · simpa [intOf] using HLT.out

      · obtain rfl : k = n := by omega
        have HF : Hid (findB (goB g h left) k = none) := findB_none HN.out
        have HRS : Hid (left = core g h k (pw k - 1) (pw k - 1)) := (core_stop HF.out HFU.out).symm.trans HCR.out
        have HBF : Hid (Below w.heap.size w wr) := Below.then HB.out HW.out
        clear HN HF
        go_wp2_with fail
        simp only [Exit.jump]
        go_ret2
        exact ⟨⟨0, _, HCK.out, rfl, .inr ⟨rfl, congrArg (fun z : Nat => (z : Int)) (HRS.out.trans HOUT.out.symm)⟩⟩, HBF.out⟩

end Go.Proofs.YtgmpmmdginikdaaDoor
