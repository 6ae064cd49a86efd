/-
  What extend.Rank answers. No condition but that slices read as slices of numbers.
-/
import Derived.Test.YtipgojoiakbaiaaNth
import Derived.Test.YtipgojoiakbaiaaRankM
import Derived.Test.YtipgojoiakbaiaaIsPnt
namespace Go.Proofs.Ytipgojoiakbaiaa
open Go.RowKit

set_option maxHeartbeats 1000000 in
theorem hasRow_any (n : Nat) (ac : Option Addr) (cc b : Nat) (u : Nat → Nat) (ar : Option Addr) (lr cr : Nat) (r : Nat → Int) (w : World) (h10 : n ≤ 10) (hu : ∀ k, k < n → u k < 1024) (hl : lr ≤ maxLen) (hn : Row w ac n (fun k => (u k : Nat))) (hr : Row w ar lr r) :
    Calls Try.prog 56 #[.agg #[.slice ac n cc, .slice (some ⟨b, 0, none⟩) (pw n) (pw n)], .slice ar lr cr] w fun e w' => Ans e (IsRw u n lr r) ∧ Below w.heap.size w w' := by
  unfold maxLen at hl
  by_cases hlen : lr = n
  · subst hlen
    have HW : Hid (Below w.heap.size w (w.alloc (.cells #[.slice ac lr cc, .slice (some ⟨b, 0, none⟩) (pw lr) (pw lr)] 73))) := (Below.refl _ _).alloc (Nat.le_refl _) _
    obtain ⟨W0, HW0⟩ : ∃ W0, Hid (W0 = w.alloc (.cells #[.slice ac lr cc, .slice (some ⟨b, 0, none⟩) (pw lr) (pw lr)] 73)) := ⟨_, rfl⟩
    have HR : Hid (Row W0 ar lr r) := by rw [HW0.out]; exact hr.below HW.out
    have HN : Hid (Row W0 ac lr (fun k => (u k : Nat))) := by rw [HW0.out]; exact hn.below HW.out
    have HC0 : Hid (W0.cell? ⟨w.heap.size, 0, none⟩ = some (.slice ac lr cc)) := by rw [HW0.out]; exact (by simp : (w.alloc (.cells #[.slice ac lr cc, .slice (some ⟨b, 0, none⟩) (pw lr) (pw lr)] 73)).cell? ⟨w.heap.size, 0, none⟩ = some (.slice ac lr cc))
    have HC1 : Hid (W0.cell? ⟨w.heap.size, 1, none⟩ = some (.slice (some ⟨b, 0, none⟩) (pw lr) (pw lr))) := by rw [HW0.out]; exact (by simp : (w.alloc (.cells #[.slice ac lr cc, .slice (some ⟨b, 0, none⟩) (pw lr) (pw lr)] 73)).cell? ⟨w.heap.size, 1, none⟩ = some (.slice (some ⟨b, 0, none⟩) (pw lr) (pw lr)))
    have HBW : Hid (Below w.heap.size w W0) := by rw [HW0.out]; exact HW.out
    have HU : Hid (∀ k, k < lr → u k < 1024) := hu
    have hpn := pw_le lr h10
    clear hr hn HW hu
    go_enter Try.func56, Try.ntmps56
    go_wp2_with fail
    rw [← HW0.out]
    clear HW0
    go_loopw [5, 16] (fun z x wx => ∃ k : Nat, k ≤ lr ∧ x = .int .i64 k ∧ z = .int .i64 (sB (nat r) k : Nat) ∧ Hid (RowTo u lr r k) ∧ Hid (Below W0.heap.size W0 wx)) (fun _ x _ => lr - (intOf x).toNat)
    case atStart => exact ⟨0, Nat.zero_le _, rfl, rfl, fun j hj => absurd hj (Nat.not_lt_zero _), Below.refl _ _⟩
    case round =>
      obtain ⟨k, hk, rfl, rfl, hok, hB⟩ := hrel
      by_cases hlt : k < lr
      · obtain ⟨br, or, rfl, hcr⟩ := (HR.out.below hB.out).at hlt
        have hck := hcr k hlt
        have hlt' : (k : Int) < (lr : Int) := by omega
        have c0 := (hB.out.cell (World.block_lt_of_cell? _ _ HC0.out)).trans HC0.out
        have c1 := (hB.out.cell (World.block_lt_of_cell? _ _ HC1.out)).trans HC1.out
        obtain ⟨hSl, _⟩ := RowTo.set k hok.out
        clear hcr
        cases hp : pnt (r k) lr
        · have HNO : Hid (¬ IsRw u lr lr r) := fun h => by
            obtain ⟨g0, g1, _⟩ := h.2 k hlt
            unfold pnt at hp
            simp at hp
            have := hp g0
            omega
          generalize sB (nat r) k = S at *
          go_wp2_with (go_at_call 50; refine (isPoint_as (r k) lr _ false hp).mono ?_; rintro e w' ⟨rfl, rfl⟩)
          go_ret
          exact ⟨Ans.no HNO.out, Below.then HBW.out hB.out⟩
        · obtain ⟨p, hpe, hpl⟩ := pnt_nat hp
          have hnp : nat r k = p := by unfold nat; omega
          have HSE : Hid (sB (nat r) (k + 1) = sB (nat r) k + pw p) := by rw [sB_succ, hnp]; exact rfl
          have HST : Hid (∀ v, may u (sB (nat r) k) p = v → v = true → RowTo u lr r (k + 1)) := fun v h1 h2 j hj => by
            rcases Nat.lt_or_ge j k with h | h
            · exact hok.out j h
            · have : j = k := by omega
              subst this
              exact ⟨by omega, by omega, by rw [hnp, h1, h2]⟩
          have HNO : Hid (may u (sB (nat r) k) p = false → ¬ IsRw u lr lr r) := fun h1 h => by
            obtain ⟨_, _, g2⟩ := h.2 k hlt
            rw [hnp, h1] at g2; cases g2
          have hrow := HN.out.below hB.out
          clear hnp hok
          generalize sB (nat r) k = S at *
          rw [hpe] at hck hp
          clear hpe
          cases hm : may u S p
          · go_wp2_with (go_at_call 50; refine (isPoint_as (p : Nat) lr _ true hp).mono ?_; rintro e w' ⟨rfl, rfl⟩)
            refine (follow_as lr ac cc _ u S p false _ hm HU.out (by omega) hrow hpl h10).mono ?_
            rintro e w1 ⟨rfl, hb1⟩
            have HB1 : Hid (Below W0.heap.size W0 w1) := Below.then hB.out hb1
            clear hb1 hB hrow c0 c1 hck
            go_wp2_with fail
            go_ret
            exact ⟨Ans.no (HNO.out hm), Below.then HBW.out HB1.out⟩
          · have hsb := may_out hm
            have hor : S ||| pw p = S + pw p := or_free hsb
            have ho := i64_or S (pw p) (by omega) (by have := pw_small p (by omega); omega)
            rw [hor] at ho
            have hpw := wrap_pow p (by omega)
            have HSM : Hid (RowTo u lr r (k + 1)) := HST.out true hm rfl
            clear hsb hor
            go_wp2_with (go_at_call 50; refine (isPoint_as (p : Nat) lr _ true hp).mono ?_; rintro e w' ⟨rfl, rfl⟩)
            refine (follow_as lr ac cc _ u S p true _ hm HU.out (by omega) hrow hpl h10).mono ?_
            rintro e w1 ⟨rfl, hb1⟩
            have HB1 : Hid (Below W0.heap.size W0 w1) := Below.then hB.out hb1
            clear hb1 hB hrow c0 c1 hck
            go_wp2_with fail
            go_roundw
            case rel => exact ⟨k + 1, by omega, by go_num, by rw [HSE.out]; go_num, HSM.out, HB1.out⟩
            case measure => simp [intOf]; omega
      · have hkn : k = lr := by omega
        have HY : Hid (IsRw u lr lr r) := ⟨rfl, by rw [← hkn] at hok ⊢; exact hok.out⟩
        clear hok
        generalize sB (nat r) k = S at *
        go_wp2_with fail
        go_ret
        exact ⟨Ans.yes HY.out, Below.then HBW.out hB.out⟩
  · have hne : ((lr : Int) != (n : Int)) = true := by simp; omega
    clear hr hn hu
    go_enter Try.func56, Try.ntmps56
    go_wp2_with fail
    go_ret
    exact ⟨Ans.no (fun h => hlen h.1), (Below.refl _ _).alloc (Nat.le_refl _) _⟩

def RankPost (n : Int) (len : Nat) (f : Nat → Int) (lr : Nat) (r : Nat → Int) (e : Ending) : Prop :=
  ∃ c : Int, Chk n len f c ∧ ((c ≠ 0 ∧ e = .returned (.tuple #[.int .i64 0, .int .i64 c])) ∨
    (c = 0 ∧ ¬ IsRw (nat f) len lr r ∧ e = .returned (.tuple #[.int .i64 0, .int .i64 1])) ∨
    (c = 0 ∧ IsRw (nat f) len lr r ∧ e = .returned (.tuple #[.int .i64 (rk (nat f) len (nat r) len : Nat), .int .i64 0])))

set_option maxHeartbeats 2000000 in
theorem rank_any (n : Int) (a : Option Addr) (len cap : Nat) (f : Nat → Int) (ar : Option Addr) (lr cr : Nat) (r : Nat → Int) (w : World) (hl : len ≤ maxLen) (hlr : lr ≤ maxLen) (hr : Row w a len f) (hrr : Row w ar lr r) :
    Calls Try.prog 35 #[.agg #[.int .i64 n, .slice a len cap], .slice ar lr cr] w fun e w' => RankPost n len f lr r e ∧ Below w.heap.size w w' := by
  have K0 : Held (w.alloc (.cells #[.int .i64 n, .slice a len cap] 24)) w.heap.size n a len cap f := Held.box hr
  have HB0 : Hid (Below w.heap.size w (w.alloc (.cells #[.int .i64 n, .slice a len cap] 24))) := (Below.refl _ _).alloc (Nat.le_refl _) _
  have HR : Hid (Row w ar lr r) := hrr
  clear hr hrr
  go_enter Try.func35, Try.ntmps35
  go_wp2_with fail
  refine (check_any n a len cap f _ hl K0.row).mono ?_
  rintro e w1 ⟨⟨c, rfl, hc⟩, hb⟩
  have K1 := K0.step hb
  have HB1 : Hid (Below w.heap.size w w1) := Below.then HB0.out hb
  clear hb K0 HB0
  by_cases h0 : c = 0
  · subst h0
    obtain ⟨rfl, h10, hrng, hord⟩ := hc.good
    have HC : Hid (Chk (len : Int) len f 0) := hc
    have k0 := K1.c0
    have k1 := K1.c1
    go_wp2_with fail
    refine (layOut_any len a cap (nat f) none 0 0 (fun _ => (0, 0)) _ h10 hrng.small (hrng.row K1.row) (fun k hk => absurd hk (Nat.not_lt_zero _)) (by omega) (fun k hk => absurd hk (Nat.not_lt_zero _))).mono ?_
    rintro e w2 ⟨⟨ac, cc, b, rfl, hrw, htab⟩, hb2⟩
    have HB2 : Hid (Below w.heap.size w w2) := Below.then HB1.out hb2
    have HR2 : Hid (RHeld (w2.alloc (.cells #[.slice ac len cc, .slice (some ⟨b, 0, none⟩) (pw len) (pw len)] 73)) w2.heap.size ac cc b len (nat f)) := RHeld.box hrw htab
    have HU : Hid (∀ k, k < len → nat f k < 1024) := hrng.small2 h10
    clear hb2 HB1 htab hrw K1 k0 k1 hrng hord hc
    have HBA : Hid (Below w.heap.size w (w2.alloc (.cells #[.slice ac len cc, .slice (some ⟨b, 0, none⟩) (pw len) (pw len)] 73))) := HB2.out.alloc HB2.out.size _
    clear HB2
    go_wp2_with fail
    refine (hasRow_any len ac cc b (nat f) ar lr cr r _ h10 HU.out hlr HR2.out.row (HR.out.below HBA.out)).mono ?_
    rintro e w3 ⟨⟨v, rfl, hv⟩, hb3⟩
    have HB3 : Hid (Below w.heap.size w w3) := Below.then HBA.out hb3
    have HR3 : Hid (RHeld w3 w2.heap.size ac cc b len (nat f)) := HR2.out.step hb3
    have HRR : Hid (Row w3 ar lr r) := HR.out.below HB3.out
    clear hb3 HBA HR2 HR
    obtain ⟨u, HUE⟩ : ∃ u, Hid (u = nat f) := ⟨_, rfl⟩
    cases v
    · have HNO : Hid (RankPost len len f lr r (.returned (.tuple #[.int .i64 0, .int .i64 1]))) := ⟨0, HC.out, .inr (.inl ⟨rfl, (fun h => Bool.noConfusion (hv.2 h)), rfl⟩)⟩
      clear hv HR3 HRR
      go_wp2_with fail
      go_ret2
      exact ⟨HNO.out, HB3.out⟩
    · have hY : IsRw (nat f) len lr r := hv.1 rfl
      have HFIN : Hid (∀ v : Nat, v = rk u len (nat r) len → RankPost len len f lr r (.returned (.tuple #[.int .i64 (v : Nat), .int .i64 0]))) := fun v h => by
        rw [HUE.out] at h
        exact ⟨0, HC.out, .inr (.inr ⟨rfl, hY, by rw [h]⟩)⟩
      rw [← HUE.out] at hY HR3 HU
      obtain ⟨rfl, hrt⟩ := hY
      have HRT : Hid (RowTo u lr r lr) := hrt
      have hpn := pw_le lr h10
      clear hv hrt HUE
      go_wp2_with fail
      go_loopw [8, 9, 26] (fun y z x wx => ∃ k : Nat, k ≤ lr ∧ x = .int .i64 k ∧ y = .int .i64 (rk u lr (nat r) k : Nat) ∧ z = .int .i64 (sB (nat r) k : Nat) ∧ Hid (Below w3.heap.size w3 wx)) (fun _ _ x _ => lr - (intOf x).toNat)
      case atStart => exact ⟨0, Nat.zero_le _, rfl, rfl, rfl, Below.refl _ _⟩
      case round =>
        obtain ⟨k, hk, rfl, rfl, rfl, hB⟩ := hrel
        by_cases hlt : k < lr
        · obtain ⟨br, or, rfl, hcr⟩ := (HRR.out.below hB.out).at hlt
          have hck := hcr k hlt
          have hlt' : (k : Int) < (lr : Int) := by omega
          obtain ⟨g0, g1, g2⟩ := HRT.out k hlt
          have hpl : nat r k < lr := nat_lt g0 g1
          have hpe : r k = (nat r k : Nat) := nat_eq g0
          have hSl := (RowTo.set k (HRT.out.less hk)).1
          have HSL : Hid (sB (nat r) k < pw lr) := hSl
          have hRs := rk_small h10 (HRT.out.less hk)
          have HRE : Hid (rk u lr (nat r) (k + 1) = rk u lr (nat r) k + sumTo (goes u lr (sB (nat r) k)) (nat r k)) := rk_succ _ _ _ _
          have HSE : Hid (sB (nat r) (k + 1) = sB (nat r) k + pw (nat r k)) := sB_succ _ _
          have HGL : Hid (∀ i, i < lr → goes u lr (sB (nat r) k) i ≤ 10000000000) := fun i hi => goes_small h10 hSl hi
          have HGS : Hid (∀ i, i ≤ lr → sumTo (goes u lr (sB (nat r) k)) i ≤ 100000000000) := fun i hi => sum_small h10 hSl hi
          have hsb := may_out g2
          have hor : sB (nat r) k ||| pw (nat r k) = sB (nat r) k + pw (nat r k) := or_free hsb
          have hps := pw_small (nat r k) (by omega)
          have ho := i64_or (sB (nat r) k) (pw (nat r k)) (by omega) (by omega)
          rw [hor] at ho
          have hpw := wrap_pow (nat r k) (by omega)
          rw [hpe] at hck
          clear hcr g0 g1 g2 hpe hsb hor hps
          obtain ⟨p, HPQ⟩ : ∃ p, Hid (p = nat r k) := ⟨_, rfl⟩
          rw [← HPQ.out] at hck hpl HRE HSE ho hpw
          obtain ⟨S, HSQ⟩ : ∃ S, Hid (S = sB (nat r) k) := ⟨_, rfl⟩
          rw [← HSQ.out] at hSl HSL HRE HSE HGL HGS ho ⊢
          obtain ⟨R, HRQ⟩ : ∃ R, Hid (R = rk u lr (nat r) k) := ⟨_, rfl⟩
          rw [← HRQ.out] at hRs HRE ⊢
          clear HPQ HSQ HRQ
          go_wp2_with fail
          clear hck
          go_loopw [8, 31] (fun y x wx => ∃ j : Nat, j ≤ p ∧ x = .int .i64 j ∧ y = .int .i64 (R + sumTo (goes u lr S) j : Nat) ∧ Hid (Below w3.heap.size w3 wx)) (fun _ x _ => p - (intOf x).toNat)
          case atStart => exact ⟨0, Nat.zero_le _, rfl, rfl, hB.out⟩
          case round =>
            clear hB
            obtain ⟨j, hj, rfl, rfl, hB⟩ := hrel
            by_cases hjp : j < p
            · have hR := HR3.out.step hB.out
              have c0 := hR.c0
              have c1 := hR.c1
              have hjl : j < lr := by omega
              have hjp' : (j : Int) < (p : Int) := by omega
              have hG := HGL.out j hjl
              have hGs := HGS.out j (by omega)
              have HSJ : Hid (sumTo (goes u lr S) (j + 1) = sumTo (goes u lr S) j + goes u lr S j) := rfl
              generalize sumTo (goes u lr S) j = T at *
              go_wp2_with fail
              refine (going_any lr ac cc b (pw lr) u S j _ h10 HU.out HSL.out hR.row hR.tab.up hjl).mono ?_
              rintro e w4 ⟨rfl, hb4⟩
              have HB4 : Hid (Below w3.heap.size w3 w4) := Below.then hB.out hb4
              clear hb4 hR c0 c1 hB
              generalize goes u lr S j = G at *
              go_wp2_with fail
              go_roundw
              case rel => exact ⟨j + 1, by omega, by go_num, by rw [HSJ.out]; go_num, HB4.out⟩
              case measure => simp [intOf]; omega
            · have hjq : j = p := by omega
              have hge : (p : Int) ≤ (j : Int) := by omega
              have HRE2 : Hid (rk u lr (nat r) (k + 1) = R + sumTo (goes u lr S) j) := by rw [hjq]; exact HRE.out
              clear hjq
              generalize R + sumTo (goes u lr S) j = R2 at *
              go_wp2_with fail
              go_roundw
              case rel => exact ⟨k + 1, by omega, by go_num, by rw [HRE2.out], by rw [HSE.out]; go_num, hB.out⟩
              case measure => simp [intOf]; omega
        · have hkn : k = lr := by omega
          subst hkn
          have HZ : Hid (RankPost k k f k r (.returned (.tuple #[.int .i64 (rk u k (nat r) k : Nat), .int .i64 0]))) := HFIN.out _ rfl
          generalize rk u k (nat r) k = R at *
          go_wp2_with fail
          go_ret2
          exact ⟨HZ.out, Below.then HB3.out hB.out⟩
  · have hne : (c != 0) = true := by simpa using h0
    have HC : Hid (Chk n len f c) := hc
    clear hc
    go_wp2_with fail
    go_ret2
    exact ⟨⟨c, HC.out, .inl ⟨h0, rfl⟩⟩, HB1.out⟩
end Go.Proofs.Ytipgojoiakbaiaa
