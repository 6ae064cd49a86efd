/-
  What the reference's WordsOf answers. Conditions: as the theorem says.
-/
import Derived.Test.YtjoklkbfcobfeaaDoorWds
import Derived.Test.YtjoklkbfcobfeaaDoorRefHul
namespace Go.Proofs.YtjoklkbfcobfeaaDoor
open Go.RowKit

/-- The ways, when all sets ahead of s were looked at. -/
def rv (M : Nat → Bool) (s j : Nat) : Nat := if j < s then wy M j else 0
theorem rv_one (M : Nat → Bool) : rv M 1 = upd (fun _ => 0) 0 1 := by
  funext j
  unfold rv
  by_cases e : j = 0
  · subst e; rw [upd_same, if_pos (by omega), wy_zero]
  · rw [upd_other _ _ _ _ e, if_neg (by omega)]
theorem rv_succ (M : Nat → Bool) (s : Nat) : upd (rv M s) s (wy M s) = rv M (s + 1) := by
  funext j
  unfold rv
  by_cases e : j = s
  · subst e; rw [upd_same, if_pos (by omega)]
  · rw [upd_other _ _ _ _ e]
    by_cases h : j < s
    · rw [if_pos h, if_pos (by omega)]
    · rw [if_neg h, if_neg (by omega)]
theorem rv_self (M : Nat → Bool) (s : Nat) : rv M s s = 0 := by unfold rv; rw [if_neg (by omega)]
theorem rv_less {M : Nat → Bool} {s j : Nat} (h : j < s) : rv M s j = wy M j := by unfold rv; rw [if_pos h]
theorem wsum_more {M : Nat → Bool} {s n : Nat} (hs : s < pw n) : ∀ d, sumTo (wpt M s) (n + d) = sumTo (wpt M s) n
  | 0 => rfl
  | d + 1 => by
    have hb : s.testBit (n + d) = false := by
      cases e : s.testBit (n + d)
      · rfl
      · have := bit_of_lt hs e; omega
    have h0 : wpt M s (n + d) = 0 := by unfold wpt; rw [hb]; simp
    rw [← Nat.add_assoc, sumTo, h0, wsum_more hs d]; rfl
theorem wsum_ten {M : Nat → Bool} {s n : Nat} (h10 : n ≤ 10) (hs : s < pw n) : sumTo (wpt M s) n = sumTo (wpt M s) 10 := by
  have := wsum_more (M := M) hs (10 - n)
  rw [show n + (10 - n) = 10 by omega] at this; exact this.symm

set_option maxHeartbeats 4000000 in
theorem wordsOf_any (n : Nat) (a : Option Addr) (len cap : Nat) (g : Nat → Nat) (w : World) (h10 : n ≤ 10) (hl : len ≤ maxLen) (hg : ∀ k, k < len → g k < pw n) (hr : Row w a len (fun k => (g k : Nat))) :
    Calls Tryd.prog 29 #[.agg #[.int .i64 (n : Nat), .slice a len cap]] w fun e w' => e = .returned (.int .i64 (wy (mem g len) (pw n - 1) : Nat)) ∧ Below w.heap.size w w' := by
  have hpn := pw_le n h10
  have hpp := pw_pos n
  have hp0 : (0 : Int) < ((pw n : Nat) : Int) := by omega
  obtain ⟨W0, HW0⟩ : ∃ W0, Hid (W0 = w.alloc (.cells #[.int .i64 (n : Nat), .slice a len cap] 24)) := ⟨_, rfl⟩
  have HB0 : Hid (Below w.heap.size w W0) := by rw [HW0.out]; exact (Below.refl _ _).alloc (Nat.le_refl _) _
  have K0 : Held W0 w.heap.size n a len cap (fun k => (g k : Nat)) := by rw [HW0.out]; exact Fam.box hr
  have HTB := (show Hid (Calls Tryd.prog 36 #[.agg #[.int .i64 (n : Nat), .slice a len cap]] W0 _) from table_any n a len cap g W0 h10 hl hg K0.row)
  obtain ⟨M, HM⟩ : ∃ M, Hid (M = mem g len) := ⟨_, rfl⟩
  rw [← HM.out]
  have k0 := K0.c0
  have k1 := K0.c1
  obtain ⟨i0, hi, hz0, hz1, hz2⟩ := info_parts Tryd.info3
  clear hr hg hl
  go_enter Tryd.func29, Tryd.ntmps29
  go_wp2_with fail
  rw [← HW0.out]
  refine HTB.out.mono ?_
  rintro e w1 ⟨⟨C, rfl, hC, ho1⟩, hb1⟩
  rw [← HM.out] at ho1
  have HB1 : Hid (Below W0.heap.size W0 w1) := hb1
  have HM1 : Hid (BOwn w1 C (pw n) M) := ho1
  clear hb1 ho1 HTB k0 k1 hC HM
  have K1 := K0.step HB1.out
  have k0 := K1.c0
  obtain ⟨B, HB⟩ : ∃ B, Hid (B = w1.heap.size) := ⟨_, rfl⟩
  have HBC : Hid (C ≠ B) := by have := HM1.out.lt hpp; rw [Hid, HB.out]; omega
  go_wp2_with fail
  refine (bit_any n _ (by omega)).mono ?_
  rintro e w' ⟨rfl, rfl⟩
  go_wp2_with (at_make; refine wpList_make_full _ rfl _ _ 22 rfl w1.heap.size 3 i0 (.int .i64 0) 1 Tryd.underlying22 hi hz0 hz1 .i64 .i64 _ _ (pw n) rfl rfl rfl rfl (by rw [hz2]; omega) (by unfold maxLen; omega) (Nat.le_refl _) ?_; intro w2 hown2 hgrow2; have hb2 : Below w1.heap.size w1 w2 := (Below.refl _ _).grown hgrow2 (Nat.le_refl _) (by simp); have HO2 : Hid (Own w2 B (pw n) (fun _ => 0)) := (by rw [HB.out]; exact own_made hown2); have HB2 : Hid (Below w1.heap.size w1 w2) := hb2; rw [← HB.out]; have g0 := (HO2.out 0 hpp).1; have g1 := (HO2.out 0 hpp).2; clear hown2 hgrow2 hb2)
  have HO3 : Hid (Own (w2.setCell ⟨B, 0, none⟩ (.int .i64 1)) B (pw n) (rv M 1)) := by rw [rv_one]; exact HO2.out.set 0 1 hpp
  have HB3 : Hid (Below w1.heap.size w1 (w2.setCell ⟨B, 0, none⟩ (.int .i64 1))) := below_set HB2.out (by rw [HB.out]; exact Nat.le_refl _)
  have HM3 : Hid (BOwn (w2.setCell ⟨B, 0, none⟩ (.int .i64 1)) C (pw n) M) := HM1.out.step HB3.out
  clear HO2 HB2 g0 g1 k0
  go_loopw [5] (fun i wx => ∃ s : Nat, 1 ≤ s ∧ s ≤ pw n ∧ i = .int .i64 s ∧ Hid (Own wx B (pw n) (rv M s)) ∧ Hid (BOwn wx C (pw n) M) ∧ Hid (Below w1.heap.size w1 wx)) (fun i _ => pw n - (intOf i).toNat)
  case atStart => exact ⟨1, Nat.le_refl _, hpp, rfl, HO3, HM3, HB3⟩
  case round =>
    clear HO3 HB3 HM3
    obtain ⟨s, hs0, hs, rfl, HO, HMx, HBx⟩ := hrel
    have k0 := (K1.step HBx.out).c0
    by_cases hlt : s < pw n
    · have hlt' : (s : Int) < ((pw n : Nat) : Int) := by omega
      have hs1 : s < 1024 := by omega
      have hms := (HMx.out s hlt).1
      rcases (Bool.eq_false_or_eq_true (M s)).symm with hm | hm
      · rw [hm] at hms
        have HOE : Hid (Own wr B (pw n) (rv M (s + 1))) := by
          rw [← rv_succ, wy_no (by omega) hm]
          have := HO.out
          rw [← upd_self (rv M s) s, rv_self] at this
          exact this
        clear HO
        go_wp2_with fail
        refine (bit_any n _ (by omega)).mono ?_
        rintro e w' ⟨rfl, rfl⟩
        go_wp2_with fail
        go_loopw [6] (fun i wy' => ∃ p : Nat, p = 0 ∧ i = .int .i64 p ∧ wy' = wr) (fun i _ => n - (intOf i).toNat)
        case atStart => exact ⟨0, rfl, rfl, rfl⟩
        case round =>
          obtain ⟨p, rfl, rfl, rfl⟩ := hrel
          by_cases hn0 : 0 < n
          · have hn0' : ((0 : Nat) : Int) < (n : Int) := by omega
            go_wp2_with fail
            go_roundw
            case rel => exact ⟨s + 1, by omega, by omega, by go_num, HOE, HMx, HBx⟩
            case measure => simp [intOf]; omega
          · obtain rfl : n = 0 := by omega
            go_wp2_with fail
            go_roundw
            case rel => exact ⟨s + 1, by omega, by omega, by go_num, HOE, HMx, HBx⟩
            case measure => simp [intOf]; omega
      · rw [hm] at hms
        have HOE : Hid (Own wr B (pw n) (upd (rv M s) s (sumTo (wpt M s) 0))) := by
          have := HO.out
          rw [← upd_self (rv M s) s, rv_self] at this
          exact this
        have HEND : Hid (upd (rv M s) s (sumTo (wpt M s) n) = rv M (s + 1)) := by rw [Hid, wsum_ten h10 hlt, ← wy_yes hs1 (by omega) hm, rv_succ]
        clear HO
        go_wp2_with fail
        refine (bit_any n _ (by omega)).mono ?_
        rintro e w' ⟨rfl, rfl⟩
        go_wp2_with fail
        go_loopw [6] (fun i wy' => ∃ p : Nat, p ≤ n ∧ i = .int .i64 p ∧ Hid (Own wy' B (pw n) (upd (rv M s) s (sumTo (wpt M s) p))) ∧ Hid (BOwn wy' C (pw n) M) ∧ Hid (Below w1.heap.size w1 wy')) (fun i _ => n - (intOf i).toNat)
        case atStart => exact ⟨0, Nat.zero_le _, rfl, HOE, HMx, HBx⟩
        case round =>
          clear HOE HMx HBx k0 hms
          obtain ⟨p, hp, rfl, HO, HMx, HBx⟩ := hrel
          have k0 := (K1.step HBx.out).c0
          have hms := (HMx.out s hlt).1
          rw [hm] at hms
          by_cases hpn2 : p < n
          · have hpn2' : (p : Int) < (n : Int) := by omega
            have HSS : Hid (sumTo (wpt M s) (p + 1) = sumTo (wpt M s) p + wpt M s p) := rfl
            rcases (Bool.eq_false_or_eq_true (s.testBit p)).symm with hb | hb
            · have HON : Hid (Own wr B (pw n) (upd (rv M s) s (sumTo (wpt M s) (p + 1)))) := by
                rw [HSS.out, show wpt M s p = 0 by unfold wpt; rw [hb]; simp]; exact HO.out
              clear HO
              go_wp2_with fail
              refine (in_any s p _ (by omega) (by omega)).mono ?_
              rintro e w' ⟨rfl, rfl⟩
              rw [hb]
              go_wp2_with fail
              go_roundw
              case rel => exact ⟨p + 1, by omega, by go_num, HON, HMx, HBx⟩
              case measure => simp [intOf]; omega
            · have hp10 : p < 10 := by omega
              have hsub := sub_lt' hs1 hp10 hb
              have hple := pw_le_bit hb
              have hwp : wpt M s p = wy M (s - pw p) := by unfold wpt; rw [hb]; simp
              obtain ⟨d, hd⟩ : ∃ d, s - pw p = d := ⟨_, rfl⟩
              rw [hd] at hsub hwp
              have hds : ((s : Nat) : Int) - ((pw p : Nat) : Int) = (d : Int) := by omega
              have hdw : IntKind.i64.wrap (d : Int) = (d : Int) := wrap_i64_small _ (by omega) (by omega)
              have hdn : d < pw n := by omega
              have hdi : (d : Int) < ((pw n : Nat) : Int) := by omega
              have hE1 := wsum_small (M := M) hs1 (show p ≤ 10 by omega)
              have hG1 : wy M d ≤ 10000000000 := wy_small (by omega)
              have hcs := HO.out s hlt
              have hcd := (HO.out d hdn).1
              rw [upd_same] at hcs
              rw [upd_other _ _ _ _ (by omega), rv_less hsub] at hcd
              have hss := HSS.out
              rw [hwp] at hss
              obtain ⟨E, hE⟩ : ∃ E, sumTo (wpt M s) p = E := ⟨_, rfl⟩
              obtain ⟨G, hG⟩ : ∃ G, wy M d = G := ⟨_, rfl⟩
              obtain ⟨T, hT⟩ : ∃ T, E + G = T := ⟨_, rfl⟩
              rw [hE] at hss hE1 hcs
              rw [hG] at hss hG1 hcd
              rw [hT] at hss
              have hadd : IntKind.i64.wrap ((E : Int) + (G : Int)) = (T : Int) := by
                rw [← hT, Int.natCast_add]; exact wrap_i64_small _ (by omega) (by omega)
              obtain ⟨X, HX⟩ : ∃ X, Hid (X = wr.drew) := ⟨_, rfl⟩
              have hx1 : X.cell? ⟨B, s, none⟩ = some (.int .i64 (E : Nat)) := by rw [HX.out]; exact hcs.1
              have hx2 : X.cell? ⟨B, d, none⟩ = some (.int .i64 (G : Nat)) := by rw [HX.out]; exact hcd
              have hx3 : X.frozen? ⟨B, s, none⟩ = false := by rw [HX.out]; exact hcs.2
              have HOT : Hid (Own (X.setCell ⟨B, s, none⟩ (.int .i64 (T : Nat))) B (pw n) (upd (rv M s) s (sumTo (wpt M s) (p + 1)))) := by
                have hOX : Own X B (pw n) (upd (rv M s) s (sumTo (wpt M s) p)) := by rw [HX.out]; exact HO.out
                have := hOX.set s T hlt
                rw [upd_upd] at this
                rw [hss]; exact this
              have HMT : Hid (BOwn (X.setCell ⟨B, s, none⟩ (.int .i64 (T : Nat))) C (pw n) M) := by
                have hMX : BOwn X C (pw n) M := by rw [HX.out]; exact HMx.out
                exact fun j hj => ⟨by rw [World.cell?_setCell_other _ _ _ _ (fun e => by injection e with e1; exact HBC.out e1.symm)]; exact (hMX j hj).1, by rw [World.frozen?_setCell]; exact (hMX j hj).2⟩
              have HBT : Hid (Below w1.heap.size w1 (X.setCell ⟨B, s, none⟩ (.int .i64 (T : Nat)))) := below_set (by rw [HX.out]; exact HBx.out.drew) (by rw [HB.out]; exact Nat.le_refl _)
              clear hd hE hG hT hss hwp hcs hcd HO HBx hE1 hG1 HSS
              go_wp2_with fail
              refine (in_any s p _ (by omega) (by omega)).mono ?_
              rintro e w' ⟨rfl, rfl⟩
              rw [hb]
              clear HMx
              go_wp2_with fail
              refine wp_lates (S := (fun w' => w' = X)) (late := (fun i => i == 13)) (by kernel_rfl) ?_
              rw [← HX.out]
              have HS : Hid (X = X) := rfl
              refine lates_take (i := 0) (oi := { dst := some 37, op := Go.Op.move (Go.Operand.tmp 4), type := 22, pos := "fix.go:490", after := #[], guard := none }) (v := ?_) rfl (by kernel_rfl) (by kernel_rfl) (by kernel_rfl) ⟨rfl, by kernel_rfl⟩ (fun _ _ _ h => h) (Or.inl ⟨by rfl, ?hy⟩) HS.out ?_
              case hy => (intro w9 hSw; (try dsimp only at hSw); subst hSw; go_simp; try with_reducible rfl)
              try simp only [Act.put, List.setIfInBounds_toArray, List.set_cons_zero, List.set_cons_succ]
              refine lates_take (i := 1) (oi := { dst := some 38, op := Go.Op.move (Go.Operand.tmp 5), type := 3, pos := "fix.go:490", after := #[], guard := none }) (v := ?_) rfl (by kernel_rfl) (by kernel_rfl) (by kernel_rfl) ⟨rfl, by kernel_rfl⟩ (fun _ _ _ h => h) (Or.inl ⟨by rfl, ?hy⟩) HS.out ?_
              case hy => (intro w9 hSw; (try dsimp only at hSw); subst hSw; go_simp; try with_reducible rfl)
              try simp only [Act.put, List.setIfInBounds_toArray, List.set_cons_zero, List.set_cons_succ]
              refine lates_take (i := 2) (oi := { dst := some 39, op := Go.Op.indexAddr 22 (Go.Operand.tmp 37) (Go.Operand.tmp 38), type := 0, pos := "fix.go:490", after := #[{ on := 0, ground := Go.Ground.data }, { on := 1, ground := Go.Ground.data }], guard := none }) (v := ?_) rfl (by kernel_rfl) (by kernel_rfl) (by kernel_rfl) ⟨rfl, by kernel_rfl⟩ (fun _ _ _ h => h) (Or.inl ⟨by rfl, ?hy⟩) HS.out ?_
              case hy => (intro w9 hSw; (try dsimp only at hSw); subst hSw; go_simp; try with_reducible rfl)
              try simp only [Act.put, List.setIfInBounds_toArray, List.set_cons_zero, List.set_cons_succ]
              refine lates_take (i := 3) (oi := { dst := some 40, op := Go.Op.load 3 (Go.Operand.tmp 39), type := 3, pos := "fix.go:490", after := #[{ on := 2, ground := Go.Ground.data }], guard := none }) (v := ?_) rfl (by kernel_rfl) (by kernel_rfl) (by kernel_rfl) ⟨rfl, by kernel_rfl⟩ (fun _ _ _ h => h) (Or.inl ⟨by rfl, ?hy⟩) HS.out ?_
              case hy => (intro w9 hSw; (try dsimp only at hSw); subst hSw; go_simp; try with_reducible rfl)
              try simp only [Act.put, List.setIfInBounds_toArray, List.set_cons_zero, List.set_cons_succ]
              refine lates_take (i := 4) (oi := { dst := some 41, op := Go.Op.move (Go.Operand.tmp 4), type := 22, pos := "fix.go:490", after := #[], guard := none }) (v := ?_) rfl (by kernel_rfl) (by kernel_rfl) (by kernel_rfl) ⟨rfl, by kernel_rfl⟩ (fun _ _ _ h => h) (Or.inl ⟨by rfl, ?hy⟩) HS.out ?_
              case hy => (intro w9 hSw; (try dsimp only at hSw); subst hSw; go_simp; try with_reducible rfl)
              try simp only [Act.put, List.setIfInBounds_toArray, List.set_cons_zero, List.set_cons_succ]
              refine lates_take (i := 5) (oi := { dst := some 42, op := Go.Op.move (Go.Operand.tmp 5), type := 3, pos := "fix.go:490", after := #[], guard := none }) (v := ?_) rfl (by kernel_rfl) (by kernel_rfl) (by kernel_rfl) ⟨rfl, by kernel_rfl⟩ (fun _ _ _ h => h) (Or.inl ⟨by rfl, ?hy⟩) HS.out ?_
              case hy => (intro w9 hSw; (try dsimp only at hSw); subst hSw; go_simp; try with_reducible rfl)
              try simp only [Act.put, List.setIfInBounds_toArray, List.set_cons_zero, List.set_cons_succ]
              refine lates_take (i := 6) (oi := { dst := some 43, op := Go.Op.move (Go.Operand.tmp 6), type := 3, pos := "fix.go:490", after := #[], guard := none }) (v := ?_) rfl (by kernel_rfl) (by kernel_rfl) (by kernel_rfl) ⟨rfl, by kernel_rfl⟩ (fun _ _ _ h => h) (Or.inl ⟨by rfl, ?hy⟩) HS.out ?_
              case hy => (intro w9 hSw; (try dsimp only at hSw); subst hSw; go_simp; try with_reducible rfl)
              try simp only [Act.put, List.setIfInBounds_toArray, List.set_cons_zero, List.set_cons_succ]
              refine lates_ready (rs := [7]) (by kernel_rfl) (by simp) ?_
              refine AllLate.cons (o := { dst := some 44, op := Go.Op.call { callee := Go.Callee.value (Go.Operand.func 31), args := #[Go.Operand.tmp 43], argTypes := #[3] }, type := 3, pos := "fix.go:490", after := #[{ on := 6, ground := Go.Ground.data }], guard := none }) rfl (fun K hK => ?_) ?_
              · go_simp
                refine (bit_any p _ (by omega)).mono ?_
                rintro e w3 ⟨rfl, hww⟩
                subst hww
                refine hK.out _ _ (fun _ => ?_) ?_
                · exact HS.out

                clear hK K
                try simp only [Act.put, List.setIfInBounds_toArray, List.set_cons_zero, List.set_cons_succ]
                refine lates_take (i := 8) (oi := { dst := some 45, op := Go.Op.binOp Go.BinOp.sub 3 (Go.Operand.tmp 42) (Go.Operand.tmp 44) 3, type := 3, pos := "fix.go:490", after := #[{ on := 5, ground := Go.Ground.data }, { on := 7, ground := Go.Ground.data }], guard := none }) (v := .int .i64 ((d : Nat) : Int)) rfl (by kernel_rfl) (by kernel_rfl) (by kernel_rfl) ⟨rfl, by kernel_rfl⟩ (fun _ _ _ h => h) (Or.inl ⟨by rfl, ?hy⟩) HS.out ?_
                case hy => (intro w9 hSw; (try dsimp only at hSw); subst hSw; go_simp <;> (first | with_reducible rfl | (simp; omega) | omega))
                try simp only [Act.put, List.setIfInBounds_toArray, List.set_cons_zero, List.set_cons_succ]
                refine lates_take (i := 9) (oi := { dst := some 46, op := Go.Op.indexAddr 22 (Go.Operand.tmp 41) (Go.Operand.tmp 45), type := 0, pos := "fix.go:490", after := #[{ on := 4, ground := Go.Ground.data }, { on := 8, ground := Go.Ground.data }], guard := none }) (v := ?_) rfl (by kernel_rfl) (by kernel_rfl) (by kernel_rfl) ⟨rfl, by kernel_rfl⟩ (fun _ _ _ h => h) (Or.inl ⟨by rfl, ?hy⟩) HS.out ?_
                case hy => (intro w9 hSw; (try dsimp only at hSw); subst hSw; go_simp; try with_reducible rfl)
                try simp only [Act.put, List.setIfInBounds_toArray, List.set_cons_zero, List.set_cons_succ]
                refine lates_take (i := 10) (oi := { dst := some 47, op := Go.Op.load 3 (Go.Operand.tmp 46), type := 3, pos := "fix.go:490", after := #[{ on := 9, ground := Go.Ground.data }], guard := none }) (v := ?_) rfl (by kernel_rfl) (by kernel_rfl) (by kernel_rfl) ⟨rfl, by kernel_rfl⟩ (fun _ _ _ h => h) (Or.inl ⟨by rfl, ?hy⟩) HS.out ?_
                case hy => (intro w9 hSw; (try dsimp only at hSw); subst hSw; go_simp; try with_reducible rfl)
                try simp only [Act.put, List.setIfInBounds_toArray, List.set_cons_zero, List.set_cons_succ]
                refine lates_take (i := 11) (oi := { dst := some 48, op := Go.Op.binOp Go.BinOp.add 3 (Go.Operand.tmp 40) (Go.Operand.tmp 47) 3, type := 3, pos := "fix.go:490", after := #[{ on := 3, ground := Go.Ground.data }, { on := 10, ground := Go.Ground.data }], guard := none }) (v := .int .i64 ((T : Nat) : Int)) rfl (by kernel_rfl) (by kernel_rfl) (by kernel_rfl) ⟨rfl, by kernel_rfl⟩ (fun _ _ _ h => h) (Or.inl ⟨by rfl, ?hy⟩) HS.out ?_
                case hy => (intro w9 hSw; (try dsimp only at hSw); subst hSw; go_simp <;> (first | with_reducible rfl | (simp; omega) | omega))
                try simp only [Act.put, List.setIfInBounds_toArray, List.set_cons_zero, List.set_cons_succ]
                refine lates_take (i := 12) (oi := { dst := some 49, op := Go.Op.indexAddr 22 (Go.Operand.tmp 37) (Go.Operand.tmp 38), type := 0, pos := "fix.go:490", after := #[{ on := 0, ground := Go.Ground.data }, { on := 1, ground := Go.Ground.data }, { on := 0, ground := Go.Ground.phase }, { on := 1, ground := Go.Ground.phase }, { on := 2, ground := Go.Ground.phase }, { on := 3, ground := Go.Ground.phase }, { on := 4, ground := Go.Ground.phase }, { on := 5, ground := Go.Ground.phase }, { on := 6, ground := Go.Ground.phase }, { on := 7, ground := Go.Ground.phase }, { on := 8, ground := Go.Ground.phase }, { on := 9, ground := Go.Ground.phase }, { on := 10, ground := Go.Ground.phase }, { on := 11, ground := Go.Ground.phase }], guard := none }) (v := ?_) rfl (by kernel_rfl) (by kernel_rfl) (by kernel_rfl) ⟨rfl, by kernel_rfl⟩ (fun _ _ _ h => h) (Or.inl ⟨by rfl, ?hy⟩) HS.out ?_
                case hy => (intro w9 hSw; (try dsimp only at hSw); subst hSw; go_simp; try with_reducible rfl)
                try simp only [Act.put, List.setIfInBounds_toArray, List.set_cons_zero, List.set_cons_succ]
                refine lates_ready (rs := [13]) (by kernel_rfl) (by simp) ?_
                refine AllLate.cons (o := { dst := none, op := Go.Op.store 3 (Go.Operand.tmp 49) (Go.Operand.tmp 48), type := 0, pos := "fix.go:490", after := #[{ on := 12, ground := Go.Ground.data }, { on := 11, ground := Go.Ground.data }, { on := 7, ground := Go.Ground.chain }, { on := 0, ground := Go.Ground.phase }, { on := 1, ground := Go.Ground.phase }, { on := 2, ground := Go.Ground.phase }, { on := 3, ground := Go.Ground.phase }, { on := 4, ground := Go.Ground.phase }, { on := 5, ground := Go.Ground.phase }, { on := 6, ground := Go.Ground.phase }, { on := 7, ground := Go.Ground.phase }, { on := 8, ground := Go.Ground.phase }, { on := 9, ground := Go.Ground.phase }, { on := 10, ground := Go.Ground.phase }, { on := 11, ground := Go.Ground.phase }], guard := none }) rfl (fun K hK => ?_) ?_
                · go_simp
                  skip
                  refine hK.out _ _ (fun h => by cases h) ?_
                  clear hK K
                  try simp only [Act.put, List.setIfInBounds_toArray, List.set_cons_zero, List.set_cons_succ]
                  refine lates_done (by kernel_rfl) ?_ _
                  try simp only [Act.put, List.setIfInBounds_toArray, List.set_cons_zero, List.set_cons_succ]
                  go_wp2_with fail
                  go_roundw
                  case rel => exact ⟨p + 1, by omega, by go_num, HOT, HMT, HBT⟩
                  case measure => simp [intOf]; omega
                exact AllLate.nil
              exact AllLate.nil
          · obtain rfl : p = n := by omega
            rw [HEND.out] at HO
            go_wp2_with fail
            go_roundw
            case rel => exact ⟨s + 1, by omega, by omega, by go_num, HO, HMx, HBx⟩
            case measure => simp [intOf]; omega
    · obtain rfl : s = pw n := by omega
      have hcl := (HO.out (pw n - 1) (by omega)).1
      rw [rv_less (by omega)] at hcl
      obtain ⟨V, HV⟩ : ∃ V, Hid (wy M (pw n - 1) = V) := ⟨_, rfl⟩
      rw [HV.out] at hcl
      obtain ⟨q, hq⟩ : ∃ q, pw n - 1 = q := ⟨_, rfl⟩
      rw [hq] at hcl
      have hqi : ((pw n : Nat) : Int) - 1 = (q : Int) := by omega
      have hqj : (q : Int) < ((pw n : Nat) : Int) := by omega
      clear hq
      go_wp2_with fail
      refine (bit_any n _ (by omega)).mono ?_
      rintro e w' ⟨rfl, rfl⟩
      go_wp2_with fail
      refine (bit_any n _ (by omega)).mono ?_
      rintro e w' ⟨rfl, rfl⟩
      go_wp2_with fail
      go_ret
      exact ⟨by rw [HV.out]; rfl, Below.then HB0.out (Below.then HB1.out HBx.out)⟩
end Go.Proofs.YtjoklkbfcobfeaaDoor
