/-
  What the reference's Rows answers: how many ways go on behind each set. Conditions: an order of at most ten points that lies in a slice of numbers.
-/
import Derived.Test.YtipgojoiakbaiaaLayOut
namespace Go.Proofs.Ytipgojoiakbaiaa
open Go.RowKit

/-- All stand already: one way. -/
def st (n s : Nat) : Nat := if s + 1 = pw n then 1 else 0
theorem st_le (n s : Nat) : st n s ≤ 1 := by unfold st; split <;> omega
theorem ways_st {u : Nat → Nat} {n s : Nat} (hs : s < pw n) : st n s + sumTo (goes u n s) n = ways u n s := by
  unfold st
  by_cases e : s + 1 = pw n
  · rw [if_pos e, show s = pw n - 1 by omega, sum_all n (Nat.le_refl _), ways_all]
  · rw [if_neg e, ways_eq (by omega), Nat.zero_add]

theorem tb_none {u : Nat → Nat} {n s : Nat} (hs : s < pw n) : 0 = tb u n (pw n) s := by
  have : ¬ pw n ≤ s := by omega
  simp [tb, this]
set_option maxHeartbeats 1000000 in
theorem refRows_any (n : Nat) (a : Option Addr) (cap : Nat) (g : Nat → Nat) (w : World) (hn : n ≤ 10) (hg : Sm n n g) (hr : Row w a n (fun k => (g k : Nat))) :
    Calls Try.prog 55 #[.agg #[.int .i64 (n : Int), .slice a n cap]] w fun e w' => (∃ b, e = .returned (.slice (some ⟨b, 0, none⟩) (pw n) (pw n)) ∧ Tabl w' b n 0 g) ∧ Below w.heap.size w w' := by
  have hpn := pw_le n hn
  have hpos := pw_pos n
  have HG : Hid (∀ k, k < n → g k < 1024) := fun k hk => Nat.lt_of_lt_of_le (hg k hk) hpn
  have HR : Hid (Row w a n (fun k => (g k : Nat))) := hr
  obtain ⟨W0, HW0⟩ : ∃ W0, Hid (W0 = w.alloc (.cells #[.int .i64 (n : Int), .slice a n cap] 24)) := ⟨_, rfl⟩
  have K0 : Hid (Held W0 w.heap.size n a n cap (fun k => (g k : Nat))) := by rw [HW0.out]; exact Held.box hr
  have HB0 : Hid (Below w.heap.size w W0) := by rw [HW0.out]; exact (Below.refl _ _).alloc (Nat.le_refl _) _
  have LH : Hid (∀ w', Below W0.heap.size W0 w' → Held w' w.heap.size n a n cap (fun k => (g k : Nat))) := fun w' h => K0.out.step h
  obtain ⟨i0, hi, hz0, hz1, hz2⟩ := info_parts Try.info3
  have k0 := K0.out.c0
  clear hr hg
  go_enter Try.func55, Try.ntmps55
  go_wp2_with fail
  refine (bit_any n _ (by omega)).mono ?_
  rintro e w' ⟨rfl, rfl⟩
  rw [← HW0.out]
  go_wp2_with (first
    | (at_make; refine wpList_make_full _ rfl _ _ 22 rfl W0.heap.size 3 i0 (.int .i64 0) 1 Try.underlying22 hi hz0 hz1 .i64 .i64 _ _ (pw n) rfl rfl rfl rfl (by rw [hz2]; omega) (by unfold maxLen; omega) (Nat.le_refl _) ?_; intro w1 hown1 hgrow1; have HB1 : Hid (Below W0.heap.size W0 w1) := (Below.refl _ _).grown hgrow1 (Nat.le_refl _) (by simp); have y0 := (LH.out w1 HB1.out).c0)
    | (go_at_call 23; refine (bit_any n _ (by omega)).mono ?_; rintro e w' ⟨rfl, rfl⟩))
  have HO1 : Hid (Own w1 W0.heap.size (pw n) (tb g n (pw n))) := (own_made hown1).congr (fun s hs => tb_none hs)
  clear hown1 hgrow1 y0 k0 hi hz0 hz1 hz2
  generalize hb0 : W0.heap.size = b at HO1 ⊢
  have HBW : Hid (W0.heap.size = b) := hb0
  clear hb0
  go_loopw [4] (fun x wx => ∃ m : Nat, m ≤ pw n ∧ x = .int .i64 ((m : Int) - 1) ∧ Hid (Own wx b (pw n) (tb g n m)) ∧ Hid (Below W0.heap.size W0 wx)) (fun x _ => (intOf x + 1).toNat)
  case atStart => exact ⟨pw n, Nat.le_refl _, rfl, HO1, HB1⟩
  case round =>
    clear HO1 HB1
    obtain ⟨m, hm, rfl, hO, hB⟩ := hrel
    rcases Nat.eq_zero_or_pos m with hm0 | hmp
    · subst hm0
      have HQ : Hid (Tabl wr b n 0 g) := fun s hs _ => by
        have := (hO.out s hs).1
        simpa [tb] using this
      clear hO
      go_wp2_with fail
      go_ret
      exact ⟨⟨b, rfl, HQ.out⟩, Below.then HB0.out hB.out⟩
    · obtain ⟨s, rfl⟩ : ∃ s, m = s + 1 := ⟨m - 1, by omega⟩
      have hsp : s < pw n := by omega
      rw [show (((s + 1 : Nat) : Int) - 1) = (s : Int) by omega]
      have d0 := (LH.out wr hB.out).c0
      have hst := st_le n s
      have HEND : Hid (∀ x, upd (tb g n (s + 1)) s (st n s + sumTo (goes g n s) n) x = tb g n s x) := fun x => by
        rw [ways_st hsp]
        unfold upd
        by_cases e : x = s
        · subst e; simp [tb]
        · have : (s + 1 ≤ x) = (s ≤ x) := by simp; omega
          simp [e, tb, this]
      by_cases hse : s + 1 = pw n
      · have hq : ((s : Int) == ((pw n : Nat) : Int) - 1) = true := by simp; omega
        have hO0 := (hO.out s hsp).1
        have hf0 := (hO.out s hsp).2
        have HO1 : Hid (Own (wr.setCell ⟨b, s, none⟩ (.int .i64 1)) b (pw n) (upd (tb g n (s + 1)) s (st n s + sumTo (goes g n s) 0))) := by
          have e : st n s + sumTo (goes g n s) 0 = 1 := by simp [st, hse, sumTo]
          rw [e]; exact hO.out.set s 1 hsp
        have HB1 : Hid (Below W0.heap.size W0 (wr.setCell ⟨b, s, none⟩ (.int .i64 1))) := Below.setCell (p := ⟨b, s, none⟩) hB.out (by rw [HBW.out]; exact Nat.le_refl _) _
        obtain ⟨X, HX⟩ : ∃ X, Hid (X = wr.setCell ⟨b, s, none⟩ (.int .i64 1)) := ⟨_, rfl⟩
        go_wp2_with (go_at_call 23; refine (bit_any n _ (by omega)).mono ?_; rintro e w' ⟨rfl, rfl⟩)
        rw [← HX.out] at HO1 HB1 ⊢
        clear hO hB HX hO0 hf0 d0
        go_loopw [5] (fun x wx => ∃ k : Nat, k ≤ n ∧ x = .int .i64 k ∧ Hid (Own wx b (pw n) (upd (tb g n (s + 1)) s (st n s + sumTo (goes g n s) k))) ∧ Hid (Below W0.heap.size W0 wx)) (fun x _ => n - (intOf x).toNat)
        case atStart => exact ⟨0, Nat.zero_le _, rfl, HO1, HB1⟩
        case round =>
          clear HO1 HB1
          obtain ⟨k, hkk, rfl, hO, hB⟩ := hrel
          have hH := LH.out wr hB.out
          have d0 := hH.c0
          have d1 := hH.c1
          by_cases hkn : k < n
          · have hki : (k : Int) < (n : Int) := by omega
            have hsi : (s : Int) < ((pw n : Nat) : Int) := by omega
            cases hmy : may g s k
            · have HS : Hid (sumTo (goes g n s) (k + 1) = sumTo (goes g n s) k) := by
                have e : sumTo (goes g n s) (k + 1) = sumTo (goes g n s) k + goes g n s k := rfl
                have e2 : sumTo (goes g n s) (k + 1) = sumTo (goes g n s) k := by rw [e, goes_no hmy]; rfl
                exact e2
              go_wp2_with fail
              refine (may_as n a cap g s k false _ hmy HG.out (by omega) hH.row hkn hn).mono ?_
              rintro e w2 ⟨rfl, hb2⟩
              have HO2 : Hid (Own w2 b (pw n) (upd (tb g n (s + 1)) s (st n s + sumTo (goes g n s) (k + 1)))) := by rw [HS.out]; exact hO.out.keep hb2 (hO.out.lt hpos)
              have HB2 : Hid (Below W0.heap.size W0 w2) := Below.then hB.out hb2
              clear hO hB hb2 hH d0 d1
              go_wp2_with fail
              go_roundw
              case rel => exact ⟨k + 1, by omega, by go_num, HO2, HB2⟩
              case measure => simp [intOf]; omega
            · go_wp2_with fail
              refine (may_as n a cap g s k true _ hmy HG.out (by omega) hH.row hkn hn).mono ?_
              rintro e w2 ⟨rfl, hb2⟩
              have HO2 : Hid (Own w2 b (pw n) (upd (tb g n (s + 1)) s (st n s + sumTo (goes g n s) k))) := hO.out.keep hb2 (hO.out.lt hpos)
              have HB2 : Hid (Below W0.heap.size W0 w2) := Below.then hB.out hb2
              clear hO hB hb2 hH d0 d1
              have hlt2 := add_lt hsp hkn (may_out hmy)
              have hpk := pw_pos k
              have HGE : Hid (goes g n s k = ways g n (s + pw k)) := goes_yes hmy
              have HSB : Hid (sumTo (goes g n s) k + goes g n s k ≤ 100000000000) := sum_small (u := g) hn hsp hkn
              have HST : Hid (sumTo (goes g n s) (k + 1) = sumTo (goes g n s) k + goes g n s k) := rfl
              have hnew := (HO2.out (s + pw k) hlt2).1
              rw [upd_other _ _ _ _ (by omega)] at hnew
              have e2 : tb g n (s + 1) (s + pw k) = goes g n s k := by rw [HGE.out]; simp [tb]; omega
              rw [e2] at hnew
              have hold := (HO2.out s hsp).1
              rw [upd_same] at hold
              have hfro := (HO2.out s hsp).2
              have HTT : Hid (st n s + sumTo (goes g n s) (k + 1) = st n s + sumTo (goes g n s) k + goes g n s k) := by rw [HST.out]; exact (Nat.add_assoc _ _ _).symm
              clear e2
              have hsb := HSB.out
              generalize hEE : st n s + sumTo (goes g n s) k = E at *
              generalize hGG : goes g n s k = G at *
              generalize hTT : st n s + sumTo (goes g n s) (k + 1) = T at *
              have hsum : IntKind.i64.wrap ((E : Int) + (G : Int)) = ((T : Nat) : Int) := by
                rw [HTT.out, Int.natCast_add]
                exact wrap_i64_small _ (by omega) (by omega)
              have hix : IntKind.i64.wrap ((s : Int) + ((pw k : Nat) : Int)) = ((s + pw k : Nat) : Int) := by
                rw [Int.natCast_add]
                exact wrap_i64_small _ (by omega) (by omega)
              generalize hQQ : s + pw k = Q at *
              have hQi : (Q : Int) < ((pw n : Nat) : Int) := by omega
              have HT : Hid (st n s + sumTo (goes g n s) (k + 1) = T) := hTT
              have HOT : Hid (Own (w2.drew.setCell ⟨b, s, none⟩ (.int .i64 (T : Nat))) b (pw n) (upd (upd (tb g n (s + 1)) s E) s T)) := (show Own w2.drew b (pw n) _ from HO2.out).set s T hsp
              have HBT : Hid (Below W0.heap.size W0 (w2.drew.setCell ⟨b, s, none⟩ (.int .i64 (T : Nat)))) := Below.setCell (p := ⟨b, s, none⟩) HB2.out.drew (by rw [HBW.out]; exact Nat.le_refl _) _
              have hold1 : w2.drew.cell? ⟨b, s, none⟩ = some (.int .i64 (E : Nat)) := hold
              have hnew1 : w2.drew.cell? ⟨b, Q, none⟩ = some (.int .i64 (G : Nat)) := hnew
              have hfro1 : w2.drew.frozen? ⟨b, s, none⟩ = false := hfro
              clear hEE hGG hTT hQQ hsb HSB HST HGE HTT hold hnew hfro HO2 HB2
              go_wp2_with fail
              refine region_by (fun a0 a' W => a' = ((((((((((((a0.put (some 37) (.slice (some ⟨b, 0, none⟩) (pw n) (pw n))).put (some 38) (.int .i64 (s : Nat))).put (some 39) (.pointer (some ⟨b, s, none⟩))).put (some 40) (.int .i64 (E : Nat))).put (some 41) (.slice (some ⟨b, 0, none⟩) (pw n) (pw n))).put (some 42) (.int .i64 (s : Nat))).put (some 43) (.int .i64 (k : Nat))).put (some 44) (.int .i64 (pw k : Nat))).put (some 45) (.int .i64 (Q : Nat))).put (some 46) (.pointer (some ⟨b, Q, none⟩))).put (some 47) (.int .i64 (G : Nat))).put (some 48) (.int .i64 (T : Nat))).put (some 49) (.pointer (some ⟨b, s, none⟩)) ∧ Hid (Own W b (pw n) (upd (upd (tb g n (s + 1)) s E) s T)) ∧ Hid (Below W0.heap.size W0 W)) ?_ ?_
              · refine wp_region_held_drew (S := (fun _ => True)) (by kernel_rfl) (trivial) (fun hHeld => ?_)
                refine wpAnyH_take (i := 0) (oi := { dst := some 37, op := Op.move (Operand.tmp 3), type := 22, pos := "chain.go:313", after := #[], guard := none }) (v := ?_) rfl (by kernel_rfl) (by kernel_rfl) (by kernel_rfl) (fun _ _ _ h => h.elim) (Or.inl ⟨by rfl, ?hy⟩) (by assumption) ?_
                case hy => (intro w9 hSw; (try dsimp only at hSw); go_simp; try with_reducible rfl)
                try simp only [Act.put, List.setIfInBounds_toArray, List.set_cons_zero, List.set_cons_succ]
                refine wpAnyH_take (i := 1) (oi := { dst := some 38, op := Op.move (Operand.tmp 4), type := 3, pos := "chain.go:313", after := #[], guard := none }) (v := ?_) rfl (by kernel_rfl) (by kernel_rfl) (by kernel_rfl) (fun _ _ _ h => h.elim) (Or.inl ⟨by rfl, ?hy⟩) (by assumption) ?_
                case hy => (intro w9 hSw; (try dsimp only at hSw); go_simp; try with_reducible rfl)
                try simp only [Act.put, List.setIfInBounds_toArray, List.set_cons_zero, List.set_cons_succ]
                refine wpAnyH_take (i := 2) (oi := { dst := some 39, op := Op.indexAddr 22 (Operand.tmp 37) (Operand.tmp 38), type := 0, pos := "chain.go:313", after := #[{ on := 0, ground := Ground.data }, { on := 1, ground := Ground.data }], guard := none }) (v := ?_) rfl (by kernel_rfl) (by kernel_rfl) (by kernel_rfl) (fun _ _ _ h => h.elim) (Or.inl ⟨by rfl, ?hy⟩) (by assumption) ?_
                case hy => (intro w9 hSw; (try dsimp only at hSw); go_simp; try with_reducible rfl)
                try simp only [Act.put, List.setIfInBounds_toArray, List.set_cons_zero, List.set_cons_succ]
                refine wpAnyH_take (i := 4) (oi := { dst := some 41, op := Op.move (Operand.tmp 3), type := 22, pos := "chain.go:313", after := #[], guard := none }) (v := ?_) rfl (by kernel_rfl) (by kernel_rfl) (by kernel_rfl) (fun _ _ _ h => h.elim) (Or.inl ⟨by rfl, ?hy⟩) (by assumption) ?_
                case hy => (intro w9 hSw; (try dsimp only at hSw); go_simp; try with_reducible rfl)
                try simp only [Act.put, List.setIfInBounds_toArray, List.set_cons_zero, List.set_cons_succ]
                refine wpAnyH_take (i := 5) (oi := { dst := some 42, op := Op.move (Operand.tmp 4), type := 3, pos := "chain.go:313", after := #[], guard := none }) (v := ?_) rfl (by kernel_rfl) (by kernel_rfl) (by kernel_rfl) (fun _ _ _ h => h.elim) (Or.inl ⟨by rfl, ?hy⟩) (by assumption) ?_
                case hy => (intro w9 hSw; (try dsimp only at hSw); go_simp; try with_reducible rfl)
                try simp only [Act.put, List.setIfInBounds_toArray, List.set_cons_zero, List.set_cons_succ]
                refine wpAnyH_take (i := 6) (oi := { dst := some 43, op := Op.move (Operand.tmp 5), type := 3, pos := "chain.go:313", after := #[], guard := none }) (v := ?_) rfl (by kernel_rfl) (by kernel_rfl) (by kernel_rfl) (fun _ _ _ h => h.elim) (Or.inl ⟨by rfl, ?hy⟩) (by assumption) ?_
                case hy => (intro w9 hSw; (try dsimp only at hSw); go_simp; try with_reducible rfl)
                try simp only [Act.put, List.setIfInBounds_toArray, List.set_cons_zero, List.set_cons_succ]
                generalize w2.drew = W1 at *
                refine wpAnyH_ready (rs := [3, 7]) (by kernel_rfl) (by simp) ?_
                refine AllReadyH.cons (o := { dst := some 40, op := Op.load 3 (Operand.tmp 39), type := 3, pos := "chain.go:313", after := #[{ on := 2, ground := Ground.data }], guard := none }) rfl (fun K hK => ?_) ?_
                · go_simp
                  refine hK.out _ _ trivial (fun hHeld => ?_)
                  clear hK K
                  try simp only [Act.put, List.setIfInBounds_toArray, List.set_cons_zero, List.set_cons_succ]
                  refine wpAnyH_ready (rs := [7]) (by kernel_rfl) (by simp) ?_
                  refine AllReadyH.cons (o := { dst := some 44, op := Op.call { callee := Callee.value (Operand.func 23), args := #[Operand.tmp 43], argTypes := #[3] }, type := 3, pos := "chain.go:313", after := #[{ on := 6, ground := Ground.data }], guard := none }) rfl (fun K hK => ?_) ?_
                  · go_simp
                    refine (bit_any k _ (by omega)).mono ?_
                    rintro e w' ⟨rfl, rfl⟩
                    refine hK.out _ _ trivial (fun hHeld => ?_)
                    clear hK K
                    try simp only [Act.put, List.setIfInBounds_toArray, List.set_cons_zero, List.set_cons_succ]
                    refine wpAnyH_take (i := 8) (oi := { dst := some 45, op := Op.binOp BinOp.add 3 (Operand.tmp 42) (Operand.tmp 44) 3, type := 3, pos := "chain.go:313", after := #[{ on := 5, ground := Ground.data }, { on := 7, ground := Ground.data }], guard := none }) (v := ?_) rfl (by kernel_rfl) (by kernel_rfl) (by kernel_rfl) (fun _ _ _ h => h.elim) (Or.inl ⟨by rfl, ?hy⟩) (by assumption) ?_
                    case hy => (intro w9 hSw; (try dsimp only at hSw); go_simp; try with_reducible rfl)
                    try simp only [Act.put, List.setIfInBounds_toArray, List.set_cons_zero, List.set_cons_succ]
                    refine wpAnyH_take (i := 9) (oi := { dst := some 46, op := Op.indexAddr 22 (Operand.tmp 41) (Operand.tmp 45), type := 0, pos := "chain.go:313", after := #[{ on := 4, ground := Ground.data }, { on := 8, ground := Ground.data }], guard := none }) (v := ?_) rfl (by kernel_rfl) (by kernel_rfl) (by kernel_rfl) (fun _ _ _ h => h.elim) (Or.inl ⟨by rfl, ?hy⟩) (by assumption) ?_
                    case hy => (intro w9 hSw; (try dsimp only at hSw); go_simp; try with_reducible rfl)
                    try simp only [Act.put, List.setIfInBounds_toArray, List.set_cons_zero, List.set_cons_succ]
                    refine wpAnyH_ready (rs := [10]) (by kernel_rfl) (by simp) ?_
                    refine AllReadyH.cons (o := { dst := some 47, op := Op.load 3 (Operand.tmp 46), type := 3, pos := "chain.go:313", after := #[{ on := 9, ground := Ground.data }], guard := none }) rfl (fun K hK => ?_) ?_
                    · go_simp
                      refine hK.out _ _ trivial (fun hHeld => ?_)
                      clear hK K
                      try simp only [Act.put, List.setIfInBounds_toArray, List.set_cons_zero, List.set_cons_succ]
                      refine wpAnyH_take (i := 11) (oi := { dst := some 48, op := Op.binOp BinOp.add 3 (Operand.tmp 40) (Operand.tmp 47) 3, type := 3, pos := "chain.go:313", after := #[{ on := 3, ground := Ground.data }, { on := 10, ground := Ground.data }], guard := none }) (v := ?_) rfl (by kernel_rfl) (by kernel_rfl) (by kernel_rfl) (fun _ _ _ h => h.elim) (Or.inl ⟨by rfl, ?hy⟩) (by assumption) ?_
                      case hy => (intro w9 hSw; (try dsimp only at hSw); go_simp; try with_reducible rfl)
                      try simp only [Act.put, List.setIfInBounds_toArray, List.set_cons_zero, List.set_cons_succ]
                      refine wpAnyH_take (i := 12) (oi := { dst := some 49, op := Op.indexAddr 22 (Operand.tmp 37) (Operand.tmp 38), type := 0, pos := "chain.go:313", after := #[{ on := 0, ground := Ground.data }, { on := 1, ground := Ground.data }, { on := 0, ground := Ground.phase }, { on := 1, ground := Ground.phase }, { on := 2, ground := Ground.phase }, { on := 3, ground := Ground.phase }, { on := 4, ground := Ground.phase }, { on := 5, ground := Ground.phase }, { on := 6, ground := Ground.phase }, { on := 7, ground := Ground.phase }, { on := 8, ground := Ground.phase }, { on := 9, ground := Ground.phase }, { on := 10, ground := Ground.phase }, { on := 11, ground := Ground.phase }], guard := none }) (v := ?_) rfl (by kernel_rfl) (by kernel_rfl) (by kernel_rfl) (fun _ _ _ h => h.elim) (Or.inl ⟨by rfl, ?hy⟩) (by assumption) ?_
                      case hy => (intro w9 hSw; (try dsimp only at hSw); go_simp; try with_reducible rfl)
                      try simp only [Act.put, List.setIfInBounds_toArray, List.set_cons_zero, List.set_cons_succ]
                      refine wpAnyH_ready (rs := [13]) (by kernel_rfl) (by simp) ?_
                      refine AllReadyH.cons (o := { dst := none, op := Op.store 3 (Operand.tmp 49) (Operand.tmp 48), type := 0, pos := "chain.go:313", after := #[{ on := 12, ground := Ground.data }, { on := 11, ground := Ground.data }, { on := 7, ground := Ground.chain }, { on := 0, ground := Ground.phase }, { on := 1, ground := Ground.phase }, { on := 2, ground := Ground.phase }, { on := 3, ground := Ground.phase }, { on := 4, ground := Ground.phase }, { on := 5, ground := Ground.phase }, { on := 6, ground := Ground.phase }, { on := 7, ground := Ground.phase }, { on := 8, ground := Ground.phase }, { on := 9, ground := Ground.phase }, { on := 10, ground := Ground.phase }, { on := 11, ground := Ground.phase }], guard := none }) rfl (fun K hK => ?_) ?_
                      · go_simp
                        refine hK.out _ _ trivial (fun hHeld => ?_)
                        clear hK K
                        try simp only [Act.put, List.setIfInBounds_toArray, List.set_cons_zero, List.set_cons_succ]
                        refine wpAnyH_done (by kernel_rfl) ?_ _
                        refine ⟨?_, HOT, HBT⟩
                        first
                          | rfl
                          | simp only [Act.put, List.setIfInBounds_toArray, List.set_cons_zero, List.set_cons_succ]
                      exact AllReadyH.nil
                    exact AllReadyH.nil
                  exact AllReadyH.nil
                refine AllReadyH.cons (o := { dst := some 44, op := Op.call { callee := Callee.value (Operand.func 23), args := #[Operand.tmp 43], argTypes := #[3] }, type := 3, pos := "chain.go:313", after := #[{ on := 6, ground := Ground.data }], guard := none }) rfl (fun K hK => ?_) ?_
                · go_simp
                  refine (bit_any k _ (by omega)).mono ?_
                  rintro e w' ⟨rfl, rfl⟩
                  refine hK.out _ _ trivial (fun hHeld => ?_)
                  clear hK K
                  try simp only [Act.put, List.setIfInBounds_toArray, List.set_cons_zero, List.set_cons_succ]
                  refine wpAnyH_take (i := 8) (oi := { dst := some 45, op := Op.binOp BinOp.add 3 (Operand.tmp 42) (Operand.tmp 44) 3, type := 3, pos := "chain.go:313", after := #[{ on := 5, ground := Ground.data }, { on := 7, ground := Ground.data }], guard := none }) (v := ?_) rfl (by kernel_rfl) (by kernel_rfl) (by kernel_rfl) (fun _ _ _ h => h.elim) (Or.inl ⟨by rfl, ?hy⟩) (by assumption) ?_
                  case hy => (intro w9 hSw; (try dsimp only at hSw); go_simp; try with_reducible rfl)
                  try simp only [Act.put, List.setIfInBounds_toArray, List.set_cons_zero, List.set_cons_succ]
                  refine wpAnyH_take (i := 9) (oi := { dst := some 46, op := Op.indexAddr 22 (Operand.tmp 41) (Operand.tmp 45), type := 0, pos := "chain.go:313", after := #[{ on := 4, ground := Ground.data }, { on := 8, ground := Ground.data }], guard := none }) (v := ?_) rfl (by kernel_rfl) (by kernel_rfl) (by kernel_rfl) (fun _ _ _ h => h.elim) (Or.inl ⟨by rfl, ?hy⟩) (by assumption) ?_
                  case hy => (intro w9 hSw; (try dsimp only at hSw); go_simp; try with_reducible rfl)
                  try simp only [Act.put, List.setIfInBounds_toArray, List.set_cons_zero, List.set_cons_succ]
                  refine wpAnyH_ready (rs := [3, 10]) (by kernel_rfl) (by simp) ?_
                  refine AllReadyH.cons (o := { dst := some 40, op := Op.load 3 (Operand.tmp 39), type := 3, pos := "chain.go:313", after := #[{ on := 2, ground := Ground.data }], guard := none }) rfl (fun K hK => ?_) ?_
                  · go_simp
                    refine hK.out _ _ trivial (fun hHeld => ?_)
                    clear hK K
                    try simp only [Act.put, List.setIfInBounds_toArray, List.set_cons_zero, List.set_cons_succ]
                    refine wpAnyH_ready (rs := [10]) (by kernel_rfl) (by simp) ?_
                    refine AllReadyH.cons (o := { dst := some 47, op := Op.load 3 (Operand.tmp 46), type := 3, pos := "chain.go:313", after := #[{ on := 9, ground := Ground.data }], guard := none }) rfl (fun K hK => ?_) ?_
                    · go_simp
                      refine hK.out _ _ trivial (fun hHeld => ?_)
                      clear hK K
                      try simp only [Act.put, List.setIfInBounds_toArray, List.set_cons_zero, List.set_cons_succ]
                      refine wpAnyH_take (i := 11) (oi := { dst := some 48, op := Op.binOp BinOp.add 3 (Operand.tmp 40) (Operand.tmp 47) 3, type := 3, pos := "chain.go:313", after := #[{ on := 3, ground := Ground.data }, { on := 10, ground := Ground.data }], guard := none }) (v := ?_) rfl (by kernel_rfl) (by kernel_rfl) (by kernel_rfl) (fun _ _ _ h => h.elim) (Or.inl ⟨by rfl, ?hy⟩) (by assumption) ?_
                      case hy => (intro w9 hSw; (try dsimp only at hSw); go_simp; try with_reducible rfl)
                      try simp only [Act.put, List.setIfInBounds_toArray, List.set_cons_zero, List.set_cons_succ]
                      refine wpAnyH_take (i := 12) (oi := { dst := some 49, op := Op.indexAddr 22 (Operand.tmp 37) (Operand.tmp 38), type := 0, pos := "chain.go:313", after := #[{ on := 0, ground := Ground.data }, { on := 1, ground := Ground.data }, { on := 0, ground := Ground.phase }, { on := 1, ground := Ground.phase }, { on := 2, ground := Ground.phase }, { on := 3, ground := Ground.phase }, { on := 4, ground := Ground.phase }, { on := 5, ground := Ground.phase }, { on := 6, ground := Ground.phase }, { on := 7, ground := Ground.phase }, { on := 8, ground := Ground.phase }, { on := 9, ground := Ground.phase }, { on := 10, ground := Ground.phase }, { on := 11, ground := Ground.phase }], guard := none }) (v := ?_) rfl (by kernel_rfl) (by kernel_rfl) (by kernel_rfl) (fun _ _ _ h => h.elim) (Or.inl ⟨by rfl, ?hy⟩) (by assumption) ?_
                      case hy => (intro w9 hSw; (try dsimp only at hSw); go_simp; try with_reducible rfl)
                      try simp only [Act.put, List.setIfInBounds_toArray, List.set_cons_zero, List.set_cons_succ]
                      refine wpAnyH_ready (rs := [13]) (by kernel_rfl) (by simp) ?_
                      refine AllReadyH.cons (o := { dst := none, op := Op.store 3 (Operand.tmp 49) (Operand.tmp 48), type := 0, pos := "chain.go:313", after := #[{ on := 12, ground := Ground.data }, { on := 11, ground := Ground.data }, { on := 7, ground := Ground.chain }, { on := 0, ground := Ground.phase }, { on := 1, ground := Ground.phase }, { on := 2, ground := Ground.phase }, { on := 3, ground := Ground.phase }, { on := 4, ground := Ground.phase }, { on := 5, ground := Ground.phase }, { on := 6, ground := Ground.phase }, { on := 7, ground := Ground.phase }, { on := 8, ground := Ground.phase }, { on := 9, ground := Ground.phase }, { on := 10, ground := Ground.phase }, { on := 11, ground := Ground.phase }], guard := none }) rfl (fun K hK => ?_) ?_
                      · go_simp
                        refine hK.out _ _ trivial (fun hHeld => ?_)
                        clear hK K
                        try simp only [Act.put, List.setIfInBounds_toArray, List.set_cons_zero, List.set_cons_succ]
                        refine wpAnyH_done (by kernel_rfl) ?_ _
                        refine ⟨?_, HOT, HBT⟩
                        first
                          | rfl
                          | simp only [Act.put, List.setIfInBounds_toArray, List.set_cons_zero, List.set_cons_succ]
                      exact AllReadyH.nil
                    exact AllReadyH.nil
                  refine AllReadyH.cons (o := { dst := some 47, op := Op.load 3 (Operand.tmp 46), type := 3, pos := "chain.go:313", after := #[{ on := 9, ground := Ground.data }], guard := none }) rfl (fun K hK => ?_) ?_
                  · go_simp
                    refine hK.out _ _ trivial (fun hHeld => ?_)
                    clear hK K
                    try simp only [Act.put, List.setIfInBounds_toArray, List.set_cons_zero, List.set_cons_succ]
                    refine wpAnyH_ready (rs := [3]) (by kernel_rfl) (by simp) ?_
                    refine AllReadyH.cons (o := { dst := some 40, op := Op.load 3 (Operand.tmp 39), type := 3, pos := "chain.go:313", after := #[{ on := 2, ground := Ground.data }], guard := none }) rfl (fun K hK => ?_) ?_
                    · go_simp
                      refine hK.out _ _ trivial (fun hHeld => ?_)
                      clear hK K
                      try simp only [Act.put, List.setIfInBounds_toArray, List.set_cons_zero, List.set_cons_succ]
                      refine wpAnyH_take (i := 11) (oi := { dst := some 48, op := Op.binOp BinOp.add 3 (Operand.tmp 40) (Operand.tmp 47) 3, type := 3, pos := "chain.go:313", after := #[{ on := 3, ground := Ground.data }, { on := 10, ground := Ground.data }], guard := none }) (v := ?_) rfl (by kernel_rfl) (by kernel_rfl) (by kernel_rfl) (fun _ _ _ h => h.elim) (Or.inl ⟨by rfl, ?hy⟩) (by assumption) ?_
                      case hy => (intro w9 hSw; (try dsimp only at hSw); go_simp; try with_reducible rfl)
                      try simp only [Act.put, List.setIfInBounds_toArray, List.set_cons_zero, List.set_cons_succ]
                      refine wpAnyH_take (i := 12) (oi := { dst := some 49, op := Op.indexAddr 22 (Operand.tmp 37) (Operand.tmp 38), type := 0, pos := "chain.go:313", after := #[{ on := 0, ground := Ground.data }, { on := 1, ground := Ground.data }, { on := 0, ground := Ground.phase }, { on := 1, ground := Ground.phase }, { on := 2, ground := Ground.phase }, { on := 3, ground := Ground.phase }, { on := 4, ground := Ground.phase }, { on := 5, ground := Ground.phase }, { on := 6, ground := Ground.phase }, { on := 7, ground := Ground.phase }, { on := 8, ground := Ground.phase }, { on := 9, ground := Ground.phase }, { on := 10, ground := Ground.phase }, { on := 11, ground := Ground.phase }], guard := none }) (v := ?_) rfl (by kernel_rfl) (by kernel_rfl) (by kernel_rfl) (fun _ _ _ h => h.elim) (Or.inl ⟨by rfl, ?hy⟩) (by assumption) ?_
                      case hy => (intro w9 hSw; (try dsimp only at hSw); go_simp; try with_reducible rfl)
                      try simp only [Act.put, List.setIfInBounds_toArray, List.set_cons_zero, List.set_cons_succ]
                      refine wpAnyH_ready (rs := [13]) (by kernel_rfl) (by simp) ?_
                      refine AllReadyH.cons (o := { dst := none, op := Op.store 3 (Operand.tmp 49) (Operand.tmp 48), type := 0, pos := "chain.go:313", after := #[{ on := 12, ground := Ground.data }, { on := 11, ground := Ground.data }, { on := 7, ground := Ground.chain }, { on := 0, ground := Ground.phase }, { on := 1, ground := Ground.phase }, { on := 2, ground := Ground.phase }, { on := 3, ground := Ground.phase }, { on := 4, ground := Ground.phase }, { on := 5, ground := Ground.phase }, { on := 6, ground := Ground.phase }, { on := 7, ground := Ground.phase }, { on := 8, ground := Ground.phase }, { on := 9, ground := Ground.phase }, { on := 10, ground := Ground.phase }, { on := 11, ground := Ground.phase }], guard := none }) rfl (fun K hK => ?_) ?_
                      · go_simp
                        refine hK.out _ _ trivial (fun hHeld => ?_)
                        clear hK K
                        try simp only [Act.put, List.setIfInBounds_toArray, List.set_cons_zero, List.set_cons_succ]
                        refine wpAnyH_done (by kernel_rfl) ?_ _
                        refine ⟨?_, HOT, HBT⟩
                        first
                          | rfl
                          | simp only [Act.put, List.setIfInBounds_toArray, List.set_cons_zero, List.set_cons_succ]
                      exact AllReadyH.nil
                    exact AllReadyH.nil
                  exact AllReadyH.nil
                exact AllReadyH.nil
              rintro a' W ⟨rfl, hO, hB⟩
              simp only [Act.put, List.setIfInBounds_toArray, List.set_cons_zero, List.set_cons_succ]
              have HON : Hid (Own W b (pw n) (upd (tb g n (s + 1)) s (st n s + sumTo (goes g n s) (k + 1)))) := hO.out.congr (fun x hx => by
                rw [HT.out]
                by_cases e : x = s
                · subst e; rw [upd_same, upd_same]
                · rw [upd_other _ _ _ _ e, upd_other _ _ _ _ e, upd_other _ _ _ _ e])
              clear hO
              go_wp2_with fail
              go_roundw
              case rel => exact ⟨k + 1, by omega, by go_num, HON, hB⟩
              case measure => simp [intOf]; omega
          · have hkn2 : k = n := by omega
            have hki : (n : Int) ≤ (k : Int) := by omega
            have HO2 : Hid (Own wr b (pw n) (tb g n s)) := hO.out.congr (fun x _ => by rw [hkn2]; exact HEND.out x)
            clear hO hkn2 hH d1
            go_wp2_with fail
            go_roundw
            case rel => exact ⟨s, by omega, by go_num, HO2, hB⟩
            case measure => simp [intOf] <;> omega
      · have hq : ((s : Int) == ((pw n : Nat) : Int) - 1) = false := by simp; omega
        have HO1 : Hid (Own wr b (pw n) (upd (tb g n (s + 1)) s (st n s + sumTo (goes g n s) 0))) := hO.out.congr (fun x hx => by
          have e : st n s + sumTo (goes g n s) 0 = 0 := by simp [st, hse, sumTo]
          rw [e]; exact tb_low)
        have HB1 := hB
        go_wp2_with (go_at_call 23; refine (bit_any n _ (by omega)).mono ?_; rintro e w' ⟨rfl, rfl⟩)
        clear hO hB d0
        go_loopw [5] (fun x wx => ∃ k : Nat, k ≤ n ∧ x = .int .i64 k ∧ Hid (Own wx b (pw n) (upd (tb g n (s + 1)) s (st n s + sumTo (goes g n s) k))) ∧ Hid (Below W0.heap.size W0 wx)) (fun x _ => n - (intOf x).toNat)
        case atStart => exact ⟨0, Nat.zero_le _, rfl, HO1, HB1⟩
        case round =>
          clear HO1 HB1
          obtain ⟨k, hkk, rfl, hO, hB⟩ := hrel
          have hH := LH.out wr hB.out
          have d0 := hH.c0
          have d1 := hH.c1
          by_cases hkn : k < n
          · have hki : (k : Int) < (n : Int) := by omega
            have hsi : (s : Int) < ((pw n : Nat) : Int) := by omega
            cases hmy : may g s k
            · have HS : Hid (sumTo (goes g n s) (k + 1) = sumTo (goes g n s) k) := by
                have e : sumTo (goes g n s) (k + 1) = sumTo (goes g n s) k + goes g n s k := rfl
                have e2 : sumTo (goes g n s) (k + 1) = sumTo (goes g n s) k := by rw [e, goes_no hmy]; rfl
                exact e2
              go_wp2_with fail
              refine (may_as n a cap g s k false _ hmy HG.out (by omega) hH.row hkn hn).mono ?_
              rintro e w2 ⟨rfl, hb2⟩
              have HO2 : Hid (Own w2 b (pw n) (upd (tb g n (s + 1)) s (st n s + sumTo (goes g n s) (k + 1)))) := by rw [HS.out]; exact hO.out.keep hb2 (hO.out.lt hpos)
              have HB2 : Hid (Below W0.heap.size W0 w2) := Below.then hB.out hb2
              clear hO hB hb2 hH d0 d1
              go_wp2_with fail
              go_roundw
              case rel => exact ⟨k + 1, by omega, by go_num, HO2, HB2⟩
              case measure => simp [intOf]; omega
            · go_wp2_with fail
              refine (may_as n a cap g s k true _ hmy HG.out (by omega) hH.row hkn hn).mono ?_
              rintro e w2 ⟨rfl, hb2⟩
              have HO2 : Hid (Own w2 b (pw n) (upd (tb g n (s + 1)) s (st n s + sumTo (goes g n s) k))) := hO.out.keep hb2 (hO.out.lt hpos)
              have HB2 : Hid (Below W0.heap.size W0 w2) := Below.then hB.out hb2
              clear hO hB hb2 hH d0 d1
              have hlt2 := add_lt hsp hkn (may_out hmy)
              have hpk := pw_pos k
              have HGE : Hid (goes g n s k = ways g n (s + pw k)) := goes_yes hmy
              have HSB : Hid (sumTo (goes g n s) k + goes g n s k ≤ 100000000000) := sum_small (u := g) hn hsp hkn
              have HST : Hid (sumTo (goes g n s) (k + 1) = sumTo (goes g n s) k + goes g n s k) := rfl
              have hnew := (HO2.out (s + pw k) hlt2).1
              rw [upd_other _ _ _ _ (by omega)] at hnew
              have e2 : tb g n (s + 1) (s + pw k) = goes g n s k := by rw [HGE.out]; simp [tb]; omega
              rw [e2] at hnew
              have hold := (HO2.out s hsp).1
              rw [upd_same] at hold
              have hfro := (HO2.out s hsp).2
              have HTT : Hid (st n s + sumTo (goes g n s) (k + 1) = st n s + sumTo (goes g n s) k + goes g n s k) := by rw [HST.out]; exact (Nat.add_assoc _ _ _).symm
              clear e2
              have hsb := HSB.out
              generalize hEE : st n s + sumTo (goes g n s) k = E at *
              generalize hGG : goes g n s k = G at *
              generalize hTT : st n s + sumTo (goes g n s) (k + 1) = T at *
              have hsum : IntKind.i64.wrap ((E : Int) + (G : Int)) = ((T : Nat) : Int) := by
                rw [HTT.out, Int.natCast_add]
                exact wrap_i64_small _ (by omega) (by omega)
              have hix : IntKind.i64.wrap ((s : Int) + ((pw k : Nat) : Int)) = ((s + pw k : Nat) : Int) := by
                rw [Int.natCast_add]
                exact wrap_i64_small _ (by omega) (by omega)
              generalize hQQ : s + pw k = Q at *
              have hQi : (Q : Int) < ((pw n : Nat) : Int) := by omega
              have HT : Hid (st n s + sumTo (goes g n s) (k + 1) = T) := hTT
              have HOT : Hid (Own (w2.drew.setCell ⟨b, s, none⟩ (.int .i64 (T : Nat))) b (pw n) (upd (upd (tb g n (s + 1)) s E) s T)) := (show Own w2.drew b (pw n) _ from HO2.out).set s T hsp
              have HBT : Hid (Below W0.heap.size W0 (w2.drew.setCell ⟨b, s, none⟩ (.int .i64 (T : Nat)))) := Below.setCell (p := ⟨b, s, none⟩) HB2.out.drew (by rw [HBW.out]; exact Nat.le_refl _) _
              have hold1 : w2.drew.cell? ⟨b, s, none⟩ = some (.int .i64 (E : Nat)) := hold
              have hnew1 : w2.drew.cell? ⟨b, Q, none⟩ = some (.int .i64 (G : Nat)) := hnew
              have hfro1 : w2.drew.frozen? ⟨b, s, none⟩ = false := hfro
              clear hEE hGG hTT hQQ hsb HSB HST HGE HTT hold hnew hfro HO2 HB2
              go_wp2_with fail
              refine region_by (fun a0 a' W => a' = ((((((((((((a0.put (some 37) (.slice (some ⟨b, 0, none⟩) (pw n) (pw n))).put (some 38) (.int .i64 (s : Nat))).put (some 39) (.pointer (some ⟨b, s, none⟩))).put (some 40) (.int .i64 (E : Nat))).put (some 41) (.slice (some ⟨b, 0, none⟩) (pw n) (pw n))).put (some 42) (.int .i64 (s : Nat))).put (some 43) (.int .i64 (k : Nat))).put (some 44) (.int .i64 (pw k : Nat))).put (some 45) (.int .i64 (Q : Nat))).put (some 46) (.pointer (some ⟨b, Q, none⟩))).put (some 47) (.int .i64 (G : Nat))).put (some 48) (.int .i64 (T : Nat))).put (some 49) (.pointer (some ⟨b, s, none⟩)) ∧ Hid (Own W b (pw n) (upd (upd (tb g n (s + 1)) s E) s T)) ∧ Hid (Below W0.heap.size W0 W)) ?_ ?_
              · refine wp_region_held_drew (S := (fun _ => True)) (by kernel_rfl) (trivial) (fun hHeld => ?_)
                refine wpAnyH_take (i := 0) (oi := { dst := some 37, op := Op.move (Operand.tmp 3), type := 22, pos := "chain.go:313", after := #[], guard := none }) (v := ?_) rfl (by kernel_rfl) (by kernel_rfl) (by kernel_rfl) (fun _ _ _ h => h.elim) (Or.inl ⟨by rfl, ?hy⟩) (by assumption) ?_
                case hy => (intro w9 hSw; (try dsimp only at hSw); go_simp; try with_reducible rfl)
                try simp only [Act.put, List.setIfInBounds_toArray, List.set_cons_zero, List.set_cons_succ]
                refine wpAnyH_take (i := 1) (oi := { dst := some 38, op := Op.move (Operand.tmp 4), type := 3, pos := "chain.go:313", after := #[], guard := none }) (v := ?_) rfl (by kernel_rfl) (by kernel_rfl) (by kernel_rfl) (fun _ _ _ h => h.elim) (Or.inl ⟨by rfl, ?hy⟩) (by assumption) ?_
                case hy => (intro w9 hSw; (try dsimp only at hSw); go_simp; try with_reducible rfl)
                try simp only [Act.put, List.setIfInBounds_toArray, List.set_cons_zero, List.set_cons_succ]
                refine wpAnyH_take (i := 2) (oi := { dst := some 39, op := Op.indexAddr 22 (Operand.tmp 37) (Operand.tmp 38), type := 0, pos := "chain.go:313", after := #[{ on := 0, ground := Ground.data }, { on := 1, ground := Ground.data }], guard := none }) (v := ?_) rfl (by kernel_rfl) (by kernel_rfl) (by kernel_rfl) (fun _ _ _ h => h.elim) (Or.inl ⟨by rfl, ?hy⟩) (by assumption) ?_
                case hy => (intro w9 hSw; (try dsimp only at hSw); go_simp; try with_reducible rfl)
                try simp only [Act.put, List.setIfInBounds_toArray, List.set_cons_zero, List.set_cons_succ]
                refine wpAnyH_take (i := 4) (oi := { dst := some 41, op := Op.move (Operand.tmp 3), type := 22, pos := "chain.go:313", after := #[], guard := none }) (v := ?_) rfl (by kernel_rfl) (by kernel_rfl) (by kernel_rfl) (fun _ _ _ h => h.elim) (Or.inl ⟨by rfl, ?hy⟩) (by assumption) ?_
                case hy => (intro w9 hSw; (try dsimp only at hSw); go_simp; try with_reducible rfl)
                try simp only [Act.put, List.setIfInBounds_toArray, List.set_cons_zero, List.set_cons_succ]
                refine wpAnyH_take (i := 5) (oi := { dst := some 42, op := Op.move (Operand.tmp 4), type := 3, pos := "chain.go:313", after := #[], guard := none }) (v := ?_) rfl (by kernel_rfl) (by kernel_rfl) (by kernel_rfl) (fun _ _ _ h => h.elim) (Or.inl ⟨by rfl, ?hy⟩) (by assumption) ?_
                case hy => (intro w9 hSw; (try dsimp only at hSw); go_simp; try with_reducible rfl)
                try simp only [Act.put, List.setIfInBounds_toArray, List.set_cons_zero, List.set_cons_succ]
                refine wpAnyH_take (i := 6) (oi := { dst := some 43, op := Op.move (Operand.tmp 5), type := 3, pos := "chain.go:313", after := #[], guard := none }) (v := ?_) rfl (by kernel_rfl) (by kernel_rfl) (by kernel_rfl) (fun _ _ _ h => h.elim) (Or.inl ⟨by rfl, ?hy⟩) (by assumption) ?_
                case hy => (intro w9 hSw; (try dsimp only at hSw); go_simp; try with_reducible rfl)
                try simp only [Act.put, List.setIfInBounds_toArray, List.set_cons_zero, List.set_cons_succ]
                generalize w2.drew = W1 at *
                refine wpAnyH_ready (rs := [3, 7]) (by kernel_rfl) (by simp) ?_
                refine AllReadyH.cons (o := { dst := some 40, op := Op.load 3 (Operand.tmp 39), type := 3, pos := "chain.go:313", after := #[{ on := 2, ground := Ground.data }], guard := none }) rfl (fun K hK => ?_) ?_
                · go_simp
                  refine hK.out _ _ trivial (fun hHeld => ?_)
                  clear hK K
                  try simp only [Act.put, List.setIfInBounds_toArray, List.set_cons_zero, List.set_cons_succ]
                  refine wpAnyH_ready (rs := [7]) (by kernel_rfl) (by simp) ?_
                  refine AllReadyH.cons (o := { dst := some 44, op := Op.call { callee := Callee.value (Operand.func 23), args := #[Operand.tmp 43], argTypes := #[3] }, type := 3, pos := "chain.go:313", after := #[{ on := 6, ground := Ground.data }], guard := none }) rfl (fun K hK => ?_) ?_
                  · go_simp
                    refine (bit_any k _ (by omega)).mono ?_
                    rintro e w' ⟨rfl, rfl⟩
                    refine hK.out _ _ trivial (fun hHeld => ?_)
                    clear hK K
                    try simp only [Act.put, List.setIfInBounds_toArray, List.set_cons_zero, List.set_cons_succ]
                    refine wpAnyH_take (i := 8) (oi := { dst := some 45, op := Op.binOp BinOp.add 3 (Operand.tmp 42) (Operand.tmp 44) 3, type := 3, pos := "chain.go:313", after := #[{ on := 5, ground := Ground.data }, { on := 7, ground := Ground.data }], guard := none }) (v := ?_) rfl (by kernel_rfl) (by kernel_rfl) (by kernel_rfl) (fun _ _ _ h => h.elim) (Or.inl ⟨by rfl, ?hy⟩) (by assumption) ?_
                    case hy => (intro w9 hSw; (try dsimp only at hSw); go_simp; try with_reducible rfl)
                    try simp only [Act.put, List.setIfInBounds_toArray, List.set_cons_zero, List.set_cons_succ]
                    refine wpAnyH_take (i := 9) (oi := { dst := some 46, op := Op.indexAddr 22 (Operand.tmp 41) (Operand.tmp 45), type := 0, pos := "chain.go:313", after := #[{ on := 4, ground := Ground.data }, { on := 8, ground := Ground.data }], guard := none }) (v := ?_) rfl (by kernel_rfl) (by kernel_rfl) (by kernel_rfl) (fun _ _ _ h => h.elim) (Or.inl ⟨by rfl, ?hy⟩) (by assumption) ?_
                    case hy => (intro w9 hSw; (try dsimp only at hSw); go_simp; try with_reducible rfl)
                    try simp only [Act.put, List.setIfInBounds_toArray, List.set_cons_zero, List.set_cons_succ]
                    refine wpAnyH_ready (rs := [10]) (by kernel_rfl) (by simp) ?_
                    refine AllReadyH.cons (o := { dst := some 47, op := Op.load 3 (Operand.tmp 46), type := 3, pos := "chain.go:313", after := #[{ on := 9, ground := Ground.data }], guard := none }) rfl (fun K hK => ?_) ?_
                    · go_simp
                      refine hK.out _ _ trivial (fun hHeld => ?_)
                      clear hK K
                      try simp only [Act.put, List.setIfInBounds_toArray, List.set_cons_zero, List.set_cons_succ]
                      refine wpAnyH_take (i := 11) (oi := { dst := some 48, op := Op.binOp BinOp.add 3 (Operand.tmp 40) (Operand.tmp 47) 3, type := 3, pos := "chain.go:313", after := #[{ on := 3, ground := Ground.data }, { on := 10, ground := Ground.data }], guard := none }) (v := ?_) rfl (by kernel_rfl) (by kernel_rfl) (by kernel_rfl) (fun _ _ _ h => h.elim) (Or.inl ⟨by rfl, ?hy⟩) (by assumption) ?_
                      case hy => (intro w9 hSw; (try dsimp only at hSw); go_simp; try with_reducible rfl)
                      try simp only [Act.put, List.setIfInBounds_toArray, List.set_cons_zero, List.set_cons_succ]
                      refine wpAnyH_take (i := 12) (oi := { dst := some 49, op := Op.indexAddr 22 (Operand.tmp 37) (Operand.tmp 38), type := 0, pos := "chain.go:313", after := #[{ on := 0, ground := Ground.data }, { on := 1, ground := Ground.data }, { on := 0, ground := Ground.phase }, { on := 1, ground := Ground.phase }, { on := 2, ground := Ground.phase }, { on := 3, ground := Ground.phase }, { on := 4, ground := Ground.phase }, { on := 5, ground := Ground.phase }, { on := 6, ground := Ground.phase }, { on := 7, ground := Ground.phase }, { on := 8, ground := Ground.phase }, { on := 9, ground := Ground.phase }, { on := 10, ground := Ground.phase }, { on := 11, ground := Ground.phase }], guard := none }) (v := ?_) rfl (by kernel_rfl) (by kernel_rfl) (by kernel_rfl) (fun _ _ _ h => h.elim) (Or.inl ⟨by rfl, ?hy⟩) (by assumption) ?_
                      case hy => (intro w9 hSw; (try dsimp only at hSw); go_simp; try with_reducible rfl)
                      try simp only [Act.put, List.setIfInBounds_toArray, List.set_cons_zero, List.set_cons_succ]
                      refine wpAnyH_ready (rs := [13]) (by kernel_rfl) (by simp) ?_
                      refine AllReadyH.cons (o := { dst := none, op := Op.store 3 (Operand.tmp 49) (Operand.tmp 48), type := 0, pos := "chain.go:313", after := #[{ on := 12, ground := Ground.data }, { on := 11, ground := Ground.data }, { on := 7, ground := Ground.chain }, { on := 0, ground := Ground.phase }, { on := 1, ground := Ground.phase }, { on := 2, ground := Ground.phase }, { on := 3, ground := Ground.phase }, { on := 4, ground := Ground.phase }, { on := 5, ground := Ground.phase }, { on := 6, ground := Ground.phase }, { on := 7, ground := Ground.phase }, { on := 8, ground := Ground.phase }, { on := 9, ground := Ground.phase }, { on := 10, ground := Ground.phase }, { on := 11, ground := Ground.phase }], guard := none }) rfl (fun K hK => ?_) ?_
                      · go_simp
                        refine hK.out _ _ trivial (fun hHeld => ?_)
                        clear hK K
                        try simp only [Act.put, List.setIfInBounds_toArray, List.set_cons_zero, List.set_cons_succ]
                        refine wpAnyH_done (by kernel_rfl) ?_ _
                        refine ⟨?_, HOT, HBT⟩
                        first
                          | rfl
                          | simp only [Act.put, List.setIfInBounds_toArray, List.set_cons_zero, List.set_cons_succ]
                      exact AllReadyH.nil
                    exact AllReadyH.nil
                  exact AllReadyH.nil
                refine AllReadyH.cons (o := { dst := some 44, op := Op.call { callee := Callee.value (Operand.func 23), args := #[Operand.tmp 43], argTypes := #[3] }, type := 3, pos := "chain.go:313", after := #[{ on := 6, ground := Ground.data }], guard := none }) rfl (fun K hK => ?_) ?_
                · go_simp
                  refine (bit_any k _ (by omega)).mono ?_
                  rintro e w' ⟨rfl, rfl⟩
                  refine hK.out _ _ trivial (fun hHeld => ?_)
                  clear hK K
                  try simp only [Act.put, List.setIfInBounds_toArray, List.set_cons_zero, List.set_cons_succ]
                  refine wpAnyH_take (i := 8) (oi := { dst := some 45, op := Op.binOp BinOp.add 3 (Operand.tmp 42) (Operand.tmp 44) 3, type := 3, pos := "chain.go:313", after := #[{ on := 5, ground := Ground.data }, { on := 7, ground := Ground.data }], guard := none }) (v := ?_) rfl (by kernel_rfl) (by kernel_rfl) (by kernel_rfl) (fun _ _ _ h => h.elim) (Or.inl ⟨by rfl, ?hy⟩) (by assumption) ?_
                  case hy => (intro w9 hSw; (try dsimp only at hSw); go_simp; try with_reducible rfl)
                  try simp only [Act.put, List.setIfInBounds_toArray, List.set_cons_zero, List.set_cons_succ]
                  refine wpAnyH_take (i := 9) (oi := { dst := some 46, op := Op.indexAddr 22 (Operand.tmp 41) (Operand.tmp 45), type := 0, pos := "chain.go:313", after := #[{ on := 4, ground := Ground.data }, { on := 8, ground := Ground.data }], guard := none }) (v := ?_) rfl (by kernel_rfl) (by kernel_rfl) (by kernel_rfl) (fun _ _ _ h => h.elim) (Or.inl ⟨by rfl, ?hy⟩) (by assumption) ?_
                  case hy => (intro w9 hSw; (try dsimp only at hSw); go_simp; try with_reducible rfl)
                  try simp only [Act.put, List.setIfInBounds_toArray, List.set_cons_zero, List.set_cons_succ]
                  refine wpAnyH_ready (rs := [3, 10]) (by kernel_rfl) (by simp) ?_
                  refine AllReadyH.cons (o := { dst := some 40, op := Op.load 3 (Operand.tmp 39), type := 3, pos := "chain.go:313", after := #[{ on := 2, ground := Ground.data }], guard := none }) rfl (fun K hK => ?_) ?_
                  · go_simp
                    refine hK.out _ _ trivial (fun hHeld => ?_)
                    clear hK K
                    try simp only [Act.put, List.setIfInBounds_toArray, List.set_cons_zero, List.set_cons_succ]
                    refine wpAnyH_ready (rs := [10]) (by kernel_rfl) (by simp) ?_
                    refine AllReadyH.cons (o := { dst := some 47, op := Op.load 3 (Operand.tmp 46), type := 3, pos := "chain.go:313", after := #[{ on := 9, ground := Ground.data }], guard := none }) rfl (fun K hK => ?_) ?_
                    · go_simp
                      refine hK.out _ _ trivial (fun hHeld => ?_)
                      clear hK K
                      try simp only [Act.put, List.setIfInBounds_toArray, List.set_cons_zero, List.set_cons_succ]
                      refine wpAnyH_take (i := 11) (oi := { dst := some 48, op := Op.binOp BinOp.add 3 (Operand.tmp 40) (Operand.tmp 47) 3, type := 3, pos := "chain.go:313", after := #[{ on := 3, ground := Ground.data }, { on := 10, ground := Ground.data }], guard := none }) (v := ?_) rfl (by kernel_rfl) (by kernel_rfl) (by kernel_rfl) (fun _ _ _ h => h.elim) (Or.inl ⟨by rfl, ?hy⟩) (by assumption) ?_
                      case hy => (intro w9 hSw; (try dsimp only at hSw); go_simp; try with_reducible rfl)
                      try simp only [Act.put, List.setIfInBounds_toArray, List.set_cons_zero, List.set_cons_succ]
                      refine wpAnyH_take (i := 12) (oi := { dst := some 49, op := Op.indexAddr 22 (Operand.tmp 37) (Operand.tmp 38), type := 0, pos := "chain.go:313", after := #[{ on := 0, ground := Ground.data }, { on := 1, ground := Ground.data }, { on := 0, ground := Ground.phase }, { on := 1, ground := Ground.phase }, { on := 2, ground := Ground.phase }, { on := 3, ground := Ground.phase }, { on := 4, ground := Ground.phase }, { on := 5, ground := Ground.phase }, { on := 6, ground := Ground.phase }, { on := 7, ground := Ground.phase }, { on := 8, ground := Ground.phase }, { on := 9, ground := Ground.phase }, { on := 10, ground := Ground.phase }, { on := 11, ground := Ground.phase }], guard := none }) (v := ?_) rfl (by kernel_rfl) (by kernel_rfl) (by kernel_rfl) (fun _ _ _ h => h.elim) (Or.inl ⟨by rfl, ?hy⟩) (by assumption) ?_
                      case hy => (intro w9 hSw; (try dsimp only at hSw); go_simp; try with_reducible rfl)
                      try simp only [Act.put, List.setIfInBounds_toArray, List.set_cons_zero, List.set_cons_succ]
                      refine wpAnyH_ready (rs := [13]) (by kernel_rfl) (by simp) ?_
                      refine AllReadyH.cons (o := { dst := none, op := Op.store 3 (Operand.tmp 49) (Operand.tmp 48), type := 0, pos := "chain.go:313", after := #[{ on := 12, ground := Ground.data }, { on := 11, ground := Ground.data }, { on := 7, ground := Ground.chain }, { on := 0, ground := Ground.phase }, { on := 1, ground := Ground.phase }, { on := 2, ground := Ground.phase }, { on := 3, ground := Ground.phase }, { on := 4, ground := Ground.phase }, { on := 5, ground := Ground.phase }, { on := 6, ground := Ground.phase }, { on := 7, ground := Ground.phase }, { on := 8, ground := Ground.phase }, { on := 9, ground := Ground.phase }, { on := 10, ground := Ground.phase }, { on := 11, ground := Ground.phase }], guard := none }) rfl (fun K hK => ?_) ?_
                      · go_simp
                        refine hK.out _ _ trivial (fun hHeld => ?_)
                        clear hK K
                        try simp only [Act.put, List.setIfInBounds_toArray, List.set_cons_zero, List.set_cons_succ]
                        refine wpAnyH_done (by kernel_rfl) ?_ _
                        refine ⟨?_, HOT, HBT⟩
                        first
                          | rfl
                          | simp only [Act.put, List.setIfInBounds_toArray, List.set_cons_zero, List.set_cons_succ]
                      exact AllReadyH.nil
                    exact AllReadyH.nil
                  refine AllReadyH.cons (o := { dst := some 47, op := Op.load 3 (Operand.tmp 46), type := 3, pos := "chain.go:313", after := #[{ on := 9, ground := Ground.data }], guard := none }) rfl (fun K hK => ?_) ?_
                  · go_simp
                    refine hK.out _ _ trivial (fun hHeld => ?_)
                    clear hK K
                    try simp only [Act.put, List.setIfInBounds_toArray, List.set_cons_zero, List.set_cons_succ]
                    refine wpAnyH_ready (rs := [3]) (by kernel_rfl) (by simp) ?_
                    refine AllReadyH.cons (o := { dst := some 40, op := Op.load 3 (Operand.tmp 39), type := 3, pos := "chain.go:313", after := #[{ on := 2, ground := Ground.data }], guard := none }) rfl (fun K hK => ?_) ?_
                    · go_simp
                      refine hK.out _ _ trivial (fun hHeld => ?_)
                      clear hK K
                      try simp only [Act.put, List.setIfInBounds_toArray, List.set_cons_zero, List.set_cons_succ]
                      refine wpAnyH_take (i := 11) (oi := { dst := some 48, op := Op.binOp BinOp.add 3 (Operand.tmp 40) (Operand.tmp 47) 3, type := 3, pos := "chain.go:313", after := #[{ on := 3, ground := Ground.data }, { on := 10, ground := Ground.data }], guard := none }) (v := ?_) rfl (by kernel_rfl) (by kernel_rfl) (by kernel_rfl) (fun _ _ _ h => h.elim) (Or.inl ⟨by rfl, ?hy⟩) (by assumption) ?_
                      case hy => (intro w9 hSw; (try dsimp only at hSw); go_simp; try with_reducible rfl)
                      try simp only [Act.put, List.setIfInBounds_toArray, List.set_cons_zero, List.set_cons_succ]
                      refine wpAnyH_take (i := 12) (oi := { dst := some 49, op := Op.indexAddr 22 (Operand.tmp 37) (Operand.tmp 38), type := 0, pos := "chain.go:313", after := #[{ on := 0, ground := Ground.data }, { on := 1, ground := Ground.data }, { on := 0, ground := Ground.phase }, { on := 1, ground := Ground.phase }, { on := 2, ground := Ground.phase }, { on := 3, ground := Ground.phase }, { on := 4, ground := Ground.phase }, { on := 5, ground := Ground.phase }, { on := 6, ground := Ground.phase }, { on := 7, ground := Ground.phase }, { on := 8, ground := Ground.phase }, { on := 9, ground := Ground.phase }, { on := 10, ground := Ground.phase }, { on := 11, ground := Ground.phase }], guard := none }) (v := ?_) rfl (by kernel_rfl) (by kernel_rfl) (by kernel_rfl) (fun _ _ _ h => h.elim) (Or.inl ⟨by rfl, ?hy⟩) (by assumption) ?_
                      case hy => (intro w9 hSw; (try dsimp only at hSw); go_simp; try with_reducible rfl)
                      try simp only [Act.put, List.setIfInBounds_toArray, List.set_cons_zero, List.set_cons_succ]
                      refine wpAnyH_ready (rs := [13]) (by kernel_rfl) (by simp) ?_
                      refine AllReadyH.cons (o := { dst := none, op := Op.store 3 (Operand.tmp 49) (Operand.tmp 48), type := 0, pos := "chain.go:313", after := #[{ on := 12, ground := Ground.data }, { on := 11, ground := Ground.data }, { on := 7, ground := Ground.chain }, { on := 0, ground := Ground.phase }, { on := 1, ground := Ground.phase }, { on := 2, ground := Ground.phase }, { on := 3, ground := Ground.phase }, { on := 4, ground := Ground.phase }, { on := 5, ground := Ground.phase }, { on := 6, ground := Ground.phase }, { on := 7, ground := Ground.phase }, { on := 8, ground := Ground.phase }, { on := 9, ground := Ground.phase }, { on := 10, ground := Ground.phase }, { on := 11, ground := Ground.phase }], guard := none }) rfl (fun K hK => ?_) ?_
                      · go_simp
                        refine hK.out _ _ trivial (fun hHeld => ?_)
                        clear hK K
                        try simp only [Act.put, List.setIfInBounds_toArray, List.set_cons_zero, List.set_cons_succ]
                        refine wpAnyH_done (by kernel_rfl) ?_ _
                        refine ⟨?_, HOT, HBT⟩
                        first
                          | rfl
                          | simp only [Act.put, List.setIfInBounds_toArray, List.set_cons_zero, List.set_cons_succ]
                      exact AllReadyH.nil
                    exact AllReadyH.nil
                  exact AllReadyH.nil
                exact AllReadyH.nil
              rintro a' W ⟨rfl, hO, hB⟩
              simp only [Act.put, List.setIfInBounds_toArray, List.set_cons_zero, List.set_cons_succ]
              have HON : Hid (Own W b (pw n) (upd (tb g n (s + 1)) s (st n s + sumTo (goes g n s) (k + 1)))) := hO.out.congr (fun x hx => by
                rw [HT.out]
                by_cases e : x = s
                · subst e; rw [upd_same, upd_same]
                · rw [upd_other _ _ _ _ e, upd_other _ _ _ _ e, upd_other _ _ _ _ e])
              clear hO
              go_wp2_with fail
              go_roundw
              case rel => exact ⟨k + 1, by omega, by go_num, HON, hB⟩
              case measure => simp [intOf]; omega
          · have hkn2 : k = n := by omega
            have hki : (n : Int) ≤ (k : Int) := by omega
            have HO2 : Hid (Own wr b (pw n) (tb g n s)) := hO.out.congr (fun x _ => by rw [hkn2]; exact HEND.out x)
            clear hO hkn2 hH d1
            go_wp2_with fail
            go_roundw
            case rel => exact ⟨s, by omega, by go_num, HO2, hB⟩
            case measure => simp [intOf] <;> omega
end Go.Proofs.Ytipgojoiakbaiaa
