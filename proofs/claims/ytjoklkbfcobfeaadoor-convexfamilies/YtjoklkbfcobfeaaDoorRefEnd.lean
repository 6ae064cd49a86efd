/-
  What the reference's EndsFamily answers, and hasselaw.familyIs. Conditions: as each theorem says.
-/
import Derived.Test.YtjoklkbfcobfeaaDoorEndP
import Derived.Test.YtjoklkbfcobfeaaDoorSameN
namespace Go.Proofs.YtjoklkbfcobfeaaDoor
open Go.RowKit

set_option maxHeartbeats 4000000 in
theorem endsFamily_any (a : Option Addr) (len cap : Nat) (g : Nat → Nat) (w : World) (h10 : len ≤ 10) (hg : ∀ k, k < len → g k < 1024) (hr : Row w a len (fun k => (g k : Nat))) :
    Calls Tryd.prog 19 #[.agg #[.int .i64 (len : Int), .slice a len cap]] w fun e w' => (∃ v, e = .returned v ∧ NSl w' v (ends g len)) ∧ Below w.heap.size w w' := by
  have hpn := pw_le len h10
  have hpp := pw_pos len
  obtain ⟨W0, HW0⟩ : ∃ W0, Hid (W0 = w.alloc (.cells #[.int .i64 (len : Nat), .slice a len cap] 33)) := ⟨_, rfl⟩
  have HB0 : Hid (Below w.heap.size w W0) := by rw [HW0.out]; exact (Below.refl _ _).alloc (Nat.le_refl _) _
  have K0 : Held W0 w.heap.size len a len cap (fun k => (g k : Nat)) := by rw [HW0.out]; exact Held.box hr
  have HID := (show Hid (Calls Tryd.prog 18 #[.agg #[.int .i64 (len : Int), .slice a len cap]] W0 _) from refIdeals_any a len cap g W0 h10 hg K0.row)
  have k0 := K0.c0
  have k1 := K0.c1
  obtain ⟨i0, hi, hz0, hz1, hz2⟩ := info_parts Tryd.info4
  obtain ⟨i3, hi3, hy0, hy1, hy2⟩ := info_parts Tryd.info3
  clear hr hg
  go_enter Tryd.func19, Tryd.ntmps19
  go_wp2_with fail
  rw [← HW0.out]
  refine HID.out.mono ?_
  rintro e W1 ⟨⟨v, rfl, ⟨a1, cap1, rfl, hr1⟩⟩, hb1⟩
  have HB1 : Hid (Below w.heap.size w W1) := Below.then HB0.out hb1
  have K1 := K0.step hb1
  have hc0 : ∀ w', Below W1.heap.size W1 w' → w'.cell? ⟨w.heap.size, 0, none⟩ = some (.int .i64 (len : Nat)) := fun w' h => (K1.step h).c0
  have HLT : Hid (∀ k, k < (idls g len).length → nth (idls g len) k < pw len) := fun k hk => idls_lt hk
  have HLL := idls_len g len h10
  have HFI : Hid (fil (enB len (idls g len) (idls g len).length 0) (pw len) = ends g len) := rfl
  have HR1 : Hid (Row W1 a1 (idls g len).length (fun k => (nth (idls g len) k : Nat))) := hr1
  obtain ⟨B, HB⟩ : ∃ B, Hid (B = W1.heap.size) := ⟨_, rfl⟩
  obtain ⟨L, HLE⟩ : ∃ L, Hid (L = idls g len) := ⟨_, rfl⟩
  rw [← HLE.out] at HLT HLL HFI HR1 ⊢
  obtain ⟨m, HM⟩ : ∃ m, Hid (m = L.length) := ⟨_, rfl⟩
  have HSTEP : Hid (∀ k j, enB len L k (j + 1) = updB (enB len L k j) (enx len L k j)) := fun k j => enB_step _ _ _ _
  have HNEXT : Hid (∀ k, enB len L k m = enB len L (k + 1) 0) := fun k => by rw [HM.out]; exact enB_next _ _ _
  rw [← HM.out] at HLT HLL HFI HR1 ⊢
  clear hr1 K1 hb1 k0 k1 HID
  have k0 := hc0 W1 (Below.refl _ _)
  go_wp2_with fail
  refine (bit_any len _ (by omega)).mono ?_
  rintro e w' ⟨rfl, rfl⟩
  go_wp2_with (at_make; refine wpList_make_full _ rfl _ _ 53 rfl W1.heap.size 4 i0 (.bool false) 1 Tryd.underlying53 hi hz0 hz1 .i64 .i64 _ _ (pw len) rfl rfl rfl rfl (by rw [hz2]; omega) (by unfold maxLen; omega) (Nat.le_refl _) ?_; intro w2 hown2 hgrow2)
  have HB2 : Hid (Below W1.heap.size W1 w2) := (Below.refl _ _).grown hgrow2 (Nat.le_refl _) (by simp)
  have HO2 : Hid (BOwn w2 B (pw len) (enB len L 0 0)) := by rw [HB.out]; exact bools_made hown2
  rw [← HB.out]
  clear hown2 hgrow2 k0
  go_wp2_with fail
  go_loopw [5] (fun i wx => ∃ k : Nat, k ≤ m ∧ i = .int .i64 k ∧ Hid (BOwn wx B (pw len) (enB len L k 0)) ∧ Hid (Below W1.heap.size W1 wx)) (fun i _ => m - (intOf i).toNat)
  case atStart => exact ⟨0, Nat.zero_le _, rfl, HO2, HB2⟩
  case round =>
    clear HO2 HB2
    obtain ⟨k, hk, rfl, HO, HBx⟩ := hrel
    by_cases hlt : k < m
    · have hlt' : (k : Int) < (m : Int) := by omega
      go_wp2_with fail
      go_loopw [6] (fun i wy => ∃ j : Nat, j ≤ m ∧ i = .int .i64 j ∧ Hid (BOwn wy B (pw len) (enB len L k j)) ∧ Hid (Below W1.heap.size W1 wy)) (fun i _ => m - (intOf i).toNat)
      case atStart => exact ⟨0, Nat.zero_le _, rfl, HO, HBx⟩
      case round =>
        clear HO HBx
        obtain ⟨j, hj, rfl, HO, HBx⟩ := hrel
        by_cases hlt2 : j < m
        · have hlt2' : (j : Int) < (m : Int) := by omega
          obtain ⟨b2, off, rfl, hcc⟩ := (HR1.out.below HBx.out) k hlt
          obtain ⟨b3, off3, e3, hdd⟩ := (HR1.out.below HBx.out) j hlt2
          simp at e3
          obtain ⟨rfl, rfl⟩ := e3
          have hx := HLT.out k hlt
          have hy := HLT.out j hlt2
          have hE : enx len L k j = nth L k ||| rst len (nth L j) := rfl
          have hst := HSTEP.out k j
          obtain ⟨X, HX⟩ : ∃ X, Hid (X = wr.drew) := ⟨_, rfl⟩
          have hc2 : X.cell? ⟨b2, off + k, none⟩ = some (.int .i64 (nth L k : Nat)) := by rw [HX.out]; exact hcc
          have hc3 : X.cell? ⟨b2, off + j, none⟩ = some (.int .i64 (nth L j : Nat)) := by rw [HX.out]; exact hdd
          have k0 : X.cell? ⟨w.heap.size, 0, none⟩ = some (.int .i64 (len : Nat)) := by rw [HX.out]; exact hc0 _ HBx.out.drew
          obtain ⟨x, HXX⟩ : ∃ x, Hid (nth L k = x) := ⟨_, rfl⟩
          obtain ⟨y, HY⟩ : ∃ y, Hid (nth L j = y) := ⟨_, rfl⟩
          rw [HXX.out] at hc2 hx hE
          rw [HY.out] at hc3 hy hE
          obtain ⟨z, hz⟩ : ∃ z, rst len y = z := ⟨_, rfl⟩
          have hzl : z < pw len := by rw [← hz]; exact rst_lt
          have hze : ((pw len : Nat) : Int) - 1 - ((y : Nat) : Int) = (z : Int) := by rw [← hz]; unfold rst; omega
          have hzw : IntKind.i64.wrap (z : Int) = (z : Int) := wrap_i64_small _ (by omega) (by omega)
          have hp1 : IntKind.i64.wrap (((pw len : Nat) : Int) - 1) = ((pw len : Nat) : Int) - 1 := wrap_i64_small _ (by omega) (by omega)
          rw [hz] at hE
          have hol : x ||| z < pw len := Nat.or_lt_two_pow hx hzl
          obtain ⟨q, hq⟩ : ∃ q, x ||| z = q := ⟨_, rfl⟩
          have HTG := (show Hid (∀ w', Calls Tryd.prog 32 #[.int .i64 (x : Nat), .int .i64 (z : Nat)] w' fun e w'' => e = .returned (.int .i64 (q : Nat)) ∧ w'' = w') from fun w' => by rw [← hq]; exact tog_quiet x z w' (by omega) (by omega))
          rw [hq] at hol hE
          rw [hE] at hst
          have hqi : (q : Int) < ((pw len : Nat) : Int) := by omega
          obtain ⟨hcm, hfm⟩ := (show BOwn X B (pw len) (enB len L k j) by rw [HX.out]; exact HO.out) q hol
          have HO2 : Hid (BOwn (X.setCell ⟨B, q, none⟩ (.bool true)) B (pw len) (enB len L k (j + 1))) := by rw [hst, HX.out]; exact (show BOwn wr.drew B (pw len) (enB len L k j) from HO.out).set q
          have HB2 : Hid (Below W1.heap.size W1 (X.setCell ⟨B, q, none⟩ (.bool true))) := below_set (by rw [HX.out]; exact HBx.out.drew) (by rw [HB.out]; exact Nat.le_refl _)
          clear hcc hdd hst hE hq hz HO HBx
          go_wp2_with fail
          refine wp_lates (S := (fun w' => w' = X)) (late := (fun i => i == 16)) (by kernel_rfl) ?_
          rw [← HX.out]
          have HS : Hid (X = X) := rfl
          refine lates_take (i := 0) (oi := { dst := some 27, op := Go.Op.move (Go.Operand.tmp 4), type := 53, pos := "fix.go:427", after := #[], guard := none }) (v := ?_) rfl (by kernel_rfl) (by kernel_rfl) (by kernel_rfl) ⟨rfl, by kernel_rfl⟩ (fun _ _ _ h => h) (Or.inl ⟨by rfl, ?hy⟩) HS.out ?_
          case hy => (intro w9 hSw; (try dsimp only at hSw); subst hSw; go_simp; try with_reducible rfl)
          try simp only [Act.put, List.setIfInBounds_toArray, List.set_cons_zero, List.set_cons_succ]
          refine lates_take (i := 1) (oi := { dst := some 28, op := Go.Op.move (Go.Operand.tmp 3), type := 22, pos := "fix.go:427", after := #[], guard := none }) (v := ?_) rfl (by kernel_rfl) (by kernel_rfl) (by kernel_rfl) ⟨rfl, by kernel_rfl⟩ (fun _ _ _ h => h) (Or.inl ⟨by rfl, ?hy⟩) HS.out ?_
          case hy => (intro w9 hSw; (try dsimp only at hSw); subst hSw; go_simp; try with_reducible rfl)
          try simp only [Act.put, List.setIfInBounds_toArray, List.set_cons_zero, List.set_cons_succ]
          refine lates_take (i := 2) (oi := { dst := some 29, op := Go.Op.move (Go.Operand.tmp 5), type := 3, pos := "fix.go:427", after := #[], guard := none }) (v := ?_) rfl (by kernel_rfl) (by kernel_rfl) (by kernel_rfl) ⟨rfl, by kernel_rfl⟩ (fun _ _ _ h => h) (Or.inl ⟨by rfl, ?hy⟩) HS.out ?_
          case hy => (intro w9 hSw; (try dsimp only at hSw); subst hSw; go_simp; try with_reducible rfl)
          try simp only [Act.put, List.setIfInBounds_toArray, List.set_cons_zero, List.set_cons_succ]
          refine lates_take (i := 3) (oi := { dst := some 30, op := Go.Op.indexAddr 22 (Go.Operand.tmp 28) (Go.Operand.tmp 29), type := 0, pos := "fix.go:427", after := #[{ on := 1, ground := Go.Ground.data }, { on := 2, ground := Go.Ground.data }], guard := none }) (v := ?_) rfl (by kernel_rfl) (by kernel_rfl) (by kernel_rfl) ⟨rfl, by kernel_rfl⟩ (fun _ _ _ h => h) (Or.inl ⟨by rfl, ?hy⟩) HS.out ?_
          case hy => (intro w9 hSw; (try dsimp only at hSw); subst hSw; go_simp; try with_reducible rfl)
          try simp only [Act.put, List.setIfInBounds_toArray, List.set_cons_zero, List.set_cons_succ]
          refine lates_take (i := 4) (oi := { dst := some 31, op := Go.Op.load 3 (Go.Operand.tmp 30), type := 3, pos := "fix.go:427", after := #[{ on := 3, ground := Go.Ground.data }], guard := none }) (v := ?_) rfl (by kernel_rfl) (by kernel_rfl) (by kernel_rfl) ⟨rfl, by kernel_rfl⟩ (fun _ _ _ h => h) (Or.inl ⟨by rfl, ?hy⟩) HS.out ?_
          case hy => (intro w9 hSw; (try dsimp only at hSw); subst hSw; go_simp; try with_reducible rfl)
          try simp only [Act.put, List.setIfInBounds_toArray, List.set_cons_zero, List.set_cons_succ]
          refine lates_take (i := 5) (oi := { dst := some 32, op := Go.Op.fieldAddr 33 (Go.Operand.tmp 1) 0, type := 0, pos := "fix.go:427", after := #[], guard := none }) (v := ?_) rfl (by kernel_rfl) (by kernel_rfl) (by kernel_rfl) ⟨rfl, by kernel_rfl⟩ (fun _ _ _ h => h) (Or.inl ⟨by rfl, ?hy⟩) HS.out ?_
          case hy => (intro w9 hSw; (try dsimp only at hSw); subst hSw; go_simp; try with_reducible rfl)
          try simp only [Act.put, List.setIfInBounds_toArray, List.set_cons_zero, List.set_cons_succ]
          refine lates_take (i := 6) (oi := { dst := some 33, op := Go.Op.load 3 (Go.Operand.tmp 32), type := 3, pos := "fix.go:427", after := #[{ on := 5, ground := Go.Ground.data }], guard := none }) (v := ?_) rfl (by kernel_rfl) (by kernel_rfl) (by kernel_rfl) ⟨rfl, by kernel_rfl⟩ (fun _ _ _ h => h) (Or.inl ⟨by rfl, ?hy⟩) HS.out ?_
          case hy => (intro w9 hSw; (try dsimp only at hSw); subst hSw; go_simp; try with_reducible rfl)
          try simp only [Act.put, List.setIfInBounds_toArray, List.set_cons_zero, List.set_cons_succ]
          refine lates_take (i := 9) (oi := { dst := some 36, op := Go.Op.move (Go.Operand.tmp 3), type := 22, pos := "fix.go:427", after := #[], guard := none }) (v := ?_) rfl (by kernel_rfl) (by kernel_rfl) (by kernel_rfl) ⟨rfl, by kernel_rfl⟩ (fun _ _ _ h => h) (Or.inl ⟨by rfl, ?hy⟩) HS.out ?_
          case hy => (intro w9 hSw; (try dsimp only at hSw); subst hSw; go_simp; try with_reducible rfl)
          try simp only [Act.put, List.setIfInBounds_toArray, List.set_cons_zero, List.set_cons_succ]
          refine lates_take (i := 10) (oi := { dst := some 37, op := Go.Op.move (Go.Operand.tmp 6), type := 3, pos := "fix.go:427", after := #[], guard := none }) (v := ?_) rfl (by kernel_rfl) (by kernel_rfl) (by kernel_rfl) ⟨rfl, by kernel_rfl⟩ (fun _ _ _ h => h) (Or.inl ⟨by rfl, ?hy⟩) HS.out ?_
          case hy => (intro w9 hSw; (try dsimp only at hSw); subst hSw; go_simp; try with_reducible rfl)
          try simp only [Act.put, List.setIfInBounds_toArray, List.set_cons_zero, List.set_cons_succ]
          refine lates_take (i := 11) (oi := { dst := some 38, op := Go.Op.indexAddr 22 (Go.Operand.tmp 36) (Go.Operand.tmp 37), type := 0, pos := "fix.go:427", after := #[{ on := 9, ground := Go.Ground.data }, { on := 10, ground := Go.Ground.data }], guard := none }) (v := ?_) rfl (by kernel_rfl) (by kernel_rfl) (by kernel_rfl) ⟨rfl, by kernel_rfl⟩ (fun _ _ _ h => h) (Or.inl ⟨by rfl, ?hy⟩) HS.out ?_
          case hy => (intro w9 hSw; (try dsimp only at hSw); subst hSw; go_simp; try with_reducible rfl)
          try simp only [Act.put, List.setIfInBounds_toArray, List.set_cons_zero, List.set_cons_succ]
          refine lates_take (i := 12) (oi := { dst := some 39, op := Go.Op.load 3 (Go.Operand.tmp 38), type := 3, pos := "fix.go:427", after := #[{ on := 11, ground := Go.Ground.data }], guard := none }) (v := ?_) rfl (by kernel_rfl) (by kernel_rfl) (by kernel_rfl) ⟨rfl, by kernel_rfl⟩ (fun _ _ _ h => h) (Or.inl ⟨by rfl, ?hy⟩) HS.out ?_
          case hy => (intro w9 hSw; (try dsimp only at hSw); subst hSw; go_simp; try with_reducible rfl)
          try simp only [Act.put, List.setIfInBounds_toArray, List.set_cons_zero, List.set_cons_succ]
          refine lates_ready (rs := [7]) (by kernel_rfl) (by simp) ?_
          refine AllLate.cons (o := { dst := some 34, op := Go.Op.call { callee := Go.Callee.value (Go.Operand.func 31), args := #[Go.Operand.tmp 33], argTypes := #[3] }, type := 3, pos := "fix.go:427", after := #[{ on := 6, ground := Go.Ground.data }], guard := none }) rfl (fun K hK => ?_) ?_
          · go_simp
            refine (bit_any len _ (by omega)).mono ?_
            rintro e w3 ⟨rfl, hww⟩
            subst hww
            refine hK.out _ _ (fun _ => ?_) ?_
            · exact HS.out

            clear hK K
            try simp only [Act.put, List.setIfInBounds_toArray, List.set_cons_zero, List.set_cons_succ]
            refine lates_take (i := 8) (oi := { dst := some 35, op := Go.Op.binOp Go.BinOp.sub 3 (Go.Operand.tmp 34) (Go.Operand.const (Go.Value.int Go.IntKind.i64 1)) 3, type := 3, pos := "fix.go:427", after := #[{ on := 7, ground := Go.Ground.data }], guard := none }) (v := ?_) rfl (by kernel_rfl) (by kernel_rfl) (by kernel_rfl) ⟨rfl, by kernel_rfl⟩ (fun _ _ _ h => h) (Or.inl ⟨by rfl, ?hy⟩) HS.out ?_
            case hy => (intro w9 hSw; (try dsimp only at hSw); subst hSw; go_simp; try with_reducible rfl)
            try simp only [Act.put, List.setIfInBounds_toArray, List.set_cons_zero, List.set_cons_succ]
            refine lates_take (i := 13) (oi := { dst := some 40, op := Go.Op.binOp Go.BinOp.sub 3 (Go.Operand.tmp 35) (Go.Operand.tmp 39) 3, type := 3, pos := "fix.go:427", after := #[{ on := 8, ground := Go.Ground.data }, { on := 12, ground := Go.Ground.data }], guard := none }) (v := .int .i64 ((z : Nat) : Int)) rfl (by kernel_rfl) (by kernel_rfl) (by kernel_rfl) ⟨rfl, by kernel_rfl⟩ (fun _ _ _ h => h) (Or.inl ⟨by rfl, ?hy⟩) HS.out ?_
            case hy => (intro w9 hSw; (try dsimp only at hSw); subst hSw; go_simp <;> (first | with_reducible rfl | (simp; omega) | omega))
            try simp only [Act.put, List.setIfInBounds_toArray, List.set_cons_zero, List.set_cons_succ]
            refine lates_ready (rs := [14]) (by kernel_rfl) (by simp) ?_
            refine AllLate.cons (o := { dst := some 41, op := Go.Op.call { callee := Go.Callee.value (Go.Operand.func 32), args := #[Go.Operand.tmp 31, Go.Operand.tmp 40], argTypes := #[3, 3] }, type := 3, pos := "fix.go:427", after := #[{ on := 4, ground := Go.Ground.data }, { on := 13, ground := Go.Ground.data }, { on := 7, ground := Go.Ground.chain }], guard := none }) rfl (fun K hK => ?_) ?_
            · go_simp
              refine (HTG.out _).mono ?_
              rintro e w3 ⟨rfl, hww⟩
              subst hww
              refine hK.out _ _ (fun _ => ?_) ?_
              · exact HS.out

              clear hK K
              try simp only [Act.put, List.setIfInBounds_toArray, List.set_cons_zero, List.set_cons_succ]
              refine lates_take (i := 15) (oi := { dst := some 42, op := Go.Op.indexAddr 53 (Go.Operand.tmp 27) (Go.Operand.tmp 41), type := 0, pos := "fix.go:427", after := #[{ on := 0, ground := Go.Ground.data }, { on := 14, ground := Go.Ground.data }, { on := 0, ground := Go.Ground.phase }, { on := 1, ground := Go.Ground.phase }, { on := 2, ground := Go.Ground.phase }, { on := 3, ground := Go.Ground.phase }, { on := 4, ground := Go.Ground.phase }, { on := 5, ground := Go.Ground.phase }, { on := 6, ground := Go.Ground.phase }, { on := 7, ground := Go.Ground.phase }, { on := 8, ground := Go.Ground.phase }, { on := 9, ground := Go.Ground.phase }, { on := 10, ground := Go.Ground.phase }, { on := 11, ground := Go.Ground.phase }, { on := 12, ground := Go.Ground.phase }, { on := 13, ground := Go.Ground.phase }, { on := 14, ground := Go.Ground.phase }], guard := none }) (v := ?_) rfl (by kernel_rfl) (by kernel_rfl) (by kernel_rfl) ⟨rfl, by kernel_rfl⟩ (fun _ _ _ h => h) (Or.inl ⟨by rfl, ?hy⟩) HS.out ?_
              case hy => (intro w9 hSw; (try dsimp only at hSw); subst hSw; go_simp; try with_reducible rfl)
              try simp only [Act.put, List.setIfInBounds_toArray, List.set_cons_zero, List.set_cons_succ]
              refine lates_ready (rs := [16]) (by kernel_rfl) (by simp) ?_
              refine AllLate.cons (o := { dst := none, op := Go.Op.store 4 (Go.Operand.tmp 42) (Go.Operand.const (Go.Value.bool true)), type := 0, pos := "fix.go:427", after := #[{ on := 15, ground := Go.Ground.data }, { on := 14, ground := Go.Ground.chain }, { on := 0, ground := Go.Ground.phase }, { on := 1, ground := Go.Ground.phase }, { on := 2, ground := Go.Ground.phase }, { on := 3, ground := Go.Ground.phase }, { on := 4, ground := Go.Ground.phase }, { on := 5, ground := Go.Ground.phase }, { on := 6, ground := Go.Ground.phase }, { on := 7, ground := Go.Ground.phase }, { on := 8, ground := Go.Ground.phase }, { on := 9, ground := Go.Ground.phase }, { on := 10, ground := Go.Ground.phase }, { on := 11, ground := Go.Ground.phase }, { on := 12, ground := Go.Ground.phase }, { on := 13, ground := Go.Ground.phase }, { on := 14, ground := Go.Ground.phase }], guard := none }) rfl (fun K hK => ?_) ?_
              · go_simp
                skip
                refine hK.out _ _ (fun h => by cases h) ?_
                clear hK K
                try simp only [Act.put, List.setIfInBounds_toArray, List.set_cons_zero, List.set_cons_succ]
                refine lates_done (by kernel_rfl) ?_ _
                try simp only [Act.put, List.setIfInBounds_toArray, List.set_cons_zero, List.set_cons_succ]
                go_wp2_with fail
                go_roundw
                case rel => exact ⟨j + 1, by omega, by go_num, HO2, HB2⟩
                case measure => simp [intOf]; omega
              exact AllLate.nil
            exact AllLate.nil
          exact AllLate.nil
        · obtain rfl : j = m := by omega
          rw [HNEXT.out k] at HO
          go_wp2_with fail
          go_roundw
          case rel => exact ⟨k + 1, by omega, by go_num, HO, HBx⟩
          case measure => simp [intOf]; omega
    · obtain rfl : k = m := by omega
      obtain ⟨M, HMM⟩ : ∃ M, Hid (enB len L k 0 = M) := ⟨_, rfl⟩
      rw [HMM.out] at HO HFI
      have HBI : Hid (Below w.heap.size w wr) := Below.then HB1.out HBx.out
      clear HBx
      obtain ⟨W3, HW3⟩ : ∃ W3, Hid (W3 = wr) := ⟨_, rfl⟩
      go_wp2_with fail
      rw [← HW3.out] at HO HBI ⊢
      go_loopw [7, 8] (fun v i wx => ∃ s : Nat, s ≤ pw len ∧ i = .int .i64 s ∧ wx.ownsRow W3.heap.size 3 1 v (fil M s).length (natVals (fil M s)) ∧ Hid (Below W3.heap.size W3 wx)) (fun _ i _ => pw len - (intOf i).toNat)
      case atStart => exact ⟨0, Nat.zero_le _, rfl, World.ownsRow_nil _ _ _ _, Below.refl _ _⟩
      case round =>
        obtain ⟨s, hs, rfl, hown, hBx⟩ := hrel
        by_cases hls : s < pw len
        · have hls' : (s : Int) < ((pw len : Nat) : Int) := by omega
          have hcm := ((HO.out.step hBx.out) s hls).1
          rcases (Bool.eq_false_or_eq_true (M s)).symm with hb | hb
          · rw [hb] at hcm
            have HE : Hid (fil M (s + 1) = fil M s) := fil_no hb
            go_wp2_with fail
            go_roundw
            case rel => exact ⟨s + 1, by omega, by go_num, by rw [HE.out]; exact hown, hBx⟩
            case measure => simp [intOf]; omega
          · rw [hb] at hcm
            have HE : Hid (fil M (s + 1) = fil M s ++ [s]) := fil_yes hb
            have hlen := fil_len M s
            have hsz := hBx.out.size
            obtain ⟨J, HJ⟩ : ∃ J, Hid (J = fil M s) := ⟨_, rfl⟩
            rw [← HJ.out] at hown hlen
            go_wp2_with (at_builtin; refine wpList_append_own _ rfl _ _ 22 rfl W3.heap.size 3 i3 (.int .i64 0) 1 8 Tryd.underlying22 hi3 hy0 hy1 hy2 rfl (by decide) _ _ _ rfl (hown.alloc _) ⟨wr.heap.size, 0, none⟩ 1 1 [.int .i64 (s : Nat)] rfl rfl ?c1 ?c2 ?c3 ?c4 ?c5 ?_)
            case c1 =>
              intro j u hj
              match j, hj with
              | 0, hj => simp at hj; subst hj; simp [Addr.add]
            case c2 => intro u hu; simp at hu; subst hu; rfl
            case c3 => unfold maxLen; omega
            case c4 => omega
            case c5 => simp; omega
            intro v' w4 hown' hgrow _
            have HB5 : Hid (Below W3.heap.size W3 w4) := below_append3 hBx.out hown hgrow
            have HO5 : Hid (w4.ownsRow W3.heap.size 3 1 v' (fil M (s + 1)).length (natVals (fil M (s + 1)))) := by
              rw [HE.out, ← HJ.out, natVals_append, List.length_append]; exact hown'
            clear hown' hgrow hown hBx hlen hsz HJ
            go_wp2_with fail
            go_roundw
            case rel => exact ⟨s + 1, by omega, by go_num, HO5.out, HB5.out⟩
            case measure => simp [intOf]; omega
        · obtain rfl : s = pw len := by omega
          have HF : Hid (NSl wr u7 (ends g len)) := by rw [← HFI.out]; exact owns_nats hown
          have hle : ((pw len : Nat) : Int) ≤ ((pw len : Nat) : Int) := Int.le_refl _
          clear hown
          go_wp2_with fail
          go_ret
          exact ⟨⟨_, rfl, HF.out⟩, Below.then HBI.out hBx.out⟩

/-- Two families that are the same, behind an errno. -/
theorem familyIs_any (c : Int) (N : Int) (n : Int) (a : Option Addr) (la ca : Nat) (b : Option Addr) (lb cb : Nat) (f g : Nat → Int) (w : World) (hla : la ≤ maxLen) (hlb : lb ≤ maxLen) (ha : Row w a la f) (hb : Row w b lb g)
    (h : (c ≠ 0 ∧ N = 0 ∧ la = 0) ∨ (c = 0 ∧ N = n ∧ SameRows la lb f g)) :
    Calls Tryd.prog 20 #[.agg #[.int .i64 N, .slice a la ca], .int .i64 c, .int .i64 c, .int .i64 n, .slice b lb cb] w fun e w' => e = .returned (.bool true) ∧ Below w.heap.size w w' := by
  obtain ⟨W0, HW0⟩ : ∃ W0, Hid (W0 = w.alloc (.cells #[.int .i64 N, .slice a la ca] 24)) := ⟨_, rfl⟩
  have HB0 : Hid (Below w.heap.size w W0) := by rw [HW0.out]; exact (Below.refl _ _).alloc (Nat.le_refl _) _
  have K0 : Held W0 w.heap.size N a la ca f := by rw [HW0.out]; exact Fam.box ha
  have k0 := K0.c0
  have k1 := K0.c1
  rcases h with ⟨h0, rfl, rfl⟩ | ⟨rfl, rfl, hs⟩
  · have hne : (c != 0) = true := by simpa using h0
    have HSM := (show Hid (Calls Tryd.prog 44 #[.slice a 0 ca, .slice none 0 0] W0 _) from same_any a none 0 ca 0 0 f f W0 hla hla K0.row (fun k hk => absurd hk (Nat.not_lt_zero _)))
    clear ha hb
    go_enter Tryd.func20, Tryd.ntmps20
    go_wp2_with fail
    rw [← HW0.out]
    refine HSM.out.mono ?_
    rintro e w1 ⟨⟨v, rfl, hv⟩, hb1⟩
    obtain rfl : v = true := hv.2 ⟨rfl, fun k hk => absurd hk (Nat.not_lt_zero _)⟩
    have HB1 : Hid (Below w.heap.size w w1) := Below.then HB0.out hb1
    clear hv hb1 HSM
    go_wp2_with fail
    go_ret
    exact ⟨rfl, HB1.out⟩
  · have HSM := (show Hid (Calls Tryd.prog 44 #[.slice a la ca, .slice b lb cb] W0 _) from same_any a b la ca lb cb f g W0 hla hlb K0.row (hb.below HB0.out))
    have HSS : Hid (SameRows la lb f g) := hs
    clear ha hb hs
    go_enter Tryd.func20, Tryd.ntmps20
    go_wp2_with fail
    rw [← HW0.out]
    refine HSM.out.mono ?_
    rintro e w1 ⟨⟨v, rfl, hv⟩, hb1⟩
    obtain rfl : v = true := hv.2 HSS.out
    have HB1 : Hid (Below w.heap.size w w1) := Below.then HB0.out hb1
    clear hv hb1 HSM
    go_wp2_with fail
    go_ret
    exact ⟨rfl, HB1.out⟩
end Go.Proofs.YtjoklkbfcobfeaaDoor
