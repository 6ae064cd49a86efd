/-
  For every order that is handed in, hasselaw.ConceptCuts returns true, and writes nothing that was there. No condition.
-/
import Derived.Deep.RegionHeld3
import Derived.Test.YtpmgengddnafeabCtsM
import Derived.Test.YtpmgengddnafeabCBegun
import Derived.Test.YtpmgengddnafeabConB
import Derived.Test.YtpmgengddnafeabOfSets
import Derived.Test.YtpmgengddnafeabLate
namespace Go.Proofs.Ytpmgengddnafeab
open Go.RowKit

/-- The context that grows lies in block C: so many things and marks, its sets v; what lay below is as it was. -/
structure CK (V wx : World) (C len : Nat) (v : Value) : Prop where
  b : Below C V wx
  c0 : wx.cell? ⟨C, 0, none⟩ = some (.int .i64 (len : Int))
  c1 : wx.cell? ⟨C, 1, none⟩ = some (.int .i64 (len : Int))
  c2 : wx.cell? ⟨C, 2, none⟩ = some v
  f2 : wx.frozen? ⟨C, 2, none⟩ = false
  s : C + 1 ≤ wx.heap.size
theorem CK.alloc {V wx : World} {C len : Nat} {v : Value} (h : CK V wx C len v) (o : Obj) : CK V (wx.alloc o) C len v := by
  have hb : Below wx.heap.size wx (wx.alloc o) := (Below.refl _ _).alloc (Nat.le_refl _) _
  have hs := h.s
  exact ⟨h.b.alloc (by omega) o, (hb.cell (by show C < _; omega)).trans h.c0, (hb.cell (by show C < _; omega)).trans h.c1, (hb.cell (by show C < _; omega)).trans h.c2, (hb.frozen (by show C < _; omega)).trans h.f2, Nat.le_trans hs hb.size⟩
theorem CK.drew {V wx : World} {C len : Nat} {v : Value} (h : CK V wx C len v) : CK V wx.drew C len v := ⟨h.b.drew, h.c0, h.c1, h.c2, h.f2, h.s⟩
theorem CK.grown {V wx w' : World} {C len : Nat} {v : Value} {row : Option Nat} (h : CK V wx C len v) (hg : wx.grownBy w' row) (hB : C + 1 ≤ wx.heap.size) (hr : ∀ k, row = some k → C + 1 ≤ k) : CK V w' C len v := by
  have hb : Below (C + 1) wx w' := (Below.refl _ _).grown hg hB hr
  exact ⟨h.b.trans (hb.mono (by omega)), (hb.cell (by show C < _; omega)).trans h.c0, (hb.cell (by show C < _; omega)).trans h.c1, (hb.cell (by show C < _; omega)).trans h.c2, (hb.frozen (by show C < _; omega)).trans h.f2, Nat.le_trans hB hb.size⟩
theorem CK.store {V wx : World} {C len : Nat} {v : Value} (h : CK V wx C len v) (u : Value) : CK V (wx.setCell ⟨C, 2, none⟩ u) C len u := by
  have ne : ∀ {i : Nat}, i ≠ 2 → (⟨C, 2, none⟩ : Addr) ≠ ⟨C, i, none⟩ := fun h e => h (by injection e with _ h2; exact h2.symm)
  refine ⟨h.b.setCell (p := ⟨C, 2, none⟩) (Nat.le_refl _) u, ?_, ?_, World.cell?_setCell_same _ _ _ h.c2, by rw [World.frozen?_setCell]; exact h.f2, by simpa using h.s⟩
  · rw [World.cell?_setCell_other _ _ _ _ (ne (by decide))]; exact h.c0
  · rw [World.cell?_setCell_other _ _ _ _ (ne (by decide))]; exact h.c1

set_option maxHeartbeats 4000000 in
set_option maxRecDepth 100000 in
theorem conceptCuts_any (n : Int) (a : Option Addr) (len cap : Nat) (f : Nat → Int) (w : World) (hl : len ≤ maxLen) (hr : Row w a len f) :
    Calls Try.prog 5 #[.agg #[.int .i64 n, .slice a len cap]] w fun e w' => e = .returned (.bool true) ∧ Below w.heap.size w w' := by
  have K0 : Held (w.alloc (.cells #[.int .i64 n, .slice a len cap] 44)) w.heap.size n a len cap f := Held.box hr
  have HB0 : Hid (Below w.heap.size w (w.alloc (.cells #[.int .i64 n, .slice a len cap] 44))) := (Below.refl _ _).alloc (Nat.le_refl _) _
  clear hr
  go_enter Try.func5, Try.ntmps5
  go_wp2_with fail
  refine (conceptBegun_any _).mono ?_
  rintro e w1 ⟨rfl, hb⟩
  have K1 := K0.step hb
  have HB1 : Hid (Below w.heap.size w w1) := Below.then HB0.out hb
  have k0 := K1.c0
  have k1 := K1.c1
  clear hb K0 HB0
  go_wp2_with fail
  refine (dual_any n a len cap f _ hl K1.row).mono ?_
  rintro e w2 ⟨⟨c, x, hc, rfl, hx⟩, hb⟩
  have K2 := K1.step hb
  have HB2 : Hid (Below w.heap.size w w2) := Below.then HB1.out hb
  clear hb K1 HB1 k0 k1
  rcases hx with ⟨h0, rfl⟩ | ⟨rfl, a', cap', rfl, hr'⟩
  · have hne : (c != 0) = true := by simpa using h0
    have HBA : Hid (Below w.heap.size w (w2.alloc (.cells #[.int .i64 0, .slice none 0 0] 44))) := HB2.out.alloc HB2.out.size _
    clear hc K2
    unfold noOrder
    go_wp2_with fail
    go_ret
    exact ⟨rfl, HBA.out⟩
  obtain ⟨rfl, h10, hrng, hord⟩ := hc.good
  have HC : Hid (Chk (len : Int) len f 0) := hc
  obtain ⟨V, HV⟩ : ∃ V, Hid (V = w2.alloc (.cells #[.int .i64 (len : Int), .slice a' len cap'] 44)) := ⟨_, rfl⟩
  have hb3 : Below w2.heap.size w2 V := by rw [HV.out]; exact (Below.refl _ _).alloc (Nat.le_refl _) _
  have HKV : Hid (Held V w.heap.size len a len cap f) := K2.step hb3
  have HBV : Hid (Below w.heap.size w V) := Below.then HB2.out hb3
  have HDV : Hid (V.cell? ⟨w2.heap.size, 1, none⟩ = some (.slice a' len cap')) := by rw [Hid, HV.out]; simp
  have HRV : Hid (Row V a' len (fun k => ((trn (nat f) len k : Nat) : Int))) := hr'.below hb3
  obtain ⟨D, HDE⟩ : ∃ D, Hid (D = w2.heap.size) := ⟨_, rfl⟩
  obtain ⟨C, HCE⟩ : ∃ C, Hid (C = V.heap.size) := ⟨_, rfl⟩
  have HCD : Hid (D + 1 = C) := by rw [Hid, HDE.out, HCE.out, HV.out]; simp
  have HVC : Hid (V.heap.size = C) := HCE.out.symm
  obtain ⟨U, HUE⟩ : ∃ U, Hid (U = upto (trn (nat f) len)) := ⟨_, rfl⟩
  have HUS : Hid (∀ k, k < len → U k = trn (nat f) len k + pw k ∧ trn (nat f) len k < 1024) := fun k hk => by
    have ht := trn_1024 (nat f) h10 k hk
    rw [HUE.out]
    exact ⟨upto_sum (by rw [trn_bit]; have := (hord k hk).1; rw [this, Bool.and_false]) ht (by omega), ht⟩
  have HUL : Hid (∀ k, k < len → U k < pw len) := fun k hk => by
    rw [HUE.out]
    exact Nat.or_lt_two_pow (trn_lt (nat f) len k) (Nat.pow_lt_pow_right (by decide) hk)
  have kv := K2
  have k0 : V.cell? ⟨w.heap.size, 0, none⟩ = some (.int .i64 (len : Int)) := HKV.out.c0
  have HCK0 : Hid (CK V (V.alloc (.cells #[.int .i64 (len : Int), .int .i64 (len : Int), .slice none 0 0] 24)) C len (.slice none 0 0)) := by
    rw [Hid, HCE.out]
    exact ⟨(Below.refl _ _).alloc (Nat.le_refl _) _, by simp, by simp, by simp, by simp, by simp⟩
  rw [← HDE.out] at HDV
  clear hr' hb3 K2 kv hc hord
  rw [HV.out] at k0
  go_wp2_with fail
  rw [← HDE.out]
  rw [← HV.out]
  rw [HCD.out]
  clear HV k0 HDE HCE HCD
  go_loopw [6] (fun i wx => ∃ k : Nat, k ≤ len ∧ i = .int .i64 k ∧ ∃ vv : Value, Hid (wx.ownsRow (C + 1) 3 1 vv k (rowVals U k)) ∧ Hid (CK V wx C len vv)) (fun i _ => len - (intOf i).toNat)
  case atStart => exact ⟨0, Nat.zero_le _, rfl, .slice none 0 0, World.ownsRow_nil _ _ _ _, HCK0⟩
  case round =>
    clear HCK0
    obtain ⟨k, hk, rfl, vv, hown, hCK⟩ := hrel
    have hBV : Below V.heap.size V wr := by rw [HVC.out]; exact hCK.out.b
    have k0 := (HKV.out.step hBV).c0
    by_cases hlt : k < len
    · have hlt' : (k : Int) < (len : Int) := by omega
      obtain ⟨b, off, rfl, hcv⟩ := HRV.out k hlt
      replace hcv : V.cell? ⟨b, off + k, none⟩ = some (.int .i64 ((trn (nat f) len k : Nat) : Int)) := hcv
      obtain ⟨hU, hts⟩ := HUS.out k hlt
      have hpk := pw_le k (by omega)
      obtain ⟨T, HTE⟩ : ∃ T, Hid (T = trn (nat f) len k) := ⟨_, rfl⟩
      rw [← HTE.out] at hcv hU hts
      have hw : IntKind.i64.wrap ((T : Int) + ((pw k : Nat) : Int)) = ((U k : Nat) : Int) := by rw [wrap_i64_small _ (by omega) (by omega), hU]; omega
      clear hU
      have HDD : Hid (∀ w', CK V w' C len vv → w'.cell? ⟨D, 1, none⟩ = some (.slice (some ⟨b, off, none⟩) len cap')) := fun w' h => (h.b.cell (by rw [← HVC.out]; exact World.block_lt_of_cell? _ _ HDV.out)).trans HDV.out
      have HRD : Hid (∀ w', CK V w' C len vv → w'.cell? ⟨b, off + k, none⟩ = some (.int .i64 (T : Nat))) := fun w' h => (h.b.cell (by rw [← HVC.out]; exact World.block_lt_of_cell? _ _ hcv)).trans hcv
      clear hcv hBV
      go_wp2_with fail
      clear k0
      refine wp_lates (S := (fun w' => CK V w' C len vv)) (late := (fun i => i == 13)) (by kernel_rfl) ?_
      obtain ⟨X, HXE⟩ : ∃ X, Hid (X = wr.drew) := ⟨_, rfl⟩
      rw [← HXE.out]
      have HS : Hid (CK V X C len vv) := by rw [Hid, HXE.out]; exact hCK.out.drew
      have HOX : Hid (X.ownsRow (C + 1) 3 1 vv k (rowVals U k)) := by rw [Hid, HXE.out]; exact owns_below hown.out (Below.refl _ _).drew
      have HXS : Hid (C + 1 ≤ X.heap.size) := HS.out.s
      refine lates_take (i := 0) (oi := { dst := some 31, op := Go.Op.fieldAddr 24 (Go.Operand.tmp 5) 2, type := 0, pos := "fix.go:500", after := #[], guard := none }) (v := ?_) rfl (by kernel_rfl) (by kernel_rfl) (by kernel_rfl) ⟨rfl, by kernel_rfl⟩ (fun _ _ _ h => h) (Or.inl ⟨by rfl, ?hy⟩) HS.out ?_
      case hy => (intro w9 hSw; (have e0 := hSw.c2); (have e1 := HDD.out _ hSw); (have e2 := HRD.out _ hSw); go_simp; try with_reducible rfl)
      try simp only [Act.put, List.setIfInBounds_toArray, List.set_cons_zero, List.set_cons_succ]
      refine lates_take (i := 1) (oi := { dst := some 32, op := Go.Op.load 22 (Go.Operand.tmp 31), type := 22, pos := "fix.go:500", after := #[{ on := 0, ground := Go.Ground.data }], guard := none }) (v := ?_) rfl (by kernel_rfl) (by kernel_rfl) (by kernel_rfl) ⟨rfl, by kernel_rfl⟩ (fun _ _ _ h => h) (Or.inl ⟨by rfl, ?hy⟩) HS.out ?_
      case hy => (intro w9 hSw; (have e0 := hSw.c2); (have e1 := HDD.out _ hSw); (have e2 := HRD.out _ hSw); go_simp; try with_reducible rfl)
      try simp only [Act.put, List.setIfInBounds_toArray, List.set_cons_zero, List.set_cons_succ]
      refine lates_take (i := 2) (oi := { dst := some 33, op := Go.Op.fieldAddr 44 (Go.Operand.tmp 3) 1, type := 0, pos := "fix.go:500", after := #[], guard := none }) (v := ?_) rfl (by kernel_rfl) (by kernel_rfl) (by kernel_rfl) ⟨rfl, by kernel_rfl⟩ (fun _ _ _ h => h) (Or.inl ⟨by rfl, ?hy⟩) HS.out ?_
      case hy => (intro w9 hSw; (have e0 := hSw.c2); (have e1 := HDD.out _ hSw); (have e2 := HRD.out _ hSw); go_simp; try with_reducible rfl)
      try simp only [Act.put, List.setIfInBounds_toArray, List.set_cons_zero, List.set_cons_succ]
      refine lates_take (i := 3) (oi := { dst := some 34, op := Go.Op.load 22 (Go.Operand.tmp 33), type := 22, pos := "fix.go:500", after := #[{ on := 2, ground := Go.Ground.data }], guard := none }) (v := ?_) rfl (by kernel_rfl) (by kernel_rfl) (by kernel_rfl) ⟨rfl, by kernel_rfl⟩ (fun _ _ _ h => h) (Or.inl ⟨by rfl, ?hy⟩) HS.out ?_
      case hy => (intro w9 hSw; (have e0 := hSw.c2); (have e1 := HDD.out _ hSw); (have e2 := HRD.out _ hSw); go_simp; try with_reducible rfl)
      try simp only [Act.put, List.setIfInBounds_toArray, List.set_cons_zero, List.set_cons_succ]
      refine lates_take (i := 4) (oi := { dst := some 35, op := Go.Op.move (Go.Operand.tmp 6), type := 3, pos := "fix.go:500", after := #[], guard := none }) (v := ?_) rfl (by kernel_rfl) (by kernel_rfl) (by kernel_rfl) ⟨rfl, by kernel_rfl⟩ (fun _ _ _ h => h) (Or.inl ⟨by rfl, ?hy⟩) HS.out ?_
      case hy => (intro w9 hSw; (have e0 := hSw.c2); (have e1 := HDD.out _ hSw); (have e2 := HRD.out _ hSw); go_simp; try with_reducible rfl)
      try simp only [Act.put, List.setIfInBounds_toArray, List.set_cons_zero, List.set_cons_succ]
      refine lates_take (i := 5) (oi := { dst := some 36, op := Go.Op.indexAddr 22 (Go.Operand.tmp 34) (Go.Operand.tmp 35), type := 0, pos := "fix.go:500", after := #[{ on := 3, ground := Go.Ground.data }, { on := 4, ground := Go.Ground.data }], guard := none }) (v := ?_) rfl (by kernel_rfl) (by kernel_rfl) (by kernel_rfl) ⟨rfl, by kernel_rfl⟩ (fun _ _ _ h => h) (Or.inl ⟨by rfl, ?hy⟩) HS.out ?_
      case hy => (intro w9 hSw; (have e0 := hSw.c2); (have e1 := HDD.out _ hSw); (have e2 := HRD.out _ hSw); go_simp; try with_reducible rfl)
      try simp only [Act.put, List.setIfInBounds_toArray, List.set_cons_zero, List.set_cons_succ]
      refine lates_take (i := 6) (oi := { dst := some 37, op := Go.Op.load 3 (Go.Operand.tmp 36), type := 3, pos := "fix.go:500", after := #[{ on := 5, ground := Go.Ground.data }], guard := none }) (v := ?_) rfl (by kernel_rfl) (by kernel_rfl) (by kernel_rfl) ⟨rfl, by kernel_rfl⟩ (fun _ _ _ h => h) (Or.inl ⟨by rfl, ?hy⟩) HS.out ?_
      case hy => (intro w9 hSw; (have e0 := hSw.c2); (have e1 := HDD.out _ hSw); (have e2 := HRD.out _ hSw); go_simp; try with_reducible rfl)
      try simp only [Act.put, List.setIfInBounds_toArray, List.set_cons_zero, List.set_cons_succ]
      refine lates_take (i := 7) (oi := { dst := some 38, op := Go.Op.move (Go.Operand.tmp 6), type := 3, pos := "fix.go:500", after := #[], guard := none }) (v := ?_) rfl (by kernel_rfl) (by kernel_rfl) (by kernel_rfl) ⟨rfl, by kernel_rfl⟩ (fun _ _ _ h => h) (Or.inl ⟨by rfl, ?hy⟩) HS.out ?_
      case hy => (intro w9 hSw; (have e0 := hSw.c2); (have e1 := HDD.out _ hSw); (have e2 := HRD.out _ hSw); go_simp; try with_reducible rfl)
      try simp only [Act.put, List.setIfInBounds_toArray, List.set_cons_zero, List.set_cons_succ]
      refine lates_ready (rs := [8]) (by kernel_rfl) (by simp) ?_
      refine AllLate.cons (o := { dst := some 39, op := Go.Op.call { callee := Go.Callee.value (Go.Operand.func 17), args := #[Go.Operand.tmp 38], argTypes := #[3] }, type := 3, pos := "fix.go:500", after := #[{ on := 7, ground := Go.Ground.data }], guard := none }) rfl (fun K hK => ?_) ?_
      · go_simp
        refine (bit_any k _ (by omega)).mono ?_
        rintro e w1 ⟨rfl, hww⟩
        subst hww
        refine hK.out _ _ (fun _ => ?_) ?_
        · exact HS.out

        clear hK K
        try simp only [Act.put, List.setIfInBounds_toArray, List.set_cons_zero, List.set_cons_succ]
        refine lates_take (i := 9) (oi := { dst := some 40, op := Go.Op.binOp Go.BinOp.add 3 (Go.Operand.tmp 37) (Go.Operand.tmp 39) 3, type := 3, pos := "fix.go:500", after := #[{ on := 6, ground := Go.Ground.data }, { on := 8, ground := Go.Ground.data }], guard := none }) (v := .int .i64 ((U k : Nat) : Int)) rfl (by kernel_rfl) (by kernel_rfl) (by kernel_rfl) ⟨rfl, by kernel_rfl⟩ (fun _ _ _ h => h) (Or.inl ⟨by rfl, ?hy⟩) HS.out ?_
        case hy => (intro w9 hSw; (have e0 := hSw.c2); (have e1 := HDD.out _ hSw); (have e2 := HRD.out _ hSw); go_simp <;> (first | with_reducible rfl | (simp; omega) | omega))
        try simp only [Act.put, List.setIfInBounds_toArray, List.set_cons_zero, List.set_cons_succ]
        refine lates_ready (rs := [10]) (by kernel_rfl) (by simp) ?_
        refine AllLate.cons (o := { dst := some 41, op := Go.Op.buildSlice 22 1 #[(0, Go.Operand.tmp 40)], type := 22, pos := "fix.go:500", after := #[{ on := 9, ground := Go.Ground.data }], guard := none }) rfl (fun K hK => ?_) ?_
        · go_simp
          have HS4 : Hid (CK V (X.alloc (.cells #[.int .i64 (U k : Nat)] 3)) C len vv) := HS.out.alloc _
          have HO4 := (show Hid _ from owns_below HOX.out ((Below.refl X.heap.size X).alloc (Nat.le_refl _) (.cells #[.int .i64 (U k : Nat)] 3)))
          have hcell : (X.alloc (.cells #[.int .i64 (U k : Nat)] 3)).cell? ⟨X.heap.size, 0, none⟩ = some (.int .i64 (U k : Nat)) := by simp
          refine hK.out _ _ (fun _ => ?_) ?_
          · exact HS4.out
          have HS := HS4
          clear hK K
          try simp only [Act.put, List.setIfInBounds_toArray, List.set_cons_zero, List.set_cons_succ]
          refine lates_ready (rs := [11]) (by kernel_rfl) (by simp) ?_
          refine AllLate.cons (o := { dst := some 42, op := Go.Op.call { callee := Go.Callee.builtin Go.Builtin.append, args := #[Go.Operand.tmp 32, Go.Operand.tmp 41], argTypes := #[22, 22] }, type := 22, pos := "fix.go:500", after := #[{ on := 1, ground := Go.Ground.data }, { on := 10, ground := Go.Ground.data }, { on := 8, ground := Go.Ground.chain }], guard := none }) rfl (fun K hK => ?_) ?_
          · rw [if_pos (by rfl)]
            refine wp_grow _ _ _ rfl (C + 1) vv k _ rfl HO4.out X.heap.size _ rfl hcell (by omega) (by have := HXS.out; simp; omega) ?_
            intro v5 w5 hown5 hgrow5 hblk5
            have HS5 : Hid (CK V w5 C len vv) := HS4.out.grown hgrow5 (by have := HXS.out; simp; omega) (owns_block HO4.out)
            have hf5 := HS5.out.f2
            have hc5 := HS5.out.c2
            obtain ⟨g5, c5, rfl⟩ := owns_form hown5 (by omega)
            refine hK.out _ _ (fun _ => ?_) ?_
            · exact HS5.out
            have HS := HS5
            clear hK K
            try simp only [Act.put, List.setIfInBounds_toArray, List.set_cons_zero, List.set_cons_succ]
            refine lates_take (i := 12) (oi := { dst := some 43, op := Go.Op.fieldAddr 24 (Go.Operand.tmp 5) 2, type := 0, pos := "fix.go:500", after := #[{ on := 0, ground := Go.Ground.phase }, { on := 1, ground := Go.Ground.phase }, { on := 2, ground := Go.Ground.phase }, { on := 3, ground := Go.Ground.phase }, { on := 4, ground := Go.Ground.phase }, { on := 5, ground := Go.Ground.phase }, { on := 6, ground := Go.Ground.phase }, { on := 7, ground := Go.Ground.phase }, { on := 8, ground := Go.Ground.phase }, { on := 9, ground := Go.Ground.phase }, { on := 10, ground := Go.Ground.phase }, { on := 11, ground := Go.Ground.phase }], guard := none }) (v := ?_) rfl (by kernel_rfl) (by kernel_rfl) (by kernel_rfl) ⟨rfl, by kernel_rfl⟩ (fun _ _ _ h => h) (Or.inl ⟨by rfl, ?hy⟩) HS.out ?_
            case hy => (intro w9 hSw; (have e0 := hSw.c2); (have e1 := HDD.out _ hSw); (have e2 := HRD.out _ hSw); go_simp; try with_reducible rfl)
            try simp only [Act.put, List.setIfInBounds_toArray, List.set_cons_zero, List.set_cons_succ]
            refine lates_ready (rs := [13]) (by kernel_rfl) (by simp) ?_
            refine AllLate.cons (o := { dst := none, op := Go.Op.store 22 (Go.Operand.tmp 43) (Go.Operand.tmp 42), type := 0, pos := "fix.go:500", after := #[{ on := 12, ground := Go.Ground.data }, { on := 11, ground := Go.Ground.data }, { on := 11, ground := Go.Ground.chain }, { on := 0, ground := Go.Ground.phase }, { on := 1, ground := Go.Ground.phase }, { on := 2, ground := Go.Ground.phase }, { on := 3, ground := Go.Ground.phase }, { on := 4, ground := Go.Ground.phase }, { on := 5, ground := Go.Ground.phase }, { on := 6, ground := Go.Ground.phase }, { on := 7, ground := Go.Ground.phase }, { on := 8, ground := Go.Ground.phase }, { on := 9, ground := Go.Ground.phase }, { on := 10, ground := Go.Ground.phase }, { on := 11, ground := Go.Ground.phase }], guard := none }) rfl (fun K hK => ?_) ?_
            · go_simp
              skip
              refine hK.out _ _ (fun h => by cases h) ?_
              clear hK K
              try simp only [Act.put, List.setIfInBounds_toArray, List.set_cons_zero, List.set_cons_succ]
              refine lates_done (by kernel_rfl) ?_ _
              try simp only [Act.put, List.setIfInBounds_toArray, List.set_cons_zero, List.set_cons_succ]
              have HO6 : Hid (w5.ownsRow (C + 1) 3 1 (.slice (some ⟨g5, 0, none⟩) (k + 1) c5) (k + 1) (rowVals U (k + 1))) := by rw [Hid, rowVals_succ]; exact hown5
              have HO7 : Hid ((w5.setCell ⟨C, 2, none⟩ (.slice (some ⟨g5, 0, none⟩) (k + 1) c5)).ownsRow (C + 1) 3 1 (.slice (some ⟨g5, 0, none⟩) (k + 1) c5) (k + 1) (rowVals U (k + 1))) := ownsRow_setCell_below HO6.out (show C < C + 1 by omega) _
              have HS7 : Hid (CK V (w5.setCell ⟨C, 2, none⟩ (.slice (some ⟨g5, 0, none⟩) (k + 1) c5)) C len (.slice (some ⟨g5, 0, none⟩) (k + 1) c5)) := HS5.out.store (.slice (some ⟨g5, 0, none⟩) (k + 1) c5)
              clear hown5 hgrow5 hblk5 HO4 HO6 HOX hcell hf5 hc5
              go_wp2_with fail
              go_roundw
              case rel => exact ⟨k + 1, by omega, by go_num, (.slice (some ⟨g5, 0, none⟩) (k + 1) c5), HO7, HS7⟩
              case measure => simp [intOf]; omega
            exact AllLate.nil
          exact AllLate.nil
        exact AllLate.nil
      exact AllLate.nil
    · obtain rfl : k = len := by omega
      obtain ⟨a9, cap9, e9, hrow9⟩ := owns_row hown.out
      subst e9
      have HK9 : Hid (Held wr w.heap.size k a k cap f) := HKV.out.step hBV
      have HB9 : Hid (Below w.heap.size w wr) := Below.then HBV.out hBV
      have HR9 : Hid (Row wr a9 k (fun j => ((U j : Nat) : Int))) := hrow9
      have k1 := HK9.out.c1
      have HCC : Hid (CK V wr C k (.slice a9 k cap9)) := hCK
      clear hBV hrow9 hown hCK
      go_wp2_with fail
      clear k0 k1
      refine (cutsX_any k a k cap f _ hl HK9.out.row).mono ?_
      rintro e w6 ⟨⟨c, v6, hc6, rfl, hp6⟩, hb6⟩
      obtain rfl := hc6.unique HC.out
      have HB6 : Hid (Below w.heap.size w w6) := Below.then HB9.out hb6
      have q0 := (hb6.cell (World.block_lt_of_cell? _ _ HCC.out.c0)).trans HCC.out.c0
      have q1 := (hb6.cell (World.block_lt_of_cell? _ _ HCC.out.c1)).trans HCC.out.c1
      have q2 := (hb6.cell (World.block_lt_of_cell? _ _ HCC.out.c2)).trans HCC.out.c2
      have HR6 : Hid (Row w6 a9 k (fun j => ((U j : Nat) : Int))) := HR9.out.below hb6
      rcases hp6 with ⟨h, _⟩ | ⟨_, hv6⟩
      · exact absurd rfl h
      obtain ⟨pa, pc, rfl, hpr⟩ := hv6
      have HP6 : Hid (∀ w', Below w6.heap.size w6 w' → Row w' pa (cuts (nat f) k).length (fun j => ((nth (cuts (nat f) k) j : Nat) : Int))) := fun w' h => hpr.below h
      have HCU : Hid (cuts (nat f) k = tsets U k k) := by rw [Hid, HUE.out]; exact cuts_tsets h10
      rw [HCU.out] at HP6 ⊢
      clear hc6 hb6 hpr HK9 HB9 HR9 HCC
      go_wp2_with fail
      clear q0 q1 q2
      refine (concepts_any k k a9 k cap9 (fun j => ((U j : Nat) : Int)) _ hl HR6.out).mono ?_
      rintro e Z ⟨he, hb7⟩
      have HB7 : Hid (Below w.heap.size w Z) := Below.then HB6.out hb7
      have HP7 := HP6.out _ hb7
      have hgr : GRng k k (fun j => ((U j : Nat) : Int)) := fun j hj => ⟨Int.natCast_nonneg _, by have := HUL.out j hj; show ((U j : Nat) : Int) < _; omega⟩
      have hgc : GChk k k k (fun j => ((U j : Nat) : Int)) 0 := .inr ⟨k, k, rfl, rfl, h10, h10, .inr ⟨rfl, .inr ⟨rfl, hgr⟩⟩⟩
      rcases he with ⟨c, h0, hcc, _⟩ | ⟨r, v7, _, _, hrk, _, _, _, rfl, hv7⟩
      · exact absurd (GChk.unique hcc hgc) h0
      obtain rfl : r = k := by omega
      have hnu : nat (fun j => ((U j : Nat) : Int)) = U := by funext j; simp [nat]
      rw [hnu] at hv7
      obtain ⟨la, lc, rfl, hlr⟩ := hv7
      rw [cons_length] at hlr ⊢
      have HLR : Hid (PRow Z la (tsets U r r).length (pairAt (cons U r r))) := hlr
      have HPZ : Hid (Row Z pa (tsets U r r).length (fun j => ((nth (tsets U r r) j : Nat) : Int))) := HP7
      have hql := tsets_len U r r h10
      have HAT : Hid (∀ j, j < (tsets U r r).length → (pairAt (cons U r r) j).1 = ((nth (tsets U r r) j : Nat) : Int)) := fun j hj => cons_at hj
      clear hlr HP7 hb7 hgr hgc hnu hrk HP6 HR6 HB6
      generalize (tsets U r r).length = q at *
      generalize nth (tsets U r r) = Y at *
      go_wp2_with fail
      go_loopw [10] (fun i wx => ∃ j : Nat, j ≤ q ∧ i = .int .i64 j ∧ Hid (Below Z.heap.size Z wx)) (fun i _ => q - (intOf i).toNat)
      case atStart => exact ⟨0, Nat.zero_le _, rfl, Below.refl _ _⟩
      case round =>
        obtain ⟨j, hj, rfl, hBZ⟩ := hrel
        by_cases hjl : j < q
        · have hjl' : (j : Int) < (q : Int) := by omega
          obtain ⟨b1, o1, rfl, p1, _⟩ := HLR.out j hjl
          rw [HAT.out j hjl] at p1
          obtain ⟨b2, o2, rfl, p2⟩ := HPZ.out j hjl
          have p2' : Z.cell? ⟨b2, o2 + j, none⟩ = some (.int .i64 (Y j : Nat)) := p2
          have x1 : ∀ w', Below Z.heap.size Z w' → w'.cell? ⟨b1, o1 + j * 2, none⟩ = some (.int .i64 (Y j : Nat)) := fun w' h => (h.cell (World.block_lt_of_cell? _ _ p1)).trans p1
          have x2 : ∀ w', Below Z.heap.size Z w' → w'.cell? ⟨b2, o2 + j, none⟩ = some (.int .i64 (Y j : Nat)) := fun w' h => (h.cell (World.block_lt_of_cell? _ _ p2')).trans p2'
          have KK : Below Z.heap.size Z wr.drew := Below.then hBZ.out (Below.refl _ _).drew
          have HKK : Hid (Below Z.heap.size Z wr.drew) := KK
          clear p1 p2 p2'
          go_wp2_with fail
          refine wp_region_held_drew (S := (fun w' => Below Z.heap.size Z w')) (by kernel_rfl) (KK) (fun hHeld => ?_)
          refine wpAnyH_take (i := 0) (oi := { dst := some 73, op := Go.Op.move (Go.Operand.tmp 8), type := 26, pos := "fix.go:508", after := #[], guard := none }) (v := ?_) rfl (by kernel_rfl) (by kernel_rfl) (by kernel_rfl) (fun _ _ _ h => h) (Or.inl ⟨by rfl, ?hy⟩) (by assumption) ?_
          case hy => (intro w9 hSw; (try dsimp only at hSw); go_simp; try with_reducible rfl)
          try simp only [Act.put, List.setIfInBounds_toArray, List.set_cons_zero, List.set_cons_succ]
          refine wpAnyH_take (i := 1) (oi := { dst := some 74, op := Go.Op.move (Go.Operand.tmp 10), type := 3, pos := "fix.go:508", after := #[], guard := none }) (v := ?_) rfl (by kernel_rfl) (by kernel_rfl) (by kernel_rfl) (fun _ _ _ h => h) (Or.inl ⟨by rfl, ?hy⟩) (by assumption) ?_
          case hy => (intro w9 hSw; (try dsimp only at hSw); go_simp; try with_reducible rfl)
          try simp only [Act.put, List.setIfInBounds_toArray, List.set_cons_zero, List.set_cons_succ]
          refine wpAnyH_take (i := 2) (oi := { dst := some 75, op := Go.Op.indexAddr 26 (Go.Operand.tmp 73) (Go.Operand.tmp 74), type := 0, pos := "fix.go:508", after := #[{ on := 0, ground := Go.Ground.data }, { on := 1, ground := Go.Ground.data }], guard := none }) (v := ?_) rfl (by kernel_rfl) (by kernel_rfl) (by kernel_rfl) (fun _ _ _ h => h) (Or.inl ⟨by rfl, ?hy⟩) (by assumption) ?_
          case hy => (intro w9 hSw; (try dsimp only at hSw); go_simp; try with_reducible rfl)
          try simp only [Act.put, List.setIfInBounds_toArray, List.set_cons_zero, List.set_cons_succ]
          refine wpAnyH_take (i := 3) (oi := { dst := some 76, op := Go.Op.indexAddr 34 (Go.Operand.tmp 75) (Go.Operand.const (Go.Value.int Go.IntKind.i64 0)), type := 0, pos := "fix.go:508", after := #[{ on := 2, ground := Go.Ground.data }], guard := none }) (v := ?_) rfl (by kernel_rfl) (by kernel_rfl) (by kernel_rfl) (fun _ _ _ h => h) (Or.inl ⟨by rfl, ?hy⟩) (by assumption) ?_
          case hy => (intro w9 hSw; (try dsimp only at hSw); go_simp; try with_reducible rfl)
          try simp only [Act.put, List.setIfInBounds_toArray, List.set_cons_zero, List.set_cons_succ]
          refine wpAnyH_take (i := 4) (oi := { dst := some 77, op := Go.Op.load 3 (Go.Operand.tmp 76), type := 3, pos := "fix.go:508", after := #[{ on := 3, ground := Go.Ground.data }], guard := none }) (v := ?_) rfl (by kernel_rfl) (by kernel_rfl) (by kernel_rfl) (fun _ _ _ h => h) (Or.inl ⟨by rfl, ?hy⟩) (by assumption) ?_
          case hy => (intro w9 hSw; (try dsimp only at hSw); go_simp; try with_reducible rfl)
          try simp only [Act.put, List.setIfInBounds_toArray, List.set_cons_zero, List.set_cons_succ]
          refine wpAnyH_take (i := 5) (oi := { dst := some 78, op := Go.Op.move (Go.Operand.tmp 7), type := 22, pos := "fix.go:508", after := #[], guard := none }) (v := ?_) rfl (by kernel_rfl) (by kernel_rfl) (by kernel_rfl) (fun _ _ _ h => h) (Or.inl ⟨by rfl, ?hy⟩) (by assumption) ?_
          case hy => (intro w9 hSw; (try dsimp only at hSw); go_simp; try with_reducible rfl)
          try simp only [Act.put, List.setIfInBounds_toArray, List.set_cons_zero, List.set_cons_succ]
          refine wpAnyH_take (i := 6) (oi := { dst := some 79, op := Go.Op.move (Go.Operand.tmp 10), type := 3, pos := "fix.go:508", after := #[], guard := none }) (v := ?_) rfl (by kernel_rfl) (by kernel_rfl) (by kernel_rfl) (fun _ _ _ h => h) (Or.inl ⟨by rfl, ?hy⟩) (by assumption) ?_
          case hy => (intro w9 hSw; (try dsimp only at hSw); go_simp; try with_reducible rfl)
          try simp only [Act.put, List.setIfInBounds_toArray, List.set_cons_zero, List.set_cons_succ]
          refine wpAnyH_take (i := 7) (oi := { dst := some 80, op := Go.Op.indexAddr 22 (Go.Operand.tmp 78) (Go.Operand.tmp 79), type := 0, pos := "fix.go:508", after := #[{ on := 5, ground := Go.Ground.data }, { on := 6, ground := Go.Ground.data }], guard := none }) (v := ?_) rfl (by kernel_rfl) (by kernel_rfl) (by kernel_rfl) (fun _ _ _ h => h) (Or.inl ⟨by rfl, ?hy⟩) (by assumption) ?_
          case hy => (intro w9 hSw; (try dsimp only at hSw); go_simp; try with_reducible rfl)
          try simp only [Act.put, List.setIfInBounds_toArray, List.set_cons_zero, List.set_cons_succ]
          refine wpAnyH_take (i := 8) (oi := { dst := some 81, op := Go.Op.load 3 (Go.Operand.tmp 80), type := 3, pos := "fix.go:508", after := #[{ on := 7, ground := Go.Ground.data }], guard := none }) (v := ?_) rfl (by kernel_rfl) (by kernel_rfl) (by kernel_rfl) (fun _ _ _ h => h) (Or.inl ⟨by rfl, ?hy⟩) (by assumption) ?_
          case hy => (intro w9 hSw; (try dsimp only at hSw); go_simp; try with_reducible rfl)
          try simp only [Act.put, List.setIfInBounds_toArray, List.set_cons_zero, List.set_cons_succ]
          refine wpAnyH_take (i := 9) (oi := { dst := some 82, op := Go.Op.binOp Go.BinOp.neq 3 (Go.Operand.tmp 77) (Go.Operand.tmp 81) 3, type := 4, pos := "fix.go:508", after := #[{ on := 4, ground := Go.Ground.data }, { on := 8, ground := Go.Ground.data }], guard := none }) (v := ?_) rfl (by kernel_rfl) (by kernel_rfl) (by kernel_rfl) (fun _ _ _ h => h) (Or.inl ⟨by rfl, ?hy⟩) (by assumption) ?_
          case hy => (intro w9 hSw; (try dsimp only at hSw); go_simp; try with_reducible rfl)
          try simp only [Act.put, List.setIfInBounds_toArray, List.set_cons_zero, List.set_cons_succ]
          refine wpAnyH_done (by kernel_rfl) ?_ _
          try simp only [Act.put, List.setIfInBounds_toArray, List.set_cons_zero, List.set_cons_succ]
          go_wp2_with fail
          go_roundw
          case rel => exact ⟨j + 1, by omega, by go_num, HKK⟩
          case measure => simp [intOf]; omega
        · obtain rfl : j = q := by omega
          go_wp2_with fail
          go_ret
          exact ⟨rfl, Below.then HB7.out hBZ.out⟩
end Go.Proofs.Ytpmgengddnafeab
