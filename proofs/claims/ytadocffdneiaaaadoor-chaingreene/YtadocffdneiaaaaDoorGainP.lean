/-
  What chain.gains answers. Conditions: foes; at most ten points; the library's table lies in its variable.
-/
import Derived.Deep.RegionHeld3
import Derived.Test.YtadocffdneiaaaaDoorFreeP
import Derived.Test.YtadocffdneiaaaaDoorLate
namespace Go.Proofs.YtadocffdneiaaaaDoor
open Go.RowKit

/-- An append of one number to a row of the call's own. -/
theorem wp_grow {o : Oper} {a : Act} {K : Act → World → Prop} {Q : Exit → Act → World → Prop} (w : World) (s x : Operand)
    (ho : o.op = .call { callee := .builtin .append, args := #[s, x], argTypes := #[22, 22] }) (base : Nat) (v : Value) (n : Nat) (xs : List Value) (hs : a.eval s = v) (hown : w.ownsRow base 3 1 v n xs)
    (b : Nat) (u : Int) (hx : a.eval x = .slice (some ⟨b, 0, none⟩) 1 1) (hc : w.cell? ⟨b, 0, none⟩ = some (.int .i64 u)) (hlen : n ≤ 1000) (hbase : base ≤ w.heap.size)
    (h : ∀ v' w', w'.ownsRow base 3 1 v' (n + 1) (xs ++ [.int .i64 u]) → w.grownBy w' v.ownBlock → (v'.ownBlock = v.ownBlock ∨ v'.ownBlock = some w.heap.size) → K (a.put o.dst v') w') : o.wp Tryd.prog a w K Q := by
  obtain ⟨i0, hi, hz0, hz1, hz2⟩ := info_parts Tryd.info3
  obtain ⟨v', w', hr, h2, h3, _, h5⟩ := run_append_own_at (P := Tryd.prog) w base 22 o.type 3 i0 (.int .i64 0) 1 8 Tryd.underlying22 hi hz0 hz1 hz2 rfl (by decide) v n xs hown ⟨b, 0, none⟩ 1 1 [.int .i64 u] rfl (fun j q hj => by
    match j, hj with
    | 0, hj => simp at hj; subst hj; simpa [Addr.add] using hc) (fun q hq => by simp at hq; subst hq; rfl) (by unfold maxLen; omega) (by omega) hbase
  unfold Oper.wp execOp
  simp only [ho, resolve, invoke, builtin, Sem.run_bind, Sem.run_pure, Result.andThen_ok, List.map_toArray, List.map_cons, List.map_nil, hs, hx, hr]
  exact h v' w' h2 h3 h5
/-- The rounds over the sets. -/
def mst (F : Nat → Nat) (m u j : Nat) : Nat := mxB (fun s => frs F m s == j) pc u
theorem mst_zero (F : Nat → Nat) (m : Nat) : mst F m 0 = fun _ => 0 := rfl
theorem mst_succ (F : Nat → Nat) (m u : Nat) : mst F m (u + 1) = upd (mst F m u) (frs F m u) (max (mst F m u (frs F m u)) (pc u)) := by
  funext j
  unfold mst
  by_cases e : j = frs F m u
  · subst e
    rw [upd_same, mxB]
    by_cases c : mxB (fun s => frs F m s == frs F m u) pc u < pc u
    · rw [if_pos ⟨by simp, c⟩]; omega
    · rw [if_neg (fun h => c h.2)]; omega
  · rw [upd_other _ _ _ _ e, mxB, if_neg (fun h => e (by have := h.1; simp at this; exact this.symm))]
theorem mst_le (F : Nat → Nat) (m u j : Nat) : mst F m u j ≤ 10 := mxB_le _ fun s _ _ => pc_le2 s

set_option maxRecDepth 20000 in
set_option maxHeartbeats 2000000 in
theorem gains_any (m : Nat) (a : Option Addr) (cap : Nat) (F : Nat → Nat) (w : World) (hF : Foe F m) (hr : Row w a m (fun k => (F k : Nat))) (hT : Tab w) :
    Calls Tryd.prog 11 #[.slice a m cap] w fun e w' => (∃ v, e = .returned v ∧ NSl w' v (shp (Msh F m) (frs F m (pw m - 1)))) ∧ Below w.heap.size w w' := by
  obtain ⟨i0, hi, hz0, hz1, hz2⟩ := info_parts Tryd.info3
  have hm := hF.m10
  have HR : Hid (Row w a m (fun k => (F k : Nat))) := hr
  have HF : Hid (Foe F m) := hF
  have HT : Hid (Tab w) := hT
  have hpm := pw_le m hm
  have hpm0 := pw_pos m
  have hW : frs F m (pw m - 1) ≤ 10 := Nat.le_trans fr_le_pc (pc_le2 _)
  have HWM : Hid (∀ u, u < pw m → frs F m u ≤ frs F m (pw m - 1)) := fun u hu => fr_mono (sub_full hu)
  obtain ⟨P, HP⟩ : ∃ P, Hid (P = pw m) := ⟨_, rfl⟩
  have HEM : Hid (∀ j, j ≤ frs F m (pw m - 1) → mst F m P j = Msh F m j) := fun j hj => by rw [HP.out]; exact HF.out.E_M hj
  rw [← HP.out] at hpm hpm0 hW HWM HEM ⊢
  obtain ⟨W, HWE⟩ : ∃ W, Hid (frs F m (P - 1) = W) := ⟨_, rfl⟩
  rw [HWE.out] at hW HWM HEM ⊢
  clear hr hF hT
  go_enter Tryd.func11, Tryd.ntmps11
  go_wp2_with fail
  refine (freeSizes_any m a cap F _ HF.out HR.out HT.out).mono ?_
  rintro e X1 ⟨⟨rfl, hown1⟩, hb1⟩
  rw [← HP.out] at hown1 ⊢
  have HB1 : Hid (Below w.heap.size w X1) := hb1
  have HO1 : Hid (∀ w', Below X1.heap.size X1 w' → Own w' w.heap.size P (frs F m)) := fun w' h => hown1.keep h (hown1.lt (k := 0) (by omega))
  have cW := (hown1 (P - 1) (by omega)).1
  rw [HWE.out] at cW
  have hp1 : IntKind.i64.wrap ((P : Int) - 1) = ((P - 1 : Nat) : Int) := by rw [wrap_i64_small _ (by omega) (by omega)]; omega
  have hp2 : ((P : Int) - 1) = ((P - 1 : Nat) : Int) := by omega
  have hw1 : IntKind.i64.wrap ((W : Int) + 1) = ((W + 1 : Nat) : Int) := by rw [wrap_i64_small _ (by omega) (by omega)]; omega
  have i1 : ((P - 1 : Nat) : Int) < (P : Int) := by omega
  clear hb1 hown1
  go_wp2_with (at_make; refine wpList_make_full _ rfl _ _ 22 rfl X1.heap.size 3 i0 (.int .i64 0) 1 Tryd.underlying22 hi hz0 hz1 .i64 .i64 _ _ (W + 1) rfl rfl rfl rfl (by rw [hz2]; omega) (by unfold maxLen; omega) (Nat.le_refl _) ?_; intro w2 hown2 hgrow2)
  have HW2 : Hid (Below X1.heap.size X1 w2) := (Below.refl _ _).grown hgrow2 (Nat.le_refl _) (by simp)
  have HO2 : Hid (Own w2 X1.heap.size (W + 1) (mst F m 0)) := by rw [mst_zero]; exact own_made hown2
  clear hown2 hgrow2 cW hp1 hp2 hw1 i1
  go_loopw [21] (fun x wx => ∃ u : Nat, u ≤ P ∧ x = .int .i64 u ∧ Hid (Own wx X1.heap.size (W + 1) (mst F m u)) ∧ Hid (Below X1.heap.size X1 wx)) (fun x _ => P - (intOf x).toNat)
  case atStart => exact ⟨0, Nat.zero_le _, rfl, HO2.out, HW2.out⟩
  case round =>
    clear HO2 HW2
    obtain ⟨u, hu, rfl, HO, HB⟩ := hrel
    by_cases hlt : u < P
    · have hus : u < 1024 := by omega
      obtain ⟨A1, HA1⟩ : ∃ A1, Hid (frs F m u = A1) := ⟨_, rfl⟩
      have hA1 : A1 ≤ W := by rw [← HA1.out]; exact HWM.out u hlt
      have hc := (HO1.out _ HB.out u hlt).1
      rw [HA1.out] at hc
      obtain ⟨A3, HA3⟩ : ∃ A3, Hid (mst F m u A1 = A3) := ⟨_, rfl⟩
      have hA3 : A3 ≤ 10 := by rw [← HA3.out]; exact mst_le F m u A1
      have hpc := pc_le2 u
      have HNX : Hid (mst F m (u + 1) = upd (mst F m u) A1 (max A3 (pc u))) := by
        rw [Hid, ← HA3.out, ← HA1.out]; exact mst_succ F m u
      have KD : Below wr.heap.size wr wr.drew := (Below.refl _ _).drew
      have KK0 : Below X1.heap.size X1 wr.drew := Below.then HB.out KD
      have HO30 : Own wr.drew X1.heap.size (W + 1) (mst F m u) := HO.out.keep KD (HO.out.lt (k := A1) (by omega))
      have c3 := (HO30 A1 (by omega)).1
      have f3 := (HO30 A1 (by omega)).2
      rw [HA3.out] at c3
      have hlt' : (u : Int) < (P : Int) := by omega
      have hA1' : (A1 : Int) < ((W + 1 : Nat) : Int) := by omega
      have hA1'' : (A1 : Int) < (W : Int) + 1 := by omega
      obtain ⟨X, HX⟩ : ∃ X, Hid (X = wr.drew) := ⟨_, rfl⟩
      rw [← HX.out] at c3 f3
      have KK : Hid (Below X1.heap.size X1 X) := by rw [HX.out]; exact KK0
      have HO3 : Hid (Own X X1.heap.size (W + 1) (mst F m u)) := by rw [HX.out]; exact HO30
      clear KK0 HO30 KD
      go_wp2_with fail
      refine wp_lates (S := (fun w' => w' = X)) (late := (fun i => i == 10)) (by kernel_rfl) ?_
      rw [← HX.out]
      have HS : Hid (X = X) := rfl
      refine lates_take (i := 0) (oi := { dst := some 26, op := Go.Op.move (Go.Operand.tmp 4), type := 22, pos := "chain.go:115", after := #[], guard := none }) (v := ?_) rfl (by kernel_rfl) (by kernel_rfl) (by kernel_rfl) ⟨rfl, by kernel_rfl⟩ (fun _ _ _ h => h) (Or.inl ⟨by rfl, ?hy⟩) HS.out ?_
      case hy => (intro w9 hSw; (try dsimp only at hSw); subst hSw; go_simp; try with_reducible rfl)
      try simp only [Act.put, List.setIfInBounds_toArray, List.set_cons_zero, List.set_cons_succ]
      refine lates_take (i := 1) (oi := { dst := some 27, op := Go.Op.move (Go.Operand.tmp 6), type := 3, pos := "chain.go:115", after := #[], guard := none }) (v := ?_) rfl (by kernel_rfl) (by kernel_rfl) (by kernel_rfl) ⟨rfl, by kernel_rfl⟩ (fun _ _ _ h => h) (Or.inl ⟨by rfl, ?hy⟩) HS.out ?_
      case hy => (intro w9 hSw; (try dsimp only at hSw); subst hSw; go_simp; try with_reducible rfl)
      try simp only [Act.put, List.setIfInBounds_toArray, List.set_cons_zero, List.set_cons_succ]
      refine lates_take (i := 2) (oi := { dst := some 28, op := Go.Op.move (Go.Operand.tmp 4), type := 22, pos := "chain.go:115", after := #[], guard := none }) (v := ?_) rfl (by kernel_rfl) (by kernel_rfl) (by kernel_rfl) ⟨rfl, by kernel_rfl⟩ (fun _ _ _ h => h) (Or.inl ⟨by rfl, ?hy⟩) HS.out ?_
      case hy => (intro w9 hSw; (try dsimp only at hSw); subst hSw; go_simp; try with_reducible rfl)
      try simp only [Act.put, List.setIfInBounds_toArray, List.set_cons_zero, List.set_cons_succ]
      refine lates_take (i := 3) (oi := { dst := some 29, op := Go.Op.move (Go.Operand.tmp 6), type := 3, pos := "chain.go:115", after := #[], guard := none }) (v := ?_) rfl (by kernel_rfl) (by kernel_rfl) (by kernel_rfl) ⟨rfl, by kernel_rfl⟩ (fun _ _ _ h => h) (Or.inl ⟨by rfl, ?hy⟩) HS.out ?_
      case hy => (intro w9 hSw; (try dsimp only at hSw); subst hSw; go_simp; try with_reducible rfl)
      try simp only [Act.put, List.setIfInBounds_toArray, List.set_cons_zero, List.set_cons_succ]
      refine lates_take (i := 4) (oi := { dst := some 30, op := Go.Op.indexAddr 22 (Go.Operand.tmp 28) (Go.Operand.tmp 29), type := 0, pos := "chain.go:115", after := #[{ on := 2, ground := Go.Ground.data }, { on := 3, ground := Go.Ground.data }], guard := none }) (v := ?_) rfl (by kernel_rfl) (by kernel_rfl) (by kernel_rfl) ⟨rfl, by kernel_rfl⟩ (fun _ _ _ h => h) (Or.inl ⟨by rfl, ?hy⟩) HS.out ?_
      case hy => (intro w9 hSw; (try dsimp only at hSw); subst hSw; go_simp; try with_reducible rfl)
      try simp only [Act.put, List.setIfInBounds_toArray, List.set_cons_zero, List.set_cons_succ]
      refine lates_take (i := 5) (oi := { dst := some 31, op := Go.Op.load 3 (Go.Operand.tmp 30), type := 3, pos := "chain.go:115", after := #[{ on := 4, ground := Go.Ground.data }], guard := none }) (v := ?_) rfl (by kernel_rfl) (by kernel_rfl) (by kernel_rfl) ⟨rfl, by kernel_rfl⟩ (fun _ _ _ h => h) (Or.inl ⟨by rfl, ?hy⟩) HS.out ?_
      case hy => (intro w9 hSw; (try dsimp only at hSw); subst hSw; go_simp; try with_reducible rfl)
      try simp only [Act.put, List.setIfInBounds_toArray, List.set_cons_zero, List.set_cons_succ]
      refine lates_take (i := 6) (oi := { dst := some 32, op := Go.Op.move (Go.Operand.tmp 5), type := 3, pos := "chain.go:115", after := #[], guard := none }) (v := ?_) rfl (by kernel_rfl) (by kernel_rfl) (by kernel_rfl) ⟨rfl, by kernel_rfl⟩ (fun _ _ _ h => h) (Or.inl ⟨by rfl, ?hy⟩) HS.out ?_
      case hy => (intro w9 hSw; (try dsimp only at hSw); subst hSw; go_simp; try with_reducible rfl)
      try simp only [Act.put, List.setIfInBounds_toArray, List.set_cons_zero, List.set_cons_succ]
      refine lates_ready (rs := [7]) (by kernel_rfl) (by simp) ?_
      refine AllLate.cons (o := { dst := some 33, op := Go.Op.call { callee := Go.Callee.value (Go.Operand.func 13), args := #[Go.Operand.tmp 32], argTypes := #[3] }, type := 3, pos := "chain.go:115", after := #[{ on := 6, ground := Go.Ground.data }], guard := none }) rfl (fun K hK => ?_) ?_
      · go_simp
        refine (size_any u _ hus).mono ?_
        rintro e w3 ⟨rfl, hww⟩
        subst hww
        refine hK.out _ _ (fun _ => ?_) ?_
        · exact HS.out

        clear hK K
        try simp only [Act.put, List.setIfInBounds_toArray, List.set_cons_zero, List.set_cons_succ]
        refine lates_take (i := 8) (oi := { dst := some 34, op := Go.Op.call { callee := Go.Callee.builtin Go.Builtin.max, args := #[Go.Operand.tmp 31, Go.Operand.tmp 33], argTypes := #[3, 3] }, type := 3, pos := "chain.go:115", after := #[{ on := 5, ground := Go.Ground.data }, { on := 7, ground := Go.Ground.data }], guard := none }) (v := .int .i64 ((max A3 (pc u) : Nat) : Int)) rfl (by kernel_rfl) (by kernel_rfl) (by kernel_rfl) ⟨rfl, by kernel_rfl⟩ (fun _ _ _ h => h) (Or.inl ⟨by rfl, ?hy⟩) HS.out ?_
        case hy => (intro w9 hSw; (try dsimp only at hSw); subst hSw; go_simp <;> (first | with_reducible rfl | (simp; omega) | omega))
        try simp only [Act.put, List.setIfInBounds_toArray, List.set_cons_zero, List.set_cons_succ]
        refine lates_take (i := 9) (oi := { dst := some 35, op := Go.Op.indexAddr 22 (Go.Operand.tmp 26) (Go.Operand.tmp 27), type := 0, pos := "chain.go:115", after := #[{ on := 0, ground := Go.Ground.data }, { on := 1, ground := Go.Ground.data }, { on := 0, ground := Go.Ground.phase }, { on := 1, ground := Go.Ground.phase }, { on := 2, ground := Go.Ground.phase }, { on := 3, ground := Go.Ground.phase }, { on := 4, ground := Go.Ground.phase }, { on := 5, ground := Go.Ground.phase }, { on := 6, ground := Go.Ground.phase }, { on := 7, ground := Go.Ground.phase }, { on := 8, ground := Go.Ground.phase }], guard := none }) (v := ?_) rfl (by kernel_rfl) (by kernel_rfl) (by kernel_rfl) ⟨rfl, by kernel_rfl⟩ (fun _ _ _ h => h) (Or.inl ⟨by rfl, ?hy⟩) HS.out ?_
        case hy => (intro w9 hSw; (try dsimp only at hSw); subst hSw; go_simp; try with_reducible rfl)
        try simp only [Act.put, List.setIfInBounds_toArray, List.set_cons_zero, List.set_cons_succ]
        refine lates_ready (rs := [10]) (by kernel_rfl) (by simp) ?_
        refine AllLate.cons (o := { dst := none, op := Go.Op.store 3 (Go.Operand.tmp 35) (Go.Operand.tmp 34), type := 0, pos := "chain.go:115", after := #[{ on := 9, ground := Go.Ground.data }, { on := 8, ground := Go.Ground.data }, { on := 7, ground := Go.Ground.chain }, { on := 0, ground := Go.Ground.phase }, { on := 1, ground := Go.Ground.phase }, { on := 2, ground := Go.Ground.phase }, { on := 3, ground := Go.Ground.phase }, { on := 4, ground := Go.Ground.phase }, { on := 5, ground := Go.Ground.phase }, { on := 6, ground := Go.Ground.phase }, { on := 7, ground := Go.Ground.phase }, { on := 8, ground := Go.Ground.phase }], guard := none }) rfl (fun K hK => ?_) ?_
        · go_simp
          skip
          refine hK.out _ _ (fun h => by cases h) ?_
          clear hK K
          try simp only [Act.put, List.setIfInBounds_toArray, List.set_cons_zero, List.set_cons_succ]
          refine lates_done (by kernel_rfl) ?_ _
          try simp only [Act.put, List.setIfInBounds_toArray, List.set_cons_zero, List.set_cons_succ]
          have HO4 : Hid (Own (X.setCell ⟨X1.heap.size, A1, none⟩ (.int .i64 (max A3 (pc u) : Nat))) X1.heap.size (W + 1) (mst F m (u + 1))) := by rw [HNX.out]; exact HO3.out.set A1 _ (by omega)
          have HB4 : Hid (Below X1.heap.size X1 (X.setCell ⟨X1.heap.size, A1, none⟩ (.int .i64 (max A3 (pc u) : Nat)))) := KK.out.setCell (p := ⟨X1.heap.size, A1, none⟩) (Nat.le_refl _) _
          clear HO3 HO HB KK HS c3 f3 hc
          go_wp2_with fail
          go_roundw
          case rel => exact ⟨u + 1, by omega, by go_num, HO4.out, HB4.out⟩
          case measure => simp [intOf]; omega
        exact AllLate.nil
      exact AllLate.nil
    · obtain rfl : u = P := by omega
      obtain ⟨V, HV⟩ : ∃ V, Hid (V = wr) := ⟨_, rfl⟩
      rw [← HV.out] at HO HB ⊢
      have hlow : X1.heap.size < V.heap.size := HO.out.lt (k := 0) (by omega)
      have HOV : Hid (∀ w', Below V.heap.size V w' → Own w' X1.heap.size (W + 1) (mst F m u)) := fun w' h => HO.out.keep h hlow
      have hw2 : IntKind.i64.wrap ((W : Int) + 1 - 1) = ((W : Nat) : Int) := by rw [wrap_i64_small _ (by omega) (by omega)]; omega
      have hw3 : IntKind.i64.wrap (((W + 1 : Nat) : Int) - 1) = ((W : Nat) : Int) := by rw [wrap_i64_small _ (by omega) (by omega)]; omega
      clear HV HO
      go_wp2_with (at_make; refine wpList_make_own _ rfl _ _ 22 rfl V.heap.size 3 i0 (.int .i64 0) 1 Tryd.underlying22 hi hz0 hz1 .i64 .i64 _ W rfl rfl rfl (by rw [hz2]; omega) (by unfold maxLen; omega) (Nat.le_refl _) ?_; intro w4 hown4 hgrow4)
      have HW4 : Hid (Below V.heap.size V w4) := (Below.refl _ _).grown hgrow4 (Nat.le_refl _) (by simp)
      have HO4 : Hid (w4.ownsRow V.heap.size 3 1 (.slice (some ⟨V.heap.size, 0, none⟩) 0 W) 0 []) := hown4
      clear hown4 hgrow4 hw2 hw3
      go_loopw [7, 8] (fun v x wx => ∃ k : Nat, 1 ≤ k ∧ k ≤ W + 1 ∧ x = .int .i64 k ∧ Hid (wx.ownsRow V.heap.size 3 1 v (k - 1) (natVals (shp (mst F m u) (k - 1)))) ∧ Hid (Below V.heap.size V wx)) (fun _ x _ => W + 1 - (intOf x).toNat)
      case atStart => exact ⟨1, Nat.le_refl _, by omega, rfl, HO4, HW4⟩
      case round =>
        clear HO4 HW4
        obtain ⟨k, h1k, hk, rfl, HOW, HWX⟩ := hrel
        by_cases hlt2 : k < W + 1
        · obtain ⟨C1, HC1⟩ : ∃ C1, Hid (mst F m u k = C1) := ⟨_, rfl⟩
          obtain ⟨C2, HC2⟩ : ∃ C2, Hid (mst F m u (k - 1) = C2) := ⟨_, rfl⟩
          have hle : C2 ≤ C1 := by
            rw [← HC1.out, ← HC2.out, HEM.out k (by omega), HEM.out (k - 1) (by omega)]; exact Msh_mono (Nat.sub_le _ _)
          have hC1 : C1 ≤ 10 := by rw [← HC1.out]; exact mst_le F m u k
          obtain ⟨DV, HDV⟩ : ∃ DV, DV = C1 - C2 := ⟨_, rfl⟩
          have HNL : Hid (shp (mst F m u) k = shp (mst F m u) (k - 1) ++ [DV]) := by
            rw [Hid, HDV, ← HC1.out, ← HC2.out]
            obtain ⟨j, rfl⟩ : ∃ j, k = j + 1 := ⟨k - 1, by omega⟩
            rfl
          have c1 : ∀ w', Below V.heap.size V w' → w'.cell? ⟨X1.heap.size, k, none⟩ = some (.int .i64 (C1 : Nat)) := fun w' h => by rw [← HC1.out]; exact (HOV.out w' h k hlt2).1
          have c2 : ∀ w', Below V.heap.size V w' → w'.cell? ⟨X1.heap.size, k - 1, none⟩ = some (.int .i64 (C2 : Nat)) := fun w' h => by rw [← HC2.out]; exact (HOV.out w' h (k - 1) (by omega)).1
          have i1 : (k : Int) < (W : Int) + 1 := by omega
          have i2 : ((k - 1 : Nat) : Int) < (W : Int) + 1 := by omega
          have i3 : ((k - 1 : Nat) : Int) < ((W + 1 : Nat) : Int) := by omega
          have i4 : (k : Int) < ((W + 1 : Nat) : Int) := by omega
          have hk1 : IntKind.i64.wrap ((k : Int) - 1) = ((k - 1 : Nat) : Int) := by rw [wrap_i64_small _ (by omega) (by omega)]; omega
          have hdv : IntKind.i64.wrap ((C1 : Int) - (C2 : Int)) = ((DV : Nat) : Int) := by rw [wrap_i64_small _ (by omega) (by omega)]; omega
          clear HDV
          go_wp2_with fail
          refine wp_lates (S := (fun w' => Below V.heap.size V w')) (late := (fun _ => false)) (by kernel_rfl) ?_
          obtain ⟨D, HD⟩ : ∃ D, Hid (D = wr.drew) := ⟨_, rfl⟩
          rw [← HD.out]
          have HOD : Hid (D.ownsRow V.heap.size 3 1 u7 (k - 1) (natVals (shp (mst F m u) (k - 1)))) := by rw [HD.out]; exact owns_below HOW.out (Below.refl _ _).drew
          have HS : Hid (Below V.heap.size V D) := by rw [HD.out]; exact Below.then HWX.out (Below.refl _ _).drew
          refine lates_take (i := 0) (oi := { dst := some 47, op := Go.Op.move (Go.Operand.tmp 7), type := 22, pos := "chain.go:119", after := #[], guard := none }) (v := ?_) rfl (by kernel_rfl) (by kernel_rfl) (by kernel_rfl) ⟨rfl, by kernel_rfl⟩ (fun _ _ _ h => h) (Or.inl ⟨by rfl, ?hy⟩) HS.out ?_
          case hy => (intro w9 hSw; skip; go_simp; try with_reducible rfl)
          try simp only [Act.put, List.setIfInBounds_toArray, List.set_cons_zero, List.set_cons_succ]
          refine lates_take (i := 1) (oi := { dst := some 48, op := Go.Op.move (Go.Operand.tmp 4), type := 22, pos := "chain.go:119", after := #[], guard := none }) (v := ?_) rfl (by kernel_rfl) (by kernel_rfl) (by kernel_rfl) ⟨rfl, by kernel_rfl⟩ (fun _ _ _ h => h) (Or.inl ⟨by rfl, ?hy⟩) HS.out ?_
          case hy => (intro w9 hSw; skip; go_simp; try with_reducible rfl)
          try simp only [Act.put, List.setIfInBounds_toArray, List.set_cons_zero, List.set_cons_succ]
          refine lates_take (i := 2) (oi := { dst := some 49, op := Go.Op.move (Go.Operand.tmp 8), type := 3, pos := "chain.go:119", after := #[], guard := none }) (v := ?_) rfl (by kernel_rfl) (by kernel_rfl) (by kernel_rfl) ⟨rfl, by kernel_rfl⟩ (fun _ _ _ h => h) (Or.inl ⟨by rfl, ?hy⟩) HS.out ?_
          case hy => (intro w9 hSw; skip; go_simp; try with_reducible rfl)
          try simp only [Act.put, List.setIfInBounds_toArray, List.set_cons_zero, List.set_cons_succ]
          refine lates_take (i := 3) (oi := { dst := some 50, op := Go.Op.indexAddr 22 (Go.Operand.tmp 48) (Go.Operand.tmp 49), type := 0, pos := "chain.go:119", after := #[{ on := 1, ground := Go.Ground.data }, { on := 2, ground := Go.Ground.data }], guard := none }) (v := ?_) rfl (by kernel_rfl) (by kernel_rfl) (by kernel_rfl) ⟨rfl, by kernel_rfl⟩ (fun _ _ _ h => h) (Or.inl ⟨by rfl, ?hy⟩) HS.out ?_
          case hy => (intro w9 hSw; skip; go_simp; try with_reducible rfl)
          try simp only [Act.put, List.setIfInBounds_toArray, List.set_cons_zero, List.set_cons_succ]
          refine lates_take (i := 4) (oi := { dst := some 51, op := Go.Op.load 3 (Go.Operand.tmp 50), type := 3, pos := "chain.go:119", after := #[{ on := 3, ground := Go.Ground.data }], guard := none }) (v := ?_) rfl (by kernel_rfl) (by kernel_rfl) (by kernel_rfl) ⟨rfl, by kernel_rfl⟩ (fun _ _ _ h => h) (Or.inl ⟨by rfl, ?hy⟩) HS.out ?_
          case hy => (intro w9 hSw; skip; go_simp; try with_reducible rfl)
          try simp only [Act.put, List.setIfInBounds_toArray, List.set_cons_zero, List.set_cons_succ]
          refine lates_take (i := 5) (oi := { dst := some 52, op := Go.Op.move (Go.Operand.tmp 4), type := 22, pos := "chain.go:119", after := #[], guard := none }) (v := ?_) rfl (by kernel_rfl) (by kernel_rfl) (by kernel_rfl) ⟨rfl, by kernel_rfl⟩ (fun _ _ _ h => h) (Or.inl ⟨by rfl, ?hy⟩) HS.out ?_
          case hy => (intro w9 hSw; skip; go_simp; try with_reducible rfl)
          try simp only [Act.put, List.setIfInBounds_toArray, List.set_cons_zero, List.set_cons_succ]
          refine lates_take (i := 6) (oi := { dst := some 53, op := Go.Op.move (Go.Operand.tmp 8), type := 3, pos := "chain.go:119", after := #[], guard := none }) (v := ?_) rfl (by kernel_rfl) (by kernel_rfl) (by kernel_rfl) ⟨rfl, by kernel_rfl⟩ (fun _ _ _ h => h) (Or.inl ⟨by rfl, ?hy⟩) HS.out ?_
          case hy => (intro w9 hSw; skip; go_simp; try with_reducible rfl)
          try simp only [Act.put, List.setIfInBounds_toArray, List.set_cons_zero, List.set_cons_succ]
          refine lates_take (i := 7) (oi := { dst := some 54, op := Go.Op.binOp Go.BinOp.sub 3 (Go.Operand.tmp 53) (Go.Operand.const (Go.Value.int Go.IntKind.i64 1)) 3, type := 3, pos := "chain.go:119", after := #[{ on := 6, ground := Go.Ground.data }], guard := none }) (v := .int .i64 ((k - 1 : Nat) : Int)) rfl (by kernel_rfl) (by kernel_rfl) (by kernel_rfl) ⟨rfl, by kernel_rfl⟩ (fun _ _ _ h => h) (Or.inl ⟨by rfl, ?hy⟩) HS.out ?_
          case hy => (intro w9 hSw; skip; go_simp <;> (first | with_reducible rfl | (simp; omega) | omega))
          try simp only [Act.put, List.setIfInBounds_toArray, List.set_cons_zero, List.set_cons_succ]
          refine lates_take (i := 8) (oi := { dst := some 55, op := Go.Op.indexAddr 22 (Go.Operand.tmp 52) (Go.Operand.tmp 54), type := 0, pos := "chain.go:119", after := #[{ on := 5, ground := Go.Ground.data }, { on := 7, ground := Go.Ground.data }], guard := none }) (v := ?_) rfl (by kernel_rfl) (by kernel_rfl) (by kernel_rfl) ⟨rfl, by kernel_rfl⟩ (fun _ _ _ h => h) (Or.inl ⟨by rfl, ?hy⟩) HS.out ?_
          case hy => (intro w9 hSw; skip; go_simp; try with_reducible rfl)
          try simp only [Act.put, List.setIfInBounds_toArray, List.set_cons_zero, List.set_cons_succ]
          refine lates_take (i := 9) (oi := { dst := some 56, op := Go.Op.load 3 (Go.Operand.tmp 55), type := 3, pos := "chain.go:119", after := #[{ on := 8, ground := Go.Ground.data }], guard := none }) (v := ?_) rfl (by kernel_rfl) (by kernel_rfl) (by kernel_rfl) ⟨rfl, by kernel_rfl⟩ (fun _ _ _ h => h) (Or.inl ⟨by rfl, ?hy⟩) HS.out ?_
          case hy => (intro w9 hSw; skip; go_simp; try with_reducible rfl)
          try simp only [Act.put, List.setIfInBounds_toArray, List.set_cons_zero, List.set_cons_succ]
          refine lates_take (i := 10) (oi := { dst := some 57, op := Go.Op.binOp Go.BinOp.sub 3 (Go.Operand.tmp 51) (Go.Operand.tmp 56) 3, type := 3, pos := "chain.go:119", after := #[{ on := 4, ground := Go.Ground.data }, { on := 9, ground := Go.Ground.data }], guard := none }) (v := .int .i64 ((DV : Nat) : Int)) rfl (by kernel_rfl) (by kernel_rfl) (by kernel_rfl) ⟨rfl, by kernel_rfl⟩ (fun _ _ _ h => h) (Or.inl ⟨by rfl, ?hy⟩) HS.out ?_
          case hy => (intro w9 hSw; skip; go_simp <;> (first | with_reducible rfl | (simp; omega) | omega))
          try simp only [Act.put, List.setIfInBounds_toArray, List.set_cons_zero, List.set_cons_succ]
          refine lates_ready (rs := [11]) (by kernel_rfl) (by simp) ?_
          refine AllLate.cons (o := { dst := some 58, op := Go.Op.buildSlice 22 1 #[(0, Go.Operand.tmp 57)], type := 22, pos := "chain.go:119", after := #[{ on := 10, ground := Go.Ground.data }], guard := none }) rfl (fun K hK => ?_) ?_
          · go_simp
            have HWw4 : Hid (Below V.heap.size V (D.alloc (.cells #[.int .i64 (DV : Nat)] 3))) := HS.out.alloc HS.out.size _
            have HO4 := (show Hid _ from owns_below HOD.out ((Below.refl D.heap.size D).alloc (Nat.le_refl _) (.cells #[.int .i64 (DV : Nat)] 3)))
            have hcell : (D.alloc (.cells #[.int .i64 (DV : Nat)] 3)).cell? ⟨D.heap.size, 0, none⟩ = some (.int .i64 (DV : Nat)) := by simp
            refine hK.out _ _ (fun _ => ?_) ?_
            · exact HWw4.out
            have HS : Hid (Below V.heap.size V (D.alloc (.cells #[.int .i64 (DV : Nat)] 3))) := HWw4.out
            clear hK K
            try simp only [Act.put, List.setIfInBounds_toArray, List.set_cons_zero, List.set_cons_succ]
            refine lates_ready (rs := [12]) (by kernel_rfl) (by simp) ?_
            refine AllLate.cons (o := { dst := some 59, op := Go.Op.call { callee := Go.Callee.builtin Go.Builtin.append, args := #[Go.Operand.tmp 47, Go.Operand.tmp 58], argTypes := #[22, 22] }, type := 22, pos := "chain.go:119", after := #[{ on := 0, ground := Go.Ground.data }, { on := 11, ground := Go.Ground.data }], guard := none }) rfl (fun K hK => ?_) ?_
            · rw [if_pos (by rfl)]
              refine wp_grow _ _ _ rfl V.heap.size u7 (k - 1) _ rfl HO4.out D.heap.size _ rfl hcell (by omega) HWw4.out.size ?_
              intro v5 w5 hown5 hgrow5 hblk5
              have HWw5 : Hid (Below V.heap.size V w5) := HWw4.out.grown hgrow5 HWw4.out.size (owns_block HO4.out)
              refine hK.out _ _ (fun _ => ?_) ?_
              · exact HWw5.out
              have HS : Hid (Below V.heap.size V w5) := HWw5.out
              clear hK K
              try simp only [Act.put, List.setIfInBounds_toArray, List.set_cons_zero, List.set_cons_succ]
              refine lates_take (i := 13) (oi := { dst := some 7, op := Go.Op.assign (Go.Operand.tmp 59), type := 22, pos := "chain.go:119", after := #[{ on := 12, ground := Go.Ground.data }, { on := 12, ground := Go.Ground.chain }, { on := 0, ground := Go.Ground.phase }, { on := 1, ground := Go.Ground.phase }, { on := 2, ground := Go.Ground.phase }, { on := 3, ground := Go.Ground.phase }, { on := 4, ground := Go.Ground.phase }, { on := 5, ground := Go.Ground.phase }, { on := 6, ground := Go.Ground.phase }, { on := 7, ground := Go.Ground.phase }, { on := 8, ground := Go.Ground.phase }, { on := 9, ground := Go.Ground.phase }, { on := 10, ground := Go.Ground.phase }, { on := 11, ground := Go.Ground.phase }, { on := 12, ground := Go.Ground.phase }], guard := none }) (v := ?_) rfl (by kernel_rfl) (by kernel_rfl) (by kernel_rfl) ⟨rfl, by kernel_rfl⟩ (fun _ _ _ h => h) (Or.inl ⟨by rfl, ?hy⟩) HS.out ?_
              case hy => (intro w9 hSw; skip; go_simp; try with_reducible rfl)
              try simp only [Act.put, List.setIfInBounds_toArray, List.set_cons_zero, List.set_cons_succ]
              refine lates_done (by kernel_rfl) ?_ _
              try simp only [Act.put, List.setIfInBounds_toArray, List.set_cons_zero, List.set_cons_succ]
              have HO6 : Hid (w5.ownsRow V.heap.size 3 1 v5 k (natVals (shp (mst F m u) k))) := by
                rw [HNL.out, natVals_append]
                have := hown5
                rw [show k - 1 + 1 = k by omega] at this
                exact this
              clear hown5 hgrow5 hblk5 HO4 HOD HOW HWX hcell
              go_wp2_with fail
              go_roundw
              case rel => exact ⟨k + 1, by omega, by omega, by go_num, by rw [Nat.add_sub_cancel]; exact HO6.out, HWw5.out⟩
              case measure => simp [intOf]; omega
            exact AllLate.nil
          exact AllLate.nil
        · obtain rfl : k = W + 1 := by omega
          have HFN : Hid (∃ v', u7 = v' ∧ NSl wr v' (shp (Msh F m) W)) := by
            refine ⟨_, rfl, ?_⟩
            have h1 : shp (Msh F m) W = shp (mst F m u) W := shp_congr W fun i hi => (HEM.out i hi).symm
            rw [h1]
            refine owns_nats (base := V.heap.size) ?_
            rw [shp_len]
            exact HOW.out
          have HBF : Hid (Below w.heap.size w wr) := Below.then HB1.out (Below.then HB.out HWX.out)
          go_wp2_with fail
          go_ret
          refine ⟨?_, HBF.out⟩
          obtain ⟨v', e, h⟩ := HFN.out
          exact ⟨_, rfl, by rw [← e] at h; exact h⟩
end Go.Proofs.YtadocffdneiaaaaDoor
