/-
  What chain.strangers answers. Condition: at most ten points.
-/
import Derived.Deep.RegionHeld3
import Derived.Test.YtadocffdneiaaaaDoorShapeM
namespace Go.Proofs.YtadocffdneiaaaaDoor
open Go.RowKit

def stF (K : Nat → Nat) (m p : Nat) : Nat := lack (pw m - 1) (K p ||| pw p)
def upTo0 (v : Nat → Nat) (u i : Nat) : Nat := if i < u then v i else 0
theorem upTo0_zero (v : Nat → Nat) : upTo0 v 0 = fun _ => 0 := by funext i; simp [upTo0]
theorem upTo0_succ (v : Nat → Nat) (u : Nat) : upTo0 v (u + 1) = upd (upTo0 v u) u (v u) := by
  funext i
  by_cases e : i = u
  · subst e; rw [upd_same]; simp [upTo0]
  · rw [upd_other _ _ _ _ e]
    have : (i < u + 1) = (i < u) := by simp; omega
    simp only [upTo0, this]

set_option maxHeartbeats 2000000 in
theorem strangers_any (m : Nat) (a : Option Addr) (cap : Nat) (K : Nat → Nat) (w : World) (hm : m ≤ 10) (hK : ∀ k, k < m → K k < 1024) (hr : Row w a m (fun k => (K k : Nat))) :
    Calls Tryd.prog 12 #[.slice a m cap] w fun e w' => (e = .returned (.slice (some ⟨w.heap.size, 0, none⟩) m m) ∧ Own w' w.heap.size m (stF K m)) ∧ Below w.heap.size w w' := by
  obtain ⟨i0, hi, hz0, hz1, hz2⟩ := info_parts Tryd.info3
  have HR : Hid (∀ w', Below w.heap.size w w' → Row w' a m (fun k => (K k : Nat))) := fun w' h => hr.below h
  have HKS : Hid (∀ k, k < m → K k < 1024) := hK
  clear hr hK
  go_enter Tryd.func12, Tryd.ntmps12
  go_wp2_with (at_make; refine wpList_make_full _ rfl _ _ 22 rfl w.heap.size 3 i0 (.int .i64 0) 1 Tryd.underlying22 hi hz0 hz1 .i64 .i64 _ _ m rfl rfl rfl rfl (by rw [hz2]; omega) (by unfold maxLen; omega) (Nat.le_refl _) ?_; intro w2 hown2 hgrow2)
  have HW2 : Hid (Below w.heap.size w w2) := (Below.refl _ _).grown hgrow2 (Nat.le_refl _) (by simp)
  have HO2 : Hid (Own w2 w.heap.size m (upTo0 (stF K m) 0)) := by rw [upTo0_zero]; exact own_made hown2
  clear hown2 hgrow2 hi hz0 hz1 hz2
  go_loopw [11] (fun x wx => ∃ u : Nat, u ≤ m ∧ x = .int .i64 u ∧ Hid (Own wx w.heap.size m (upTo0 (stF K m) u)) ∧ Hid (Below w.heap.size w wx)) (fun x _ => m - (intOf x).toNat)
  case atStart => exact ⟨0, Nat.zero_le _, rfl, HO2.out, HW2.out⟩
  case round =>
    clear HO2 HW2
    obtain ⟨u, hu, rfl, HO, HB⟩ := hrel
    by_cases hlt : u < m
    · obtain ⟨rb, ro, rfl, hc⟩ := HR.out _ HB.out u hlt
      have hks := HKS.out u hlt
      have hpu := pw_le u (by omega)
      have hpm := pw_le m hm
      have hpm0 := pw_pos m
      have hsh := wrap_pow u (by omega)
      have hsh2 : IntKind.i64.wrap (2 ^ u) = ((pw u : Nat) : Int) := by
        have e : (2 : Int) ^ u = ((pw u : Nat) : Int) := by unfold pw; simp
        rw [e, wrap_i64_small _ (by omega) (by omega)]
      have hor := i64_or (K u) (pw u) (by omega) (by omega)
      have hop : K u ||| pw u < 1024 := Nat.or_lt_two_pow (n := 10) hks (small_pw (by omega))
      have hano : bits .andNot .i64 (((pw m : Nat) : Int) - 1) ((K u ||| pw u : Nat) : Int) = ((stF K m u : Nat) : Int) := by
        rw [show (((pw m : Nat) : Int) - 1) = ((pw m - 1 : Nat) : Int) by omega]
        exact i64_andNot _ _ (by omega) (by omega)
      have hkq : (u : Int) < (m : Int) := by omega
      have KD : Below wr.heap.size wr wr.drew := (Below.refl _ _).drew
      have KK : Below w.heap.size w wr.drew := Below.then HB.out KD
      have HO3 : Hid (Own wr.drew w.heap.size m (upTo0 (stF K m) u)) := HO.out.keep KD (HO.out.lt hlt)
      have c3 := (HO3.out u hlt).1
      have f3 := (HO3.out u hlt).2
      have HNX : Hid (upTo0 (stF K m) (u + 1) = upd (upTo0 (stF K m) u) u (stF K m u)) := upTo0_succ _ u
      generalize upTo0 (stF K m) u u = A3 at c3
      go_wp2_with fail
      refine wp_region_held_drew (S := (fun w' => Below w.heap.size w w')) (by kernel_rfl) (KK) (fun hHeld => ?_)
      refine wpAnyH_take (i := 0) (oi := { dst := some 16, op := Go.Op.move (Go.Operand.tmp 3), type := 22, pos := "chain.go:86", after := #[], guard := none }) (v := ?_) rfl (by kernel_rfl) (by kernel_rfl) (by kernel_rfl) (fun _ _ _ h => h) (Or.inl ⟨by rfl, ?hy⟩) (by assumption) ?_
      case hy => (intro w9 hSw; (try dsimp only at hSw); go_simp; try with_reducible rfl)
      try simp only [Act.put, List.setIfInBounds_toArray, List.set_cons_zero, List.set_cons_succ]
      refine wpAnyH_take (i := 1) (oi := { dst := some 17, op := Go.Op.move (Go.Operand.tmp 4), type := 3, pos := "chain.go:86", after := #[], guard := none }) (v := ?_) rfl (by kernel_rfl) (by kernel_rfl) (by kernel_rfl) (fun _ _ _ h => h) (Or.inl ⟨by rfl, ?hy⟩) (by assumption) ?_
      case hy => (intro w9 hSw; (try dsimp only at hSw); go_simp; try with_reducible rfl)
      try simp only [Act.put, List.setIfInBounds_toArray, List.set_cons_zero, List.set_cons_succ]
      refine wpAnyH_take (i := 2) (oi := { dst := some 18, op := Go.Op.move (Go.Operand.tmp 0), type := 22, pos := "chain.go:86", after := #[], guard := none }) (v := ?_) rfl (by kernel_rfl) (by kernel_rfl) (by kernel_rfl) (fun _ _ _ h => h) (Or.inl ⟨by rfl, ?hy⟩) (by assumption) ?_
      case hy => (intro w9 hSw; (try dsimp only at hSw); go_simp; try with_reducible rfl)
      try simp only [Act.put, List.setIfInBounds_toArray, List.set_cons_zero, List.set_cons_succ]
      refine wpAnyH_take (i := 3) (oi := { dst := some 19, op := Go.Op.call { callee := Go.Callee.builtin Go.Builtin.len, args := #[Go.Operand.tmp 18], argTypes := #[22] }, type := 3, pos := "chain.go:86", after := #[{ on := 2, ground := Go.Ground.data }], guard := none }) (v := ?_) rfl (by kernel_rfl) (by kernel_rfl) (by kernel_rfl) (fun _ _ _ h => h) (Or.inl ⟨by rfl, ?hy⟩) (by assumption) ?_
      case hy => (intro w9 hSw; (try dsimp only at hSw); go_simp; try with_reducible rfl)
      try simp only [Act.put, List.setIfInBounds_toArray, List.set_cons_zero, List.set_cons_succ]
      refine wpAnyH_take (i := 5) (oi := { dst := some 21, op := Go.Op.move (Go.Operand.tmp 5), type := 3, pos := "chain.go:86", after := #[], guard := none }) (v := ?_) rfl (by kernel_rfl) (by kernel_rfl) (by kernel_rfl) (fun _ _ _ h => h) (Or.inl ⟨by rfl, ?hy⟩) (by assumption) ?_
      case hy => (intro w9 hSw; (try dsimp only at hSw); go_simp; try with_reducible rfl)
      try simp only [Act.put, List.setIfInBounds_toArray, List.set_cons_zero, List.set_cons_succ]
      refine wpAnyH_take (i := 6) (oi := { dst := some 22, op := Go.Op.move (Go.Operand.tmp 4), type := 3, pos := "chain.go:86", after := #[], guard := none }) (v := ?_) rfl (by kernel_rfl) (by kernel_rfl) (by kernel_rfl) (fun _ _ _ h => h) (Or.inl ⟨by rfl, ?hy⟩) (by assumption) ?_
      case hy => (intro w9 hSw; (try dsimp only at hSw); go_simp; try with_reducible rfl)
      try simp only [Act.put, List.setIfInBounds_toArray, List.set_cons_zero, List.set_cons_succ]
      refine wpAnyH_take (i := 7) (oi := { dst := some 23, op := Go.Op.binOp Go.BinOp.shl 3 (Go.Operand.const (Go.Value.int Go.IntKind.i64 1)) (Go.Operand.tmp 22) 3, type := 3, pos := "chain.go:86", after := #[{ on := 6, ground := Go.Ground.data }], guard := none }) (v := .int .i64 ((pw u : Nat) : Int)) rfl (by kernel_rfl) (by kernel_rfl) (by kernel_rfl) (fun _ _ _ h => h) (Or.inl ⟨by rfl, ?hy⟩) (by assumption) ?_
      case hy => (intro w9 hSw; (try dsimp only at hSw); go_simp <;> (first | with_reducible rfl | (simp; omega) | omega))
      try simp only [Act.put, List.setIfInBounds_toArray, List.set_cons_zero, List.set_cons_succ]
      refine wpAnyH_take (i := 8) (oi := { dst := some 24, op := Go.Op.binOp Go.BinOp.or 3 (Go.Operand.tmp 21) (Go.Operand.tmp 23) 3, type := 3, pos := "chain.go:86", after := #[{ on := 5, ground := Go.Ground.data }, { on := 7, ground := Go.Ground.data }], guard := none }) (v := ?_) rfl (by kernel_rfl) (by kernel_rfl) (by kernel_rfl) (fun _ _ _ h => h) (Or.inl ⟨by rfl, ?hy⟩) (by assumption) ?_
      case hy => (intro w9 hSw; (try dsimp only at hSw); go_simp; try with_reducible rfl)
      try simp only [Act.put, List.setIfInBounds_toArray, List.set_cons_zero, List.set_cons_succ]
      refine wpAnyH_ready (rs := [4]) (by kernel_rfl) (by simp) ?_
      refine AllReadyH.cons (o := { dst := some 20, op := Go.Op.call { callee := Go.Callee.value (Go.Operand.func 17), args := #[Go.Operand.tmp 19], argTypes := #[3] }, type := 3, pos := "chain.go:86", after := #[{ on := 3, ground := Go.Ground.data }], guard := none }) rfl (fun K hK => ?_) AllReadyH.nil
      go_simp
      refine (all_any m _ hm).mono ?_
      rintro e w3 ⟨rfl, hww⟩
      subst hww
      refine hK.out _ _ ?_ (fun hHeld => ?_)
      · exact KK
      clear hK K
      try simp only [Act.put, List.setIfInBounds_toArray, List.set_cons_zero, List.set_cons_succ]
      refine wpAnyH_take (i := 9) (oi := { dst := some 25, op := Go.Op.binOp Go.BinOp.andNot 3 (Go.Operand.tmp 20) (Go.Operand.tmp 24) 3, type := 3, pos := "chain.go:86", after := #[{ on := 4, ground := Go.Ground.data }, { on := 8, ground := Go.Ground.data }], guard := none }) (v := .int .i64 ((stF K m u : Nat) : Int)) rfl (by kernel_rfl) (by kernel_rfl) (by kernel_rfl) (fun _ _ _ h => h) (Or.inl ⟨by rfl, ?hy⟩) (by assumption) ?_
      case hy => (intro w9 hSw; (try dsimp only at hSw); go_simp <;> (first | with_reducible rfl | (simp; omega) | omega))
      try simp only [Act.put, List.setIfInBounds_toArray, List.set_cons_zero, List.set_cons_succ]
      refine wpAnyH_take (i := 10) (oi := { dst := some 26, op := Go.Op.indexAddr 22 (Go.Operand.tmp 16) (Go.Operand.tmp 17), type := 0, pos := "chain.go:86", after := #[{ on := 0, ground := Go.Ground.data }, { on := 1, ground := Go.Ground.data }, { on := 0, ground := Go.Ground.phase }, { on := 1, ground := Go.Ground.phase }, { on := 2, ground := Go.Ground.phase }, { on := 3, ground := Go.Ground.phase }, { on := 4, ground := Go.Ground.phase }, { on := 5, ground := Go.Ground.phase }, { on := 6, ground := Go.Ground.phase }, { on := 7, ground := Go.Ground.phase }, { on := 8, ground := Go.Ground.phase }, { on := 9, ground := Go.Ground.phase }], guard := none }) (v := ?_) rfl (by kernel_rfl) (by kernel_rfl) (by kernel_rfl) (fun _ _ _ h => h) (Or.inl ⟨by rfl, ?hy⟩) (by assumption) ?_
      case hy => (intro w9 hSw; (try dsimp only at hSw); go_simp; try with_reducible rfl)
      try simp only [Act.put, List.setIfInBounds_toArray, List.set_cons_zero, List.set_cons_succ]
      refine wpAnyH_ready (rs := [11]) (by kernel_rfl) (by simp) ?_
      refine AllReadyH.cons (o := { dst := none, op := Go.Op.store 3 (Go.Operand.tmp 26) (Go.Operand.tmp 25), type := 0, pos := "chain.go:86", after := #[{ on := 10, ground := Go.Ground.data }, { on := 9, ground := Go.Ground.data }, { on := 4, ground := Go.Ground.chain }, { on := 0, ground := Go.Ground.phase }, { on := 1, ground := Go.Ground.phase }, { on := 2, ground := Go.Ground.phase }, { on := 3, ground := Go.Ground.phase }, { on := 4, ground := Go.Ground.phase }, { on := 5, ground := Go.Ground.phase }, { on := 6, ground := Go.Ground.phase }, { on := 7, ground := Go.Ground.phase }, { on := 8, ground := Go.Ground.phase }, { on := 9, ground := Go.Ground.phase }], guard := none }) rfl (fun K hK => ?_) AllReadyH.nil
      go_simp
      refine hK.out _ _ ?_ (fun hHeld => ?_)
      · exact KK.setCell (p := ⟨w.heap.size, u, none⟩) (Nat.le_refl _) _
      clear hK K
      try simp only [Act.put, List.setIfInBounds_toArray, List.set_cons_zero, List.set_cons_succ]
      refine wpAnyH_done (by kernel_rfl) ?_ _
      try simp only [Act.put, List.setIfInBounds_toArray, List.set_cons_zero, List.set_cons_succ]
      have HO4 : Hid (Own (wr.drew.setCell ⟨w.heap.size, u, none⟩ (.int .i64 (stF K m u : Nat))) w.heap.size m (upTo0 (stF K m) (u + 1))) := by rw [HNX.out]; exact HO3.out.set u _ hlt
      have HB4 : Hid (Below w.heap.size w (wr.drew.setCell ⟨w.heap.size, u, none⟩ (.int .i64 (stF K m u : Nat)))) := KK.setCell (p := ⟨w.heap.size, u, none⟩) (Nat.le_refl _) _
      clear HO3 HO HB KK KD hHeld c3 f3 hc
      go_wp2_with fail
      go_roundw
      case rel => exact ⟨u + 1, by omega, by go_num, HO4.out, HB4.out⟩
      case measure => simp [intOf]; omega
    · obtain rfl : m = u := by omega
      have HF : Hid (Own wr w.heap.size m (stF K m)) := HO.out.congr (fun i hi => by simp [upTo0, hi])
      go_wp2_with fail
      go_ret
      exact ⟨⟨rfl, HF.out⟩, HB.out⟩
end Go.Proofs.YtadocffdneiaaaaDoor
