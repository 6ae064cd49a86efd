/-
  What imply.Follows answers, whatever it is handed. No condition but that a slice reads as a slice of rules.
-/
import Derived.Deep.RegionHeld3
import Derived.Test.YtgjdpgjaaaeglaaDoorImpK
namespace Go.Proofs.YtgjdpgjaaaeglaaDoor
open Go.RowKit

/-- What Follows must answer. -/
def FoIs (N : Int) (len : Nat) (p : Nat → Int × Int) (X Y : Int) (e : Ending) : Prop :=
  (∃ c : Int, c ≠ 0 ∧ RChk N len p c ∧ e = .returned (.tuple #[.bool false, .int .i64 c])) ∨
  (∃ n : Nat, N = n ∧ RChk N len p 0 ∧ n ≤ 10 ∧ len ≤ 60 ∧ RIs n len p ∧ ((riB X Y n = false ∧ e = .returned (.tuple #[.bool false, .int .i64 3])) ∨ ∃ x y : Nat, X = x ∧ Y = y ∧ x < pw n ∧ y < pw n ∧ e = .returned (.tuple #[.bool (obe (clo (rls p len) n x) (x, y)), .int .i64 0])))
set_option maxHeartbeats 2000000 in
theorem follows_any (N : Int) (a : Option Addr) (len cap : Nat) (p : Nat → Int × Int) (X Y : Int) (w : World) (hl : len ≤ maxLen) (hr : PRow w a len p) :
    Calls Tryd.prog 22 #[.int .i64 N, .slice a len cap, .agg #[.int .i64 X, .int .i64 Y]] w fun e w' => FoIs N len p X Y e ∧ Below w.heap.size w w' := by
  obtain ⟨W0, HW0⟩ : ∃ W0, Hid (W0 = w.alloc (.cells #[.int .i64 X, .int .i64 Y] 47)) := ⟨_, rfl⟩
  have B0 : Below w.heap.size w W0 := by rw [HW0.out]; exact (Below.refl _ _).alloc (Nat.le_refl _) _
  have HB0 : Hid (Below w.heap.size w W0) := B0
  have HR : Hid (∀ w', Below w.heap.size w w' → PRow w' a len p) := fun w' h => hr.below h
  have HCK : Hid (Calls Tryd.prog 26 #[.int .i64 N, .slice a len cap] W0 _) := iCheck_any N a len cap p W0 hl (hr.below B0)
  have d0 : W0.cell? ⟨w.heap.size, 0, none⟩ = some (.int .i64 X) := by rw [HW0.out]; simp
  have d1 : W0.cell? ⟨w.heap.size, 1, none⟩ = some (.int .i64 Y) := by rw [HW0.out]; simp
  have HD0 : Hid (W0.cell? ⟨w.heap.size, 0, none⟩ = some (.int .i64 X)) := d0
  have HD1 : Hid (W0.cell? ⟨w.heap.size, 1, none⟩ = some (.int .i64 Y)) := d1
  clear hr d0 d1 B0
  go_enter Tryd.func22, Tryd.ntmps22
  go_wp2_with fail
  rw [← HW0.out]
  refine HCK.out.mono ?_
  rintro e W ⟨⟨c, rfl, hc⟩, hb⟩
  have HB1 : Hid (Below w.heap.size w W) := Below.then HB0.out hb
  have c0 : W.cell? ⟨w.heap.size, 0, none⟩ = some (.int .i64 X) := (hb.cell (World.block_lt_of_cell? _ _ HD0.out)).trans HD0.out
  have c1 : W.cell? ⟨w.heap.size, 1, none⟩ = some (.int .i64 Y) := (hb.cell (World.block_lt_of_cell? _ _ HD1.out)).trans HD1.out
  clear hb HCK HW0 HD0 HD1
  by_cases h0 : c = 0
  · subst h0
    obtain ⟨n, rfl, h10, h60, hri⟩ := hc.good
    have HC : Hid (RChk (n : Int) len p 0) := hc
    have HRI : Hid (RIs n len p) := hri
    clear hc hri
    rcases (Bool.eq_false_or_eq_true (riB X Y n)).symm with hs | hs
    · go_wp2_with fail
      refine (isOf_any n X Y _ h10).mono ?_
      rintro e w2 ⟨rfl, hb2⟩
      rw [hs]
      have HB2 : Hid (Below w.heap.size w w2) := Below.then HB1.out hb2
      clear hb2
      go_wp2_with fail
      go_ret2
      exact ⟨.inr ⟨n, rfl, HC.out, h10, h60, HRI.out, .inl ⟨hs, rfl⟩⟩, HB2.out⟩
    · obtain ⟨⟨x0, x1⟩, y0, y1⟩ := riB_iff.1 hs
      obtain ⟨x, rfl⟩ := Int.eq_ofNat_of_zero_le x0
      obtain ⟨y, rfl⟩ := Int.eq_ofNat_of_zero_le y0
      have hx : x < pw n := by omega
      have hy : y < pw n := by omega
      have hx1 := set_1024 h10 hx
      have hy1 := set_1024 h10 hy
      obtain ⟨R, HRE⟩ : ∃ R, Hid (R = rls p len) := ⟨_, rfl⟩
      have hlen : R.length = len := by rw [HRE.out]; exact rls_len p len
      have hcx : clo R n x < 1024 := set_1024 h10 clo_lt
      go_wp2_with fail
      refine (isOf_any n x y _ h10).mono ?_
      rintro e W2 ⟨rfl, hb2⟩
      rw [hs]
      have HB2 : Hid (Below w.heap.size w W2) := Below.then HB1.out hb2
      have e0 := (hb2.cell (World.block_lt_of_cell? _ _ c0)).trans c0
      have e1 := (hb2.cell (World.block_lt_of_cell? _ _ c1)).trans c1
      clear hb2 c0 c1 x0 x1 y0 y1
      obtain ⟨W, HWE⟩ : ∃ W, Hid (W = W2) := ⟨_, rfl⟩
      rw [← HWE.out] at HB2 e0 e1 ⊢
      have l0 : ∀ w', Below W.heap.size W w' → w'.cell? ⟨w.heap.size, 0, none⟩ = some (.int .i64 (x : Int)) := fun w' h => (h.cell (World.block_lt_of_cell? _ _ e0)).trans e0
      have l1 : ∀ w', Below W.heap.size W w' → w'.cell? ⟨w.heap.size, 1, none⟩ = some (.int .i64 (y : Int)) := fun w' h => (h.cell (World.block_lt_of_cell? _ _ e1)).trans e1
      have HBY : Hid (∀ w', Below W.heap.size W w' → Calls Tryd.prog 28 #[.slice a len cap] w' fun e w'' => e = .returned (.func (.func 41) #[] #[.pointer (some ⟨w'.heap.size, 0, none⟩)]) ∧ CloN n 41 #[.pointer (some ⟨w'.heap.size, 0, none⟩)] (clo R n) w'' ∧ Below w'.heap.size w' w'') := fun w' h => by
        have h1 := HRI.out.row (HR.out w' (Below.then HB2.out h))
        have h2 := HRI.out.rin
        rw [← HRE.out] at h1 h2
        have := byRules_any n R a cap w' h10 h2 (by rw [hlen]; exact h60) h1
        rw [hlen] at this; exact this
      have KK : Below W.heap.size W W.drew := (Below.refl _ _).drew
      clear e0 e1 HWE
      go_wp2_with fail
      refine wp_region_held_drew (S := (fun w' => Below W.heap.size W w')) (by kernel_rfl) (KK) (fun hHeld => ?_)
      refine wpAnyH_take (i := 0) (oi := { dst := some 19, op := Go.Op.move (Go.Operand.tmp 1), type := 22, pos := "imply.go:42", after := #[], guard := none }) (v := ?_) rfl (by kernel_rfl) (by kernel_rfl) (by kernel_rfl) (fun _ _ _ h => h) (Or.inl ⟨by rfl, ?hy⟩) (by assumption) ?_
      case hy => (intro w9 hSw; (try dsimp only at hSw); go_simp; try with_reducible rfl)
      try simp only [Act.put, List.setIfInBounds_toArray, List.set_cons_zero, List.set_cons_succ]
      refine wpAnyH_take (i := 2) (oi := { dst := some 21, op := Go.Op.fieldAddr 47 (Go.Operand.tmp 5) 0, type := 0, pos := "imply.go:42", after := #[], guard := none }) (v := ?_) rfl (by kernel_rfl) (by kernel_rfl) (by kernel_rfl) (fun _ _ _ h => h) (Or.inl ⟨by rfl, ?hy⟩) (by assumption) ?_
      case hy => (intro w9 hSw; (try dsimp only at hSw); go_simp; try with_reducible rfl)
      try simp only [Act.put, List.setIfInBounds_toArray, List.set_cons_zero, List.set_cons_succ]
      refine wpAnyH_take (i := 3) (oi := { dst := some 22, op := Go.Op.load 3 (Go.Operand.tmp 21), type := 3, pos := "imply.go:42", after := #[{ on := 2, ground := Go.Ground.data }], guard := none }) (v := ?_) rfl (by kernel_rfl) (by kernel_rfl) (by kernel_rfl) (fun _ _ _ h => h) (Or.inl ⟨by rfl, ?hy⟩) (by assumption) ?_
      case hy => (intro w9 hSw; (try dsimp only at hSw); go_simp; try with_reducible rfl)
      try simp only [Act.put, List.setIfInBounds_toArray, List.set_cons_zero, List.set_cons_succ]
      refine wpAnyH_take (i := 5) (oi := { dst := some 24, op := Go.Op.load 47 (Go.Operand.tmp 5), type := 47, pos := "imply.go:42", after := #[], guard := none }) (v := ?_) rfl (by kernel_rfl) (by kernel_rfl) (by kernel_rfl) (fun _ _ _ h => h) (Or.inl ⟨by rfl, ?hy⟩) (by assumption) ?_
      case hy => (intro w9 hSw; (try dsimp only at hSw); go_simp; try with_reducible rfl)
      try simp only [Act.put, List.setIfInBounds_toArray, List.set_cons_zero, List.set_cons_succ]
      refine wpAnyH_ready (rs := [1]) (by kernel_rfl) (by simp) ?_
      refine AllReadyH.cons (o := { dst := some 20, op := Go.Op.call { callee := Go.Callee.value (Go.Operand.func 28), args := #[Go.Operand.tmp 19], argTypes := #[22] }, type := 51, pos := "imply.go:42", after := #[{ on := 0, ground := Go.Ground.data }], guard := none }) rfl (fun K hK => ?_) AllReadyH.nil
      go_simp
      refine (HBY.out _ (by assumption)).mono ?_
      rintro e w2 ⟨rfl, hcl, hb2⟩
      have HCL2 : Hid (CloN n 41 _ (clo R n) w2) := hcl
      clear hcl
      refine hK.out _ _ ?_ (fun hHeld => ?_)
      · first | assumption | exact Below.then (by assumption) (by assumption)
      clear hK K
      try simp only [Act.put, List.setIfInBounds_toArray, List.set_cons_zero, List.set_cons_succ]
      refine wpAnyH_ready (rs := [4]) (by kernel_rfl) (by simp) ?_
      refine AllReadyH.cons (o := { dst := some 23, op := Go.Op.call { callee := Go.Callee.value (Go.Operand.tmp 20), args := #[Go.Operand.tmp 22], argTypes := #[3] }, type := 3, pos := "imply.go:42", after := #[{ on := 1, ground := Go.Ground.data }, { on := 3, ground := Go.Ground.data }, { on := 1, ground := Go.Ground.chain }], guard := none }) rfl (fun K hK => ?_) AllReadyH.nil
      go_simp
      refine (HCL2.out x hx _ (Below.refl _ _)).mono ?_
      rintro e w3 ⟨rfl, hb3⟩
      refine hK.out _ _ ?_ (fun hHeld => ?_)
      · first | assumption | exact Below.then (by assumption) (by assumption)
      clear hK K
      try simp only [Act.put, List.setIfInBounds_toArray, List.set_cons_zero, List.set_cons_succ]
      refine wpAnyH_ready (rs := [6]) (by kernel_rfl) (by simp) ?_
      refine AllReadyH.cons (o := { dst := some 25, op := Go.Op.call { callee := Go.Callee.value (Go.Operand.func 37), args := #[Go.Operand.tmp 23, Go.Operand.tmp 24], argTypes := #[3, 47] }, type := 4, pos := "imply.go:42", after := #[{ on := 4, ground := Go.Ground.data }, { on := 5, ground := Go.Ground.data }, { on := 4, ground := Go.Ground.chain }], guard := none }) rfl (fun K hK => ?_) AllReadyH.nil
      go_simp
      refine (obeys_any (clo R n x) x y _ hcx hx1 hy1).mono ?_
      rintro e w4 ⟨rfl, hb4⟩
      refine hK.out _ _ ?_ (fun hHeld => ?_)
      · first | assumption | exact Below.then (by assumption) (by assumption)
      clear hK K
      try simp only [Act.put, List.setIfInBounds_toArray, List.set_cons_zero, List.set_cons_succ]
      refine wpAnyH_take (i := 7) (oi := { dst := some 6, op := Go.Op.assign (Go.Operand.tmp 25), type := 4, pos := "imply.go:42", after := #[{ on := 6, ground := Go.Ground.data }, { on := 6, ground := Go.Ground.chain }, { on := 0, ground := Go.Ground.phase }, { on := 1, ground := Go.Ground.phase }, { on := 2, ground := Go.Ground.phase }, { on := 3, ground := Go.Ground.phase }, { on := 4, ground := Go.Ground.phase }, { on := 5, ground := Go.Ground.phase }, { on := 6, ground := Go.Ground.phase }], guard := none }) (v := ?_) rfl (by kernel_rfl) (by kernel_rfl) (by kernel_rfl) (fun _ _ _ h => h) (Or.inl ⟨by rfl, ?hy⟩) (by assumption) ?_
      case hy => (intro w9 hSw; (try dsimp only at hSw); go_simp; try with_reducible rfl)
      try simp only [Act.put, List.setIfInBounds_toArray, List.set_cons_zero, List.set_cons_succ]
      refine wpAnyH_take (i := 8) (oi := { dst := some 7, op := Go.Op.assign (Go.Operand.const (Go.Value.int Go.IntKind.i64 0)), type := 24, pos := "imply.go:42", after := #[{ on := 7, ground := Go.Ground.chain }, { on := 0, ground := Go.Ground.phase }, { on := 1, ground := Go.Ground.phase }, { on := 2, ground := Go.Ground.phase }, { on := 3, ground := Go.Ground.phase }, { on := 4, ground := Go.Ground.phase }, { on := 5, ground := Go.Ground.phase }, { on := 6, ground := Go.Ground.phase }, { on := 7, ground := Go.Ground.phase }], guard := none }) (v := ?_) rfl (by kernel_rfl) (by kernel_rfl) (by kernel_rfl) (fun _ _ _ h => h) (Or.inl ⟨by rfl, ?hy⟩) (by assumption) ?_
      case hy => (intro w9 hSw; (try dsimp only at hSw); go_simp; try with_reducible rfl)
      try simp only [Act.put, List.setIfInBounds_toArray, List.set_cons_zero, List.set_cons_succ]
      refine wpAnyH_done (by kernel_rfl) ?_ _
      try simp only [Act.put, List.setIfInBounds_toArray, List.set_cons_zero, List.set_cons_succ]
      have hb8 : Below W.heap.size W w4 := by first | assumption | exact hHeld
      have HB8 : Hid (Below w.heap.size w w4) := Below.then HB2.out hb8
      clear hb8
      go_wp2_with fail
      go_ret2
      exact ⟨.inr ⟨n, rfl, HC.out, h10, h60, HRI.out, .inr ⟨x, y, rfl, rfl, hx, hy, by rw [← HRE.out]; rfl⟩⟩, HB8.out⟩
  · have hne : (c != 0) = true := by simpa using h0
    have HC : Hid (RChk N len p c) := hc
    clear hc
    go_wp2_with fail
    go_ret2
    exact ⟨.inl ⟨c, h0, HC.out, rfl⟩, HB1.out⟩
end Go.Proofs.YtgjdpgjaaaeglaaDoor
