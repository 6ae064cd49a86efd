/-
  What the reference's PrintOrder answers: the order's text. Conditions: an order of at most ten points that lies in a slice of numbers.
-/
import Derived.Deep.RegionHeld3
import Derived.Test.YthlhngjfbdaikaaDoorDigits
import Derived.Laws.Concat
namespace Go.Proofs.YthlhngjfbdaikaaDoor
open Go.RowKit

set_option maxRecDepth 20000 in
set_option maxHeartbeats 4000000 in
theorem printOrder_any (n : Nat) (a : Option Addr) (cap : Nat) (g : Nat → Nat) (w : World) (h10 : n ≤ 10) (hg : Sm n n g) (hr : Row w a n (fun k => (g k : Nat))) :
    Calls Tryd.prog 7 #[.agg #[.int .i64 (n : Int), .slice a n cap]] w fun e w' => e = .returned (.string ⟨(prt n (covs g n)).toArray⟩) ∧ Below w.heap.size w w' := by
  have K0 : Held (w.alloc (.cells #[.int .i64 (n : Int), .slice a n cap] 24)) w.heap.size n a n cap (fun k => (g k : Nat)) := Held.box hr
  have HB0 : Hid (Below w.heap.size w (w.alloc (.cells #[.int .i64 (n : Int), .slice a n cap] 24))) := (Below.refl _ _).alloc (Nat.le_refl _) _
  have HG : Hid (Sm n n g) := hg
  clear hr hg
  go_enter Tryd.func7, Tryd.ntmps7
  go_wp2_with fail
  refine (digits_any n _ h10).mono ?_
  rintro e w1 ⟨rfl, hb1⟩
  have K1 := K0.step hb1
  have HB1 : Hid (Below w.heap.size w w1) := Below.then HB0.out hb1
  have k0 := K1.c0
  have k1 := K1.c1
  have HBA : Hid ((⟨(dg n).toArray⟩ : ByteArray) ++ ⟨#[58]⟩ = ⟨(acc n (covs g n) 0).toArray⟩) := ba_app (dg n) [58]
  clear hb1 K0 HB0
  obtain ⟨D, HD⟩ : ∃ D, Hid ((⟨(dg n).toArray⟩ : ByteArray) = D) := ⟨_, rfl⟩
  rw [HD.out] at HBA ⊢
  have hDs : D.size ≤ 2 := by rw [← HD.out]; show (dg n).toArray.size ≤ 2; rw [List.size_toArray]; exact dg_len h10
  go_wp2_with fail
  refine (refCovers_any a n cap g _ h10 HG.out K1.row).mono ?_
  rintro e W ⟨⟨v, rfl, hv⟩, hb2⟩
  rw [HBA.out]
  obtain ⟨l, HL⟩ : ∃ l, Hid (covs g n = l) := ⟨_, rfl⟩
  rw [HL.out] at hv ⊢
  have HPB : Hid (PB l) := by rw [← HL.out]; exact covs_PB _ h10
  have hl100 : l.length ≤ 100 := by rw [← HL.out]; exact covs_len _ h10
  obtain ⟨va, vc, rfl, hvr⟩ := hv
  have HVR : Hid (∀ w', Below W.heap.size W w' → PRow w' va l.length (pairAt l)) := fun w' h => hvr.below h
  have HAL : Hid (∀ k, k ≤ l.length → (acc n l k).length ≤ 603) := fun k hk => acc_len h10 HPB.out hl100 k hk
  obtain ⟨L, HLL⟩ : ∃ L, Hid (l.length = L) := ⟨_, rfl⟩
  rw [HLL.out] at HVR hl100 HAL ⊢
  have HBW : Hid (Below w.heap.size w W) := Below.then HB1.out hb2
  clear hb2 hvr K1 k0 k1 HBA HB1 HG
  go_wp2_with fail
  go_loopw [3, 5] (fun s x wx => ∃ k : Nat, k ≤ L ∧ x = .int .i64 k ∧ s = .string ⟨(acc n l k).toArray⟩ ∧ Hid (Below W.heap.size W wx)) (fun _ x _ => L - (intOf x).toNat)
  case atStart => exact ⟨0, Nat.zero_le _, rfl, rfl, Below.refl _ _⟩
  case round =>
    obtain ⟨k, hk, rfl, rfl, HB⟩ := hrel
    by_cases hlt : k < L
    · obtain ⟨rb, ro, rfl, _⟩ := HVR.out _ HB.out k hlt
      have hpb := HPB.out k (by rw [HLL.out]; exact hlt)
      have hal := HAL.out k hk
      obtain ⟨p1, HP1⟩ : ∃ p1, Hid ((l.getD k (0, 0)).1 = p1) := ⟨_, rfl⟩
      obtain ⟨p2, HP2⟩ : ∃ p2, Hid ((l.getD k (0, 0)).2 = p2) := ⟨_, rfl⟩
      rw [HP1.out, HP2.out] at hpb
      have hp1 := hpb.1
      have hp2 := hpb.2
      have c0 : ∀ w', Below W.heap.size W w' → w'.cell? ⟨rb, ro + k * 2, none⟩ = some (.int .i64 (p1 : Nat)) := fun w' h => by
        obtain ⟨rb', ro', e, q0, _⟩ := HVR.out w' h k hlt
        injection e with e
        injection e with e1 e2
        subst e1
        subst e2
        unfold pairAt at q0
        dsimp only at q0
        rw [HP1.out] at q0; exact q0
      have c1 : ∀ w', Below W.heap.size W w' → w'.cell? ⟨rb, ro + k * 2 + 1, none⟩ = some (.int .i64 (p2 : Nat)) := fun w' h => by
        obtain ⟨rb', ro', e, _, q1⟩ := HVR.out w' h k hlt
        injection e with e
        injection e with e1 e2
        subst e1
        subst e2
        unfold pairAt at q1
        dsimp only at q1
        rw [HP2.out] at q1; exact q1
      obtain ⟨S0, HS0⟩ : ∃ S0, Hid ((⟨(acc n l k).toArray⟩ : ByteArray) = S0) := ⟨_, rfl⟩
      obtain ⟨D1, HD1⟩ : ∃ D1, Hid ((⟨(dg p1).toArray⟩ : ByteArray) = D1) := ⟨_, rfl⟩
      obtain ⟨D2, HD2⟩ : ∃ D2, Hid ((⟨(dg p2).toArray⟩ : ByteArray) = D2) := ⟨_, rfl⟩
      obtain ⟨E1, HE1⟩ : ∃ E1, Hid ((⟨#[32]⟩ : ByteArray) ++ D1 = E1) := ⟨_, rfl⟩
      obtain ⟨E2, HE2⟩ : ∃ E2, Hid (E1 ++ (⟨#[60]⟩ : ByteArray) = E2) := ⟨_, rfl⟩
      obtain ⟨E3, HE3⟩ : ∃ E3, Hid (E2 ++ D2 = E3) := ⟨_, rfl⟩
      obtain ⟨E4, HE4⟩ : ∃ E4, Hid (S0 ++ E3 = E4) := ⟨_, rfl⟩
      have hD1 : D1.size ≤ 2 := by rw [← HD1.out]; show (dg p1).toArray.size ≤ 2; rw [List.size_toArray]; exact dg_len (by omega)
      have hD2 : D2.size ≤ 2 := by rw [← HD2.out]; show (dg p2).toArray.size ≤ 2; rw [List.size_toArray]; exact dg_len (by omega)
      have hS0 : S0.size ≤ 603 := by rw [← HS0.out]; show (acc n l k).toArray.size ≤ 603; rw [List.size_toArray]; exact hal
      have hE1 : E1.size ≤ 3 := by rw [← HE1.out, ByteArray.size_append]; show 1 + D1.size ≤ 3; omega
      have hE2 : E2.size ≤ 4 := by rw [← HE2.out, ByteArray.size_append]; show E1.size + 1 ≤ 4; omega
      have hE3 : E3.size ≤ 6 := by rw [← HE3.out, ByteArray.size_append]; omega
      have q1 : ∀ w', (Op.stringOp .add (⟨#[32]⟩ : ByteArray) D1).run Tryd.prog w' = .ok (.string E1) w' := fun w' => by rw [run_string_add_sum w' _ _ (by show 1 + D1.size ≤ _; omega), HE1.out]
      have q2 : ∀ w', (Op.stringOp .add E1 (⟨#[60]⟩ : ByteArray)).run Tryd.prog w' = .ok (.string E2) w' := fun w' => by rw [run_string_add_sum w' _ _ (by show E1.size + 1 ≤ _; omega), HE2.out]
      have q3 : ∀ w', (Op.stringOp .add E2 D2).run Tryd.prog w' = .ok (.string E3) w' := fun w' => by rw [run_string_add_sum w' _ _ (by omega), HE3.out]
      have q4 : ∀ w', (Op.stringOp .add S0 E3).run Tryd.prog w' = .ok (.string E4) w' := fun w' => by rw [run_string_add_sum w' _ _ (by omega), HE4.out]
      have HNX : Hid (E4 = ⟨(acc n l (k + 1)).toArray⟩) := by
        rw [Hid, ← HE4.out, ← HE3.out, ← HE2.out, ← HE1.out, ← HS0.out, ← HD1.out, ← HD2.out, acc_succ, prPair, HP1.out, HP2.out]
        show (⟨(acc n l k).toArray⟩ : ByteArray) ++ (((⟨([32] : List UInt8).toArray⟩ ++ ⟨(dg p1).toArray⟩) ++ ⟨([60] : List UInt8).toArray⟩) ++ ⟨(dg p2).toArray⟩) = _
        rw [ba_app, ba_app, ba_app, ba_app]
        simp
      have hlt' : (k : Int) < (L : Int) := by omega
      rw [HS0.out]
      clear hpb
      go_wp2_with fail
      refine wp_region_held_drew (S := (fun w' => Below W.heap.size W w')) (by kernel_rfl) (HB.out.drew) (fun hHeld => ?_)
      refine wpAnyH_take (i := 0) (oi := { dst := some 18, op := Go.Op.move (Go.Operand.tmp 3), type := 9, pos := "chain.go:18", after := #[], guard := none }) (v := ?_) rfl (by kernel_rfl) (by kernel_rfl) (by kernel_rfl) (fun _ _ _ h => h) (Or.inl ⟨by rfl, ?hy⟩) (by assumption) ?_
      case hy => (intro w9 hSw; (try dsimp only at hSw); go_simp; try with_reducible rfl)
      try simp only [Act.put, List.setIfInBounds_toArray, List.set_cons_zero, List.set_cons_succ]
      refine wpAnyH_take (i := 1) (oi := { dst := some 19, op := Go.Op.move (Go.Operand.tmp 4), type := 32, pos := "chain.go:18", after := #[], guard := none }) (v := ?_) rfl (by kernel_rfl) (by kernel_rfl) (by kernel_rfl) (fun _ _ _ h => h) (Or.inl ⟨by rfl, ?hy⟩) (by assumption) ?_
      case hy => (intro w9 hSw; (try dsimp only at hSw); go_simp; try with_reducible rfl)
      try simp only [Act.put, List.setIfInBounds_toArray, List.set_cons_zero, List.set_cons_succ]
      refine wpAnyH_take (i := 2) (oi := { dst := some 20, op := Go.Op.move (Go.Operand.tmp 5), type := 3, pos := "chain.go:18", after := #[], guard := none }) (v := ?_) rfl (by kernel_rfl) (by kernel_rfl) (by kernel_rfl) (fun _ _ _ h => h) (Or.inl ⟨by rfl, ?hy⟩) (by assumption) ?_
      case hy => (intro w9 hSw; (try dsimp only at hSw); go_simp; try with_reducible rfl)
      try simp only [Act.put, List.setIfInBounds_toArray, List.set_cons_zero, List.set_cons_succ]
      refine wpAnyH_take (i := 3) (oi := { dst := some 21, op := Go.Op.indexAddr 32 (Go.Operand.tmp 19) (Go.Operand.tmp 20), type := 0, pos := "chain.go:18", after := #[{ on := 1, ground := Go.Ground.data }, { on := 2, ground := Go.Ground.data }], guard := none }) (v := ?_) rfl (by kernel_rfl) (by kernel_rfl) (by kernel_rfl) (fun _ _ _ h => h) (Or.inl ⟨by rfl, ?hy⟩) (by assumption) ?_
      case hy => (intro w9 hSw; (try dsimp only at hSw); go_simp; try with_reducible rfl)
      try simp only [Act.put, List.setIfInBounds_toArray, List.set_cons_zero, List.set_cons_succ]
      refine wpAnyH_take (i := 4) (oi := { dst := some 22, op := Go.Op.indexAddr 45 (Go.Operand.tmp 21) (Go.Operand.const (Go.Value.int Go.IntKind.i64 0)), type := 0, pos := "chain.go:18", after := #[{ on := 3, ground := Go.Ground.data }], guard := none }) (v := ?_) rfl (by kernel_rfl) (by kernel_rfl) (by kernel_rfl) (fun _ _ _ h => h) (Or.inl ⟨by rfl, ?hy⟩) (by assumption) ?_
      case hy => (intro w9 hSw; (try dsimp only at hSw); go_simp; try with_reducible rfl)
      try simp only [Act.put, List.setIfInBounds_toArray, List.set_cons_zero, List.set_cons_succ]
      refine wpAnyH_take (i := 5) (oi := { dst := some 23, op := Go.Op.load 3 (Go.Operand.tmp 22), type := 3, pos := "chain.go:18", after := #[{ on := 4, ground := Go.Ground.data }], guard := none }) (v := ?_) rfl (by kernel_rfl) (by kernel_rfl) (by kernel_rfl) (fun _ _ _ h => h) (Or.inl ⟨by rfl, ?hy⟩) (by assumption) ?_
      case hy => (intro w9 hSw; (try dsimp only at hSw); go_simp; try with_reducible rfl)
      try simp only [Act.put, List.setIfInBounds_toArray, List.set_cons_zero, List.set_cons_succ]
      refine wpAnyH_take (i := 9) (oi := { dst := some 27, op := Go.Op.move (Go.Operand.tmp 4), type := 32, pos := "chain.go:18", after := #[], guard := none }) (v := ?_) rfl (by kernel_rfl) (by kernel_rfl) (by kernel_rfl) (fun _ _ _ h => h) (Or.inl ⟨by rfl, ?hy⟩) (by assumption) ?_
      case hy => (intro w9 hSw; (try dsimp only at hSw); go_simp; try with_reducible rfl)
      try simp only [Act.put, List.setIfInBounds_toArray, List.set_cons_zero, List.set_cons_succ]
      refine wpAnyH_take (i := 10) (oi := { dst := some 28, op := Go.Op.move (Go.Operand.tmp 5), type := 3, pos := "chain.go:18", after := #[], guard := none }) (v := ?_) rfl (by kernel_rfl) (by kernel_rfl) (by kernel_rfl) (fun _ _ _ h => h) (Or.inl ⟨by rfl, ?hy⟩) (by assumption) ?_
      case hy => (intro w9 hSw; (try dsimp only at hSw); go_simp; try with_reducible rfl)
      try simp only [Act.put, List.setIfInBounds_toArray, List.set_cons_zero, List.set_cons_succ]
      refine wpAnyH_take (i := 11) (oi := { dst := some 29, op := Go.Op.indexAddr 32 (Go.Operand.tmp 27) (Go.Operand.tmp 28), type := 0, pos := "chain.go:18", after := #[{ on := 9, ground := Go.Ground.data }, { on := 10, ground := Go.Ground.data }], guard := none }) (v := ?_) rfl (by kernel_rfl) (by kernel_rfl) (by kernel_rfl) (fun _ _ _ h => h) (Or.inl ⟨by rfl, ?hy⟩) (by assumption) ?_
      case hy => (intro w9 hSw; (try dsimp only at hSw); go_simp; try with_reducible rfl)
      try simp only [Act.put, List.setIfInBounds_toArray, List.set_cons_zero, List.set_cons_succ]
      refine wpAnyH_take (i := 12) (oi := { dst := some 30, op := Go.Op.indexAddr 45 (Go.Operand.tmp 29) (Go.Operand.const (Go.Value.int Go.IntKind.i64 1)), type := 0, pos := "chain.go:18", after := #[{ on := 11, ground := Go.Ground.data }], guard := none }) (v := ?_) rfl (by kernel_rfl) (by kernel_rfl) (by kernel_rfl) (fun _ _ _ h => h) (Or.inl ⟨by rfl, ?hy⟩) (by assumption) ?_
      case hy => (intro w9 hSw; (try dsimp only at hSw); go_simp; try with_reducible rfl)
      try simp only [Act.put, List.setIfInBounds_toArray, List.set_cons_zero, List.set_cons_succ]
      refine wpAnyH_take (i := 13) (oi := { dst := some 31, op := Go.Op.load 3 (Go.Operand.tmp 30), type := 3, pos := "chain.go:18", after := #[{ on := 12, ground := Go.Ground.data }], guard := none }) (v := ?_) rfl (by kernel_rfl) (by kernel_rfl) (by kernel_rfl) (fun _ _ _ h => h) (Or.inl ⟨by rfl, ?hy⟩) (by assumption) ?_
      case hy => (intro w9 hSw; (try dsimp only at hSw); go_simp; try with_reducible rfl)
      try simp only [Act.put, List.setIfInBounds_toArray, List.set_cons_zero, List.set_cons_succ]
      refine wpAnyH_ready (rs := [6]) (by kernel_rfl) (by simp) ?_
      refine AllReadyH.cons (o := { dst := some 24, op := Go.Op.call { callee := Go.Callee.value (Go.Operand.func 16), args := #[Go.Operand.tmp 23], argTypes := #[3] }, type := 9, pos := "chain.go:18", after := #[{ on := 5, ground := Go.Ground.data }], guard := none }) rfl (fun K hK => ?_) AllReadyH.nil
      go_simp
      refine (digits_any p1 _ (by omega)).mono ?_
      rintro e w5 ⟨rfl, hbb5⟩
      rw [HD1.out]
      refine hK.out _ _ ?_ (fun hHeld => ?_)
      · first | assumption | exact Below.then (by assumption) (by assumption)
      clear hK K
      try simp only [Act.put, List.setIfInBounds_toArray, List.set_cons_zero, List.set_cons_succ]
      refine wpAnyH_take (i := 7) (oi := { dst := some 25, op := Go.Op.binOp Go.BinOp.add 9 (Go.Operand.const (Go.Value.string { data := #[32] })) (Go.Operand.tmp 24) 9, type := 9, pos := "chain.go:18", after := #[{ on := 6, ground := Go.Ground.data }], guard := none }) (v := .string E1) rfl (by kernel_rfl) (by kernel_rfl) (by kernel_rfl) (fun _ _ _ h => h) (Or.inl ⟨by rfl, ?hy⟩) (by assumption) ?_
      case hy => (intro w9 hSw; (try dsimp only at hSw); go_simp <;> (first | with_reducible rfl | (simp; omega) | omega))
      try simp only [Act.put, List.setIfInBounds_toArray, List.set_cons_zero, List.set_cons_succ]
      refine wpAnyH_take (i := 8) (oi := { dst := some 26, op := Go.Op.binOp Go.BinOp.add 9 (Go.Operand.tmp 25) (Go.Operand.const (Go.Value.string { data := #[60] })) 9, type := 9, pos := "chain.go:18", after := #[{ on := 7, ground := Go.Ground.data }], guard := none }) (v := .string E2) rfl (by kernel_rfl) (by kernel_rfl) (by kernel_rfl) (fun _ _ _ h => h) (Or.inl ⟨by rfl, ?hy⟩) (by assumption) ?_
      case hy => (intro w9 hSw; (try dsimp only at hSw); go_simp <;> (first | with_reducible rfl | (simp; omega) | omega))
      try simp only [Act.put, List.setIfInBounds_toArray, List.set_cons_zero, List.set_cons_succ]
      refine wpAnyH_ready (rs := [14]) (by kernel_rfl) (by simp) ?_
      refine AllReadyH.cons (o := { dst := some 32, op := Go.Op.call { callee := Go.Callee.value (Go.Operand.func 16), args := #[Go.Operand.tmp 31], argTypes := #[3] }, type := 9, pos := "chain.go:18", after := #[{ on := 13, ground := Go.Ground.data }, { on := 6, ground := Go.Ground.chain }], guard := none }) rfl (fun K hK => ?_) AllReadyH.nil
      go_simp
      refine (digits_any p2 _ (by omega)).mono ?_
      rintro e w6 ⟨rfl, hbb6⟩
      rw [HD2.out]
      refine hK.out _ _ ?_ (fun hHeld => ?_)
      · first | assumption | exact Below.then (by assumption) (by assumption)
      clear hK K
      try simp only [Act.put, List.setIfInBounds_toArray, List.set_cons_zero, List.set_cons_succ]
      refine wpAnyH_take (i := 15) (oi := { dst := some 33, op := Go.Op.binOp Go.BinOp.add 9 (Go.Operand.tmp 26) (Go.Operand.tmp 32) 9, type := 9, pos := "chain.go:18", after := #[{ on := 8, ground := Go.Ground.data }, { on := 14, ground := Go.Ground.data }], guard := none }) (v := .string E3) rfl (by kernel_rfl) (by kernel_rfl) (by kernel_rfl) (fun _ _ _ h => h) (Or.inl ⟨by rfl, ?hy⟩) (by assumption) ?_
      case hy => (intro w9 hSw; (try dsimp only at hSw); go_simp <;> (first | with_reducible rfl | (simp; omega) | omega))
      try simp only [Act.put, List.setIfInBounds_toArray, List.set_cons_zero, List.set_cons_succ]
      refine wpAnyH_take (i := 16) (oi := { dst := some 34, op := Go.Op.binOp Go.BinOp.add 9 (Go.Operand.tmp 18) (Go.Operand.tmp 33) 9, type := 9, pos := "chain.go:18", after := #[{ on := 0, ground := Go.Ground.data }, { on := 15, ground := Go.Ground.data }], guard := none }) (v := .string E4) rfl (by kernel_rfl) (by kernel_rfl) (by kernel_rfl) (fun _ _ _ h => h) (Or.inl ⟨by rfl, ?hy⟩) (by assumption) ?_
      case hy => (intro w9 hSw; (try dsimp only at hSw); go_simp <;> (first | with_reducible rfl | (simp; omega) | omega))
      try simp only [Act.put, List.setIfInBounds_toArray, List.set_cons_zero, List.set_cons_succ]
      refine wpAnyH_take (i := 17) (oi := { dst := some 3, op := Go.Op.assign (Go.Operand.tmp 34), type := 9, pos := "chain.go:18", after := #[{ on := 16, ground := Go.Ground.data }, { on := 14, ground := Go.Ground.chain }, { on := 0, ground := Go.Ground.phase }, { on := 1, ground := Go.Ground.phase }, { on := 2, ground := Go.Ground.phase }, { on := 3, ground := Go.Ground.phase }, { on := 4, ground := Go.Ground.phase }, { on := 5, ground := Go.Ground.phase }, { on := 6, ground := Go.Ground.phase }, { on := 7, ground := Go.Ground.phase }, { on := 8, ground := Go.Ground.phase }, { on := 9, ground := Go.Ground.phase }, { on := 10, ground := Go.Ground.phase }, { on := 11, ground := Go.Ground.phase }, { on := 12, ground := Go.Ground.phase }, { on := 13, ground := Go.Ground.phase }, { on := 14, ground := Go.Ground.phase }, { on := 15, ground := Go.Ground.phase }, { on := 16, ground := Go.Ground.phase }], guard := none }) (v := ?_) rfl (by kernel_rfl) (by kernel_rfl) (by kernel_rfl) (fun _ _ _ h => h) (Or.inl ⟨by rfl, ?hy⟩) (by assumption) ?_
      case hy => (intro w9 hSw; (try dsimp only at hSw); go_simp; try with_reducible rfl)
      try simp only [Act.put, List.setIfInBounds_toArray, List.set_cons_zero, List.set_cons_succ]
      refine wpAnyH_done (by kernel_rfl) ?_ _
      try simp only [Act.put, List.setIfInBounds_toArray, List.set_cons_zero, List.set_cons_succ]
      have hb8 : Below W.heap.size W w6 := by first | assumption | exact hHeld
      have HW6 : Hid (Below W.heap.size W w6) := hb8
      clear hb8 hHeld
      go_wp2_with fail
      go_roundw
      case rel => exact ⟨k + 1, by omega, by go_num, by rw [HNX.out], HW6⟩
      case measure => simp [intOf]; omega
    · obtain rfl : k = L := by omega
      have HFIN : Hid (prt n l = acc n l k) := by rw [Hid, prt, HLL.out]
      have HBF : Hid (Below w.heap.size w wr) := Below.then HBW.out HB.out
      go_wp2_with fail
      go_ret
      exact ⟨by rw [HL.out, HFIN.out]; rfl, HBF.out⟩
end Go.Proofs.YthlhngjfbdaikaaDoor
