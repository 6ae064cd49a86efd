/-
  What clock.Check answers, whatever it is handed. Condition: a slice reads as a slice of events.
-/
import Derived.Test.YtomoodpgmkjacabDoorClR
namespace Go.Proofs.YtomoodpgmkjacabDoor
open Go.RowKit

theorem EvF.is {W : Int} {E : Nat → Int × Int × Int} {i : Nat} {c : Int} (h : EvF W E i (E i).1 (E i).2.1 (E i).2.2 c) : EvIs W E i c := h
set_option maxRecDepth 100000 in
set_option maxHeartbeats 4000000 in
theorem clockCheck_any (Wk : Int) (a : Option Addr) (len cap : Nat) (E : Nat → Int × Int × Int) (w : World) (hl : len ≤ maxLen) (hc : len ≤ cap) (hr : ERow w a len E) :
    Calls Tryd.prog 11 #[.int .i64 Wk, .slice a len cap] w fun e w' => (∃ c : Int, e = .returned (.int .i64 c) ∧ CkE Wk len E c) ∧ Below w.heap.size w w' := by
  unfold maxLen at hl
  have HR : Hid (ERow w a len E) := hr
  have HB0 : Hid (Below w.heap.size w w) := Below.refl _ _
  clear hr
  by_cases k1 : Wk < 1
  · have k1' : decide (Wk < 1) = true := by simpa using k1
    have HE : Hid (CkE Wk len E 2) := .inl ⟨rfl, .inl k1⟩
    go_enter Tryd.func11, Tryd.ntmps11
    go_wp2
    go_ret
    exact ⟨⟨_, rfl, HE.out⟩, HB0.out⟩
  by_cases k2 : 4 < Wk
  · have k1' : decide (Wk < 1) = false := by simpa using k1
    have k2' : decide (4 < Wk) = true := by simpa using k2
    have HE : Hid (CkE Wk len E 2) := .inl ⟨rfl, .inr (.inl k2)⟩
    go_enter Tryd.func11, Tryd.ntmps11
    go_wp2
    go_ret
    exact ⟨⟨_, rfl, HE.out⟩, HB0.out⟩
  have k1' : decide (Wk < 1) = false := by simpa using k1
  have k2' : decide (4 < Wk) = false := by simpa using k2
  by_cases k3 : 10 < len
  · have HE : Hid (CkE Wk len E 2) := .inl ⟨rfl, .inr (.inr k3)⟩
    have k3' : (10 : Int) < (len : Int) := by omega
    go_enter Tryd.func11, Tryd.ntmps11
    go_wp2
    go_ret
    exact ⟨⟨_, rfl, HE.out⟩, HB0.out⟩
  have HG : Hid (1 ≤ Wk ∧ Wk ≤ 4 ∧ len ≤ 10) := ⟨by omega, by omega, by omega⟩
  have k3' : ¬ (10 : Int) < (len : Int) := by omega
  clear k1 k2 k3
  go_enter Tryd.func11, Tryd.ntmps11
  go_wp2
  go_loopw [21] (fun t wx => ∃ k : Nat, k ≤ len ∧ t = .int .i64 k ∧ Hid (∀ j, j < k → EvIs Wk E j 0) ∧ Hid (Below w.heap.size w wx)) (fun t _ => len - (intOf t).toNat)
  case atStart => exact ⟨0, Nat.zero_le _, rfl, upto_zero, HB0.out⟩
  case round =>
    obtain ⟨k, hk, rfl, hok, hB⟩ := hrel
    clear HB0
    by_cases hlt : k < len
    · have hlt' : (k : Int) < (len : Int) := by omega
      have hkc : (k : Int) ≤ (cap : Int) := by omega
      obtain ⟨b, off, rfl, c1, c2, c3⟩ := (HR.out.below hB.out) k hlt
      go_wp2_with fail
      obtain ⟨W, HW⟩ : ∃ W, Hid (wr.alloc (.cells #[.int .i64 (E k).1, .int .i64 (E k).2.1, .int .i64 (E k).2.2] 38) = W) := ⟨_, rfl⟩
      have hbW : Below w.heap.size w W := by rw [← HW.out]; exact hB.out.alloc hB.out.size _
      have HBW : Hid (Below w.heap.size w W) := hbW
      have HRW : Hid (∀ w', Below W.heap.size W w' → ERow w' (some ⟨b, off, none⟩) k E) := fun w' h => ((HR.out.below hbW).below h).cut hk
      have hsz : wr.heap.size < W.heap.size := by rw [← HW.out]; simp
      have l0 : ∀ w', Below W.heap.size W w' → w'.cell? ⟨wr.heap.size, 0, none⟩ = some (.int .i64 (E k).1) := fun w' h => (h.cell (p := ⟨wr.heap.size, 0, none⟩) hsz).trans (by rw [← HW.out]; simp)
      have l1 : ∀ w', Below W.heap.size W w' → w'.cell? ⟨wr.heap.size, 1, none⟩ = some (.int .i64 (E k).2.1) := fun w' h => (h.cell (p := ⟨wr.heap.size, 1, none⟩) hsz).trans (by rw [← HW.out]; simp)
      have l2 : ∀ w', Below W.heap.size W w' → w'.cell? ⟨wr.heap.size, 2, none⟩ = some (.int .i64 (E k).2.2) := fun w' h => (h.cell (p := ⟨wr.heap.size, 2, none⟩) hsz).trans (by rw [← HW.out]; simp)
      have HKL : Hid (k ≤ maxLen) := by show k ≤ maxLen; unfold maxLen; omega
      clear c1 c2 c3 hbW hB
      rw [HW.out]
      refine wp_region_held_drew (S := (fun w' => Below W.heap.size W w')) (by kernel_rfl) ((Below.refl _ _).drew) (fun hHeld => ?_)
      refine wpAnyH_take (i := 0) (oi := { dst := some 26, op := Go.Op.move (Go.Operand.tmp 0), type := 3, pos := "clock.go:19", after := #[], guard := none }) (v := ?_) rfl (by kernel_rfl) (by kernel_rfl) (by kernel_rfl) (fun _ _ _ h => h) (Or.inl ⟨by rfl, ?hy⟩) (by assumption) ?_
      case hy => (intro w9 hSw; (try dsimp only at hSw); go_simp; try with_reducible rfl)
      try simp only [Act.put, List.setIfInBounds_toArray, List.set_cons_zero, List.set_cons_succ]
      refine wpAnyH_take (i := 1) (oi := { dst := some 27, op := Go.Op.move (Go.Operand.tmp 1), type := 22, pos := "clock.go:19", after := #[], guard := none }) (v := ?_) rfl (by kernel_rfl) (by kernel_rfl) (by kernel_rfl) (fun _ _ _ h => h) (Or.inl ⟨by rfl, ?hy⟩) (by assumption) ?_
      case hy => (intro w9 hSw; (try dsimp only at hSw); go_simp; try with_reducible rfl)
      try simp only [Act.put, List.setIfInBounds_toArray, List.set_cons_zero, List.set_cons_succ]
      refine wpAnyH_take (i := 2) (oi := { dst := some 28, op := Go.Op.move (Go.Operand.tmp 5), type := 3, pos := "clock.go:19", after := #[], guard := none }) (v := ?_) rfl (by kernel_rfl) (by kernel_rfl) (by kernel_rfl) (fun _ _ _ h => h) (Or.inl ⟨by rfl, ?hy⟩) (by assumption) ?_
      case hy => (intro w9 hSw; (try dsimp only at hSw); go_simp; try with_reducible rfl)
      try simp only [Act.put, List.setIfInBounds_toArray, List.set_cons_zero, List.set_cons_succ]
      refine wpAnyH_take (i := 3) (oi := { dst := some 29, op := Go.Op.slice 22 (Go.Operand.tmp 27) none (some (Go.Operand.tmp 28)) none, type := 22, pos := "clock.go:19", after := #[{ on := 1, ground := Go.Ground.data }, { on := 2, ground := Go.Ground.data }], guard := none }) (v := ?_) rfl (by kernel_rfl) (by kernel_rfl) (by kernel_rfl) (fun _ _ _ h => h) (Or.inl ⟨by rfl, ?hy⟩) (by assumption) ?_
      case hy => (intro w9 hSw; (try dsimp only at hSw); go_simp; try with_reducible rfl)
      try simp only [Act.put, List.setIfInBounds_toArray, List.set_cons_zero, List.set_cons_succ]
      refine wpAnyH_take (i := 4) (oi := { dst := some 30, op := Go.Op.load 38 (Go.Operand.tmp 6), type := 38, pos := "clock.go:19", after := #[], guard := none }) (v := ?_) rfl (by kernel_rfl) (by kernel_rfl) (by kernel_rfl) (fun _ _ _ h => h) (Or.inl ⟨by rfl, ?hy⟩) (by assumption) ?_
      case hy => (intro w9 hSw; (try dsimp only at hSw); go_simp; try with_reducible rfl)
      try simp only [Act.put, List.setIfInBounds_toArray, List.set_cons_zero, List.set_cons_succ]
      refine wpAnyH_ready (rs := [5]) (by kernel_rfl) (by simp) ?_
      refine AllReadyH.cons (o := { dst := some 31, op := Go.Op.call { callee := Go.Callee.value (Go.Operand.func 20), args := #[Go.Operand.tmp 26, Go.Operand.tmp 29, Go.Operand.tmp 30], argTypes := #[3, 22, 38] }, type := 27, pos := "clock.go:19", after := #[{ on := 0, ground := Go.Ground.data }, { on := 3, ground := Go.Ground.data }, { on := 4, ground := Go.Ground.data }], guard := none }) rfl (fun K hK => ?_) AllReadyH.nil
      go_simp
      refine (checkNext_any Wk _ k cap E (E k).1 (E k).2.1 (E k).2.2 _ HKL.out (HRW.out _ (by assumption))).mono ?_
      rintro e w5 ⟨⟨c, rfl, hc5⟩, hb5⟩
      refine hK.out _ _ ?_ (fun hHeld => ?_)
      · first | assumption | exact Below.then (by assumption) (by assumption)
      clear hK K
      try simp only [Act.put, List.setIfInBounds_toArray, List.set_cons_zero, List.set_cons_succ]
      refine wpAnyH_take (i := 6) (oi := { dst := some 7, op := Go.Op.assign (Go.Operand.tmp 31), type := 27, pos := "clock.go:19", after := #[{ on := 5, ground := Go.Ground.data }, { on := 5, ground := Go.Ground.chain }, { on := 0, ground := Go.Ground.phase }, { on := 1, ground := Go.Ground.phase }, { on := 2, ground := Go.Ground.phase }, { on := 3, ground := Go.Ground.phase }, { on := 4, ground := Go.Ground.phase }, { on := 5, ground := Go.Ground.phase }], guard := none }) (v := ?_) rfl (by kernel_rfl) (by kernel_rfl) (by kernel_rfl) (fun _ _ _ h => h) (Or.inl ⟨by rfl, ?hy⟩) (by assumption) ?_
      case hy => (intro w9 hSw; (try dsimp only at hSw); go_simp; try with_reducible rfl)
      try simp only [Act.put, List.setIfInBounds_toArray, List.set_cons_zero, List.set_cons_succ]
      refine wpAnyH_done (by kernel_rfl) ?_ _
      try simp only [Act.put, List.setIfInBounds_toArray, List.set_cons_zero, List.set_cons_succ]
      have HB5 : Hid (Below w.heap.size w w5) := Below.then HBW.out (by assumption)
      have HC5 : Hid (EvIs Wk E k c) := EvF.is hc5
      clear hc5 hb5 l0 l1 l2 hsz HRW HBW
      by_cases h0 : c = 0
      · subst h0
        go_wp2_with fail
        go_roundw
        case rel => exact ⟨k + 1, by omega, by go_num, upto_succ hok.out HC5.out, HB5.out⟩
        case measure => simp [intOf]; omega
      · have h0' : (c != 0) = true := by simpa using h0
        have HE : Hid (CkE Wk len E c) := .inr ⟨HG.out, .inl ⟨h0, k, hlt, hok.out, HC5.out⟩⟩
        go_wp2_with fail
        go_ret
        exact ⟨⟨_, rfl, HE.out⟩, HB5.out⟩
    · obtain rfl : k = len := by omega
      have HE : Hid (CkE Wk k E 0) := .inr ⟨HG.out, .inr ⟨rfl, hok.out⟩⟩
      go_wp2
      go_ret
      exact ⟨⟨_, rfl, HE.out⟩, hB.out⟩
end Go.Proofs.YtomoodpgmkjacabDoor
