/-
  What the reference's PointSet answers. Conditions: tables of at most forty elements; ten points at most.
-/
import Derived.Deep.RegionHeld3
import Derived.Test.YtpgbcnbhfgopdaaRefIrr
import Derived.Test.YtpgbcnbhfgopdaaSetP
namespace Go.Proofs.Ytpgbcnbhfgopdaa
open Go.RowKit

set_option maxHeartbeats 4000000 in
theorem pointSet_any (n b1 o1 ca : Nat) (b2 : Option Addr) (lb cb : Nat) (R1 : Nat → Nat × Nat × Nat) (m : Nat → Nat → Nat) (x : Nat) (w : World) (h40 : n ≤ 40) (hx : x < n) (ht1 : Tb w b1 o1 n R1 m) (P : List Nat) (hP : P = filt (fun x => cntB (fun y => covB m x y n) n == 1) n) (h10 : P.length ≤ 10) :
    Calls Try.prog 23 #[.agg #[.int .i64 (n : Int), .slice (some ⟨b1, o1, none⟩) n ca, .slice b2 lb cb], .int .i64 (x : Nat)] w fun e w' => e = .returned (.int .i64 (psB m P x P.length : Nat)) ∧ Below w.heap.size w w' := by
  obtain ⟨W, HWE⟩ : ∃ W, Hid (W = w.alloc (.cells #[.int .i64 (n : Int), .slice (some ⟨b1, o1, none⟩) n ca, .slice b2 lb cb] 27)) := ⟨_, rfl⟩
  have B1 : Below w.heap.size w W := by rw [HWE.out]; exact (Below.refl _ _).alloc (Nat.le_refl _) _
  have L0 : LB W w.heap.size (n : Int) (some ⟨b1, o1, none⟩) n ca b2 lb cb := by rw [HWE.out]; exact LB.new w _ _ _ _ _ _ _
  have HT1 : Hid (∀ wx, Below W.heap.size W wx → Tb wx b1 o1 n R1 m) := fun wx h => (ht1.step B1).step h
  have HL : Hid (∀ wx, Below W.heap.size W wx → LB wx w.heap.size (n : Int) (some ⟨b1, o1, none⟩) n ca b2 lb cb) := fun wx h => L0.step h
  have HB0 : Hid (Below w.heap.size w W) := B1
  have HPN : Hid (∀ k, k < P.length → nth P k < n) := fun k hk => by subst hP; exact (nth_filt_lt hk).1
  have l0 := L0.1
  have l1 := L0.2.1
  have l2 := L0.2.2
  clear ht1 B1
  obtain ⟨q, HQ⟩ : ∃ q, Hid (q = P.length) := ⟨_, rfl⟩
  rw [← HQ.out]
  go_enter Try.func23, Try.ntmps23
  go_wp2_with fail
  rw [← HWE.out]
  go_wp2_with fail
  refine (irrOf_any n b1 o1 ca b2 lb cb R1 m _ h40 (HT1.out _ (Below.refl _ _))).mono ?_
  rintro e w1 ⟨⟨v, rfl, hv⟩, hb1⟩
  rw [← hP] at hv
  obtain ⟨pa, pc, rfl, hpr⟩ := hv
  rw [← HQ.out] at hpr h10 HPN ⊢
  have HR : Hid (∀ w', Below w1.heap.size w1 w' → Row w' pa q (fun k => ((nth P k : Nat) : Int))) := fun w' h => hpr.below h
  have HW1 : Hid (Below W.heap.size W w1) := hb1
  clear hb1 hpr hP HWE l0 l1 l2 L0 HQ
  go_wp2_with fail
  go_loopw [6, 7] (fun v i wx => ∃ k : Nat, k ≤ q ∧ i = .int .i64 k ∧ v = .int .i64 (psB m P x k : Nat) ∧ Hid (Below w1.heap.size w1 wx)) (fun _ i _ => q - (intOf i).toNat)
  case atStart => exact ⟨0, Nat.zero_le _, rfl, rfl, Below.refl _ _⟩
  case round =>
    obtain ⟨k, hk, rfl, rfl, HW⟩ := hrel
    by_cases hlt : k < q
    · have hpk := HPN.out k hlt
      have hWW := Below.then HW1.out HW.out
      have L1 := HL.out _ hWW
      obtain ⟨rb, ro, rfl, hc⟩ := HR.out _ HW.out k hlt
      have hkq : (k : Int) < (q : Int) := by omega
      have LT : Hid (∀ w', Below wr.heap.size wr w' → Tb w' b1 o1 n R1 m) := fun w' h => HT1.out _ (Below.then hWW h)
      have l0 : ∀ w', Below wr.heap.size wr w' → w'.cell? ⟨w.heap.size, 0, none⟩ = some (.int .i64 (n : Int)) := fun w' h => (L1.step h).1
      have l1 : ∀ w', Below wr.heap.size wr w' → w'.cell? ⟨w.heap.size, 1, none⟩ = some (.slice (some ⟨b1, o1, none⟩) n ca) := fun w' h => (L1.step h).2.1
      have l2 : ∀ w', Below wr.heap.size wr w' → w'.cell? ⟨w.heap.size, 2, none⟩ = some (.slice b2 lb cb) := fun w' h => (L1.step h).2.2
      have l3 : ∀ w', Below wr.heap.size wr w' → w'.cell? ⟨rb, ro + k, none⟩ = some (.int .i64 (nth P k : Nat)) := fun w' h => cell_step h hc
      have KK : Below wr.heap.size wr wr.drew := (Below.refl _ _).drew
      clear hc L1 hWW
      rcases hb : leB m (nth P k) x with _ | _
      · have HE : Hid (psB m P x (k + 1) = psB m P x k) := setBy_no hb
        go_wp2_with fail
        refine wp_region_held_drew (S := (fun w' => Below wr.heap.size wr w')) (by kernel_rfl) (KK) (fun hHeld => ?_)
        refine wpAnyH_take (i := 0) (oi := { dst := some 16, op := Go.Op.load 27 (Go.Operand.tmp 2), type := 27, pos := "lattice.go:528", after := #[], guard := none }) (v := ?_) rfl (by kernel_rfl) (by kernel_rfl) (by kernel_rfl) (fun _ _ _ h => h) (Or.inl ⟨by rfl, ?hy⟩) (by assumption) ?_
        case hy => (intro w9 hSw; (try dsimp only at hSw); go_simp; try with_reducible rfl)
        try simp only [Act.put, List.setIfInBounds_toArray, List.set_cons_zero, List.set_cons_succ]
        refine wpAnyH_take (i := 1) (oi := { dst := some 17, op := Go.Op.move (Go.Operand.tmp 5), type := 22, pos := "lattice.go:528", after := #[], guard := none }) (v := ?_) rfl (by kernel_rfl) (by kernel_rfl) (by kernel_rfl) (fun _ _ _ h => h) (Or.inl ⟨by rfl, ?hy⟩) (by assumption) ?_
        case hy => (intro w9 hSw; (try dsimp only at hSw); go_simp; try with_reducible rfl)
        try simp only [Act.put, List.setIfInBounds_toArray, List.set_cons_zero, List.set_cons_succ]
        refine wpAnyH_take (i := 2) (oi := { dst := some 18, op := Go.Op.move (Go.Operand.tmp 7), type := 3, pos := "lattice.go:528", after := #[], guard := none }) (v := ?_) rfl (by kernel_rfl) (by kernel_rfl) (by kernel_rfl) (fun _ _ _ h => h) (Or.inl ⟨by rfl, ?hy⟩) (by assumption) ?_
        case hy => (intro w9 hSw; (try dsimp only at hSw); go_simp; try with_reducible rfl)
        try simp only [Act.put, List.setIfInBounds_toArray, List.set_cons_zero, List.set_cons_succ]
        refine wpAnyH_take (i := 3) (oi := { dst := some 19, op := Go.Op.indexAddr 22 (Go.Operand.tmp 17) (Go.Operand.tmp 18), type := 0, pos := "lattice.go:528", after := #[{ on := 1, ground := Go.Ground.data }, { on := 2, ground := Go.Ground.data }], guard := none }) (v := ?_) rfl (by kernel_rfl) (by kernel_rfl) (by kernel_rfl) (fun _ _ _ h => h) (Or.inl ⟨by rfl, ?hy⟩) (by assumption) ?_
        case hy => (intro w9 hSw; (try dsimp only at hSw); go_simp; try with_reducible rfl)
        try simp only [Act.put, List.setIfInBounds_toArray, List.set_cons_zero, List.set_cons_succ]
        refine wpAnyH_take (i := 4) (oi := { dst := some 20, op := Go.Op.load 3 (Go.Operand.tmp 19), type := 3, pos := "lattice.go:528", after := #[{ on := 3, ground := Go.Ground.data }], guard := none }) (v := ?_) rfl (by kernel_rfl) (by kernel_rfl) (by kernel_rfl) (fun _ _ _ h => h) (Or.inl ⟨by rfl, ?hy⟩) (by assumption) ?_
        case hy => (intro w9 hSw; (try dsimp only at hSw); go_simp; try with_reducible rfl)
        try simp only [Act.put, List.setIfInBounds_toArray, List.set_cons_zero, List.set_cons_succ]
        refine wpAnyH_take (i := 5) (oi := { dst := some 21, op := Go.Op.move (Go.Operand.tmp 1), type := 3, pos := "lattice.go:528", after := #[], guard := none }) (v := ?_) rfl (by kernel_rfl) (by kernel_rfl) (by kernel_rfl) (fun _ _ _ h => h) (Or.inl ⟨by rfl, ?hy⟩) (by assumption) ?_
        case hy => (intro w9 hSw; (try dsimp only at hSw); go_simp; try with_reducible rfl)
        try simp only [Act.put, List.setIfInBounds_toArray, List.set_cons_zero, List.set_cons_succ]
        refine wpAnyH_ready (rs := [6]) (by kernel_rfl) (by simp) ?_
        refine AllReadyH.cons (o := { dst := some 22, op := Go.Op.call { callee := Go.Callee.value (Go.Operand.func 31), args := #[Go.Operand.tmp 16, Go.Operand.tmp 20, Go.Operand.tmp 21], argTypes := #[27, 3, 3] }, type := 4, pos := "lattice.go:528", after := #[{ on := 0, ground := Go.Ground.data }, { on := 4, ground := Go.Ground.data }, { on := 5, ground := Go.Ground.data }], guard := none }) rfl (fun K hK => ?_) AllReadyH.nil
        go_simp
        refine (under_any n b1 o1 ca b2 lb cb R1 m (nth P k) x _ false hb (LT.out _ (by assumption)) hpk hx).mono ?_
        rintro e w2 ⟨rfl, hb2⟩
        refine hK.out _ _ ?_ (fun hHeld => ?_)
        · first | assumption | exact Below.then (by assumption) (by assumption)
        clear hK K
        try simp only [Act.put, List.setIfInBounds_toArray, List.set_cons_zero, List.set_cons_succ]
        refine wpAnyH_done (by kernel_rfl) ?_ _
        try simp only [Act.put, List.setIfInBounds_toArray, List.set_cons_zero, List.set_cons_succ]
        have hb8 : Below wr.heap.size wr w2 := by first | assumption | exact hHeld
        have HW2 : Hid (Below w1.heap.size w1 w2) := Below.then HW.out hb8
        clear hb8 l0 l1 l2 l3 KK LT HW
        go_wp2_with fail
        go_roundw
        case rel => exact ⟨k + 1, by omega, by go_num, by rw [HE.out], HW2⟩
        case measure => simp [intOf]; omega
      · have HE : Hid (psB m P x (k + 1) = psB m P x k + pw k) := setBy_yes hb
        have hlk : psB m P x k < pw k := setBy_lt _ k
        have hp2 : pw k ≤ 1024 := pw_le k (by omega)
        go_wp2_with fail
        refine wp_region_held_drew (S := (fun w' => Below wr.heap.size wr w')) (by kernel_rfl) (KK) (fun hHeld => ?_)
        refine wpAnyH_take (i := 0) (oi := { dst := some 16, op := Go.Op.load 27 (Go.Operand.tmp 2), type := 27, pos := "lattice.go:528", after := #[], guard := none }) (v := ?_) rfl (by kernel_rfl) (by kernel_rfl) (by kernel_rfl) (fun _ _ _ h => h) (Or.inl ⟨by rfl, ?hy⟩) (by assumption) ?_
        case hy => (intro w9 hSw; (try dsimp only at hSw); go_simp; try with_reducible rfl)
        try simp only [Act.put, List.setIfInBounds_toArray, List.set_cons_zero, List.set_cons_succ]
        refine wpAnyH_take (i := 1) (oi := { dst := some 17, op := Go.Op.move (Go.Operand.tmp 5), type := 22, pos := "lattice.go:528", after := #[], guard := none }) (v := ?_) rfl (by kernel_rfl) (by kernel_rfl) (by kernel_rfl) (fun _ _ _ h => h) (Or.inl ⟨by rfl, ?hy⟩) (by assumption) ?_
        case hy => (intro w9 hSw; (try dsimp only at hSw); go_simp; try with_reducible rfl)
        try simp only [Act.put, List.setIfInBounds_toArray, List.set_cons_zero, List.set_cons_succ]
        refine wpAnyH_take (i := 2) (oi := { dst := some 18, op := Go.Op.move (Go.Operand.tmp 7), type := 3, pos := "lattice.go:528", after := #[], guard := none }) (v := ?_) rfl (by kernel_rfl) (by kernel_rfl) (by kernel_rfl) (fun _ _ _ h => h) (Or.inl ⟨by rfl, ?hy⟩) (by assumption) ?_
        case hy => (intro w9 hSw; (try dsimp only at hSw); go_simp; try with_reducible rfl)
        try simp only [Act.put, List.setIfInBounds_toArray, List.set_cons_zero, List.set_cons_succ]
        refine wpAnyH_take (i := 3) (oi := { dst := some 19, op := Go.Op.indexAddr 22 (Go.Operand.tmp 17) (Go.Operand.tmp 18), type := 0, pos := "lattice.go:528", after := #[{ on := 1, ground := Go.Ground.data }, { on := 2, ground := Go.Ground.data }], guard := none }) (v := ?_) rfl (by kernel_rfl) (by kernel_rfl) (by kernel_rfl) (fun _ _ _ h => h) (Or.inl ⟨by rfl, ?hy⟩) (by assumption) ?_
        case hy => (intro w9 hSw; (try dsimp only at hSw); go_simp; try with_reducible rfl)
        try simp only [Act.put, List.setIfInBounds_toArray, List.set_cons_zero, List.set_cons_succ]
        refine wpAnyH_take (i := 4) (oi := { dst := some 20, op := Go.Op.load 3 (Go.Operand.tmp 19), type := 3, pos := "lattice.go:528", after := #[{ on := 3, ground := Go.Ground.data }], guard := none }) (v := ?_) rfl (by kernel_rfl) (by kernel_rfl) (by kernel_rfl) (fun _ _ _ h => h) (Or.inl ⟨by rfl, ?hy⟩) (by assumption) ?_
        case hy => (intro w9 hSw; (try dsimp only at hSw); go_simp; try with_reducible rfl)
        try simp only [Act.put, List.setIfInBounds_toArray, List.set_cons_zero, List.set_cons_succ]
        refine wpAnyH_take (i := 5) (oi := { dst := some 21, op := Go.Op.move (Go.Operand.tmp 1), type := 3, pos := "lattice.go:528", after := #[], guard := none }) (v := ?_) rfl (by kernel_rfl) (by kernel_rfl) (by kernel_rfl) (fun _ _ _ h => h) (Or.inl ⟨by rfl, ?hy⟩) (by assumption) ?_
        case hy => (intro w9 hSw; (try dsimp only at hSw); go_simp; try with_reducible rfl)
        try simp only [Act.put, List.setIfInBounds_toArray, List.set_cons_zero, List.set_cons_succ]
        refine wpAnyH_ready (rs := [6]) (by kernel_rfl) (by simp) ?_
        refine AllReadyH.cons (o := { dst := some 22, op := Go.Op.call { callee := Go.Callee.value (Go.Operand.func 31), args := #[Go.Operand.tmp 16, Go.Operand.tmp 20, Go.Operand.tmp 21], argTypes := #[27, 3, 3] }, type := 4, pos := "lattice.go:528", after := #[{ on := 0, ground := Go.Ground.data }, { on := 4, ground := Go.Ground.data }, { on := 5, ground := Go.Ground.data }], guard := none }) rfl (fun K hK => ?_) AllReadyH.nil
        go_simp
        refine (under_any n b1 o1 ca b2 lb cb R1 m (nth P k) x _ true hb (LT.out _ (by assumption)) hpk hx).mono ?_
        rintro e w2 ⟨rfl, hb2⟩
        refine hK.out _ _ ?_ (fun hHeld => ?_)
        · first | assumption | exact Below.then (by assumption) (by assumption)
        clear hK K
        try simp only [Act.put, List.setIfInBounds_toArray, List.set_cons_zero, List.set_cons_succ]
        refine wpAnyH_done (by kernel_rfl) ?_ _
        try simp only [Act.put, List.setIfInBounds_toArray, List.set_cons_zero, List.set_cons_succ]
        have hb8 : Below wr.heap.size wr w2 := by first | assumption | exact hHeld
        have HW2 : Hid (Below w1.heap.size w1 w2) := Below.then HW.out hb8
        clear hb8 l0 l1 l2 l3 KK LT HW
        go_wp2_with (go_at_call 27; refine (bit_any k _ (by omega)).mono ?_; rintro e w' ⟨rfl, rfl⟩)
        go_roundw
        case rel => exact ⟨k + 1, by omega, by go_num, by rw [HE.out]; go_num, HW2⟩
        case measure => simp [intOf]; omega
    · obtain rfl : k = q := by omega
      go_wp2_with fail
      go_ret
      exact ⟨rfl, Below.then HB0.out (Below.then HW1.out HW.out)⟩
end Go.Proofs.Ytpgbcnbhfgopdaa
