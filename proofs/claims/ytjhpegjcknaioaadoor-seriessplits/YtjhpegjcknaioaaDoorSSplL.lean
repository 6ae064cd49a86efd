/-
  What hasselaw.SeriesSplits answers: true. Conditions: a slice reads as a slice of numbers; the table of the least bits.
-/
import Derived.Deep.RegionHeld3
import Derived.Test.YtjhpegjcknaioaaDoorSValL
import Derived.Test.YtjhpegjcknaioaaDoorRfW
namespace Go.Proofs.YtjhpegjcknaioaaDoor
set_option maxRecDepth 100000
open Go.RowKit

theorem truthIs_any (c : Int) (b b' : Bool) (w : World) (h : (c ≠ 0 ∧ b = false) ∨ (c = 0 ∧ b = b')) :
    Calls Tryd.prog 11 #[.bool b, .int .i64 c, .int .i64 c, .bool b'] w fun e w' => e = .returned (.bool true) ∧ w = w' := by
  rcases h with ⟨h0, rfl⟩ | ⟨rfl, rfl⟩
  · have hne : (c == 0) = false := by simpa using h0
    cases b'
    · go_enter Tryd.func11, Tryd.ntmps11
      go_wp2
      go_ret
      exact ⟨rfl, rfl⟩
    · go_enter Tryd.func11, Tryd.ntmps11
      go_wp2
      go_ret
      exact ⟨rfl, rfl⟩
  · cases b
    · go_enter Tryd.func11, Tryd.ntmps11
      go_wp2
      go_ret
      exact ⟨rfl, rfl⟩
    · go_enter Tryd.func11, Tryd.ntmps11
      go_wp2
      go_ret
      exact ⟨rfl, rfl⟩
/-- The relation of an order, no point below itself. -/
def lsx (g : Nat → Nat) (a b : Nat) : Bool := lss g a b && !(a == b)
theorem row_lss {w : World} {ar : Option Addr} {n : Nat} {f : Nat → Int} (hr : Rng n f) (hg : Sm n n (nat f)) (ho : Ord n (nat f)) (h : Row w ar n (fun y => (setBy (fun x => lsx (nat f) x y) n : Nat))) : Row w ar n f := fun p hp => by
  obtain ⟨b, off, e, q⟩ := h p hp
  refine ⟨b, off, e, q.trans ?_⟩
  have e1 : setBy (fun x => lsx (nat f) x p) n = nat f p := by
    refine eq_of_bits (setBy_lt _ n) (hg p hp) fun i hi => ?_
    rw [setBy_bit]
    by_cases e : i = p
    · subst e; rw [(ho i hi).1]; simp [lsx]
    · simp [hi, lsx, lss, e]
  show some (Value.int .i64 ((setBy (fun x => lsx (nat f) x p) n : Nat) : Int)) = _
  rw [e1]
  have := hr p hp
  unfold nat
  congr 2
  omega
set_option maxHeartbeats 4000000 in
theorem seriesSplits_any (n : Int) (a : Option Addr) (len cap : Nat) (f : Nat → Int) (w : World) (hl : len ≤ maxLen) (hr : Row w a len f) (hT : Tab w) :
    Calls Tryd.prog 3 #[.agg #[.int .i64 n, .slice a len cap]] w fun e w' => e = .returned (.bool true) ∧ Below w.heap.size w w' := by
  have K0 : Hid (Held (w.alloc (.cells #[.int .i64 n, .slice a len cap] 24)) w.heap.size n a len cap f) := Held.box hr
  have HB0 : Hid (Below w.heap.size w (w.alloc (.cells #[.int .i64 n, .slice a len cap] 24))) := (Below.refl _ _).alloc (Nat.le_refl _) _
  have HT : Hid (Tab w) := hT
  clear hr hT
  go_enter Tryd.func3, Tryd.ntmps3
  go_wp2_with fail
  refine (sSplit_any n a len cap f _ hl K0.out.row (HT.out.step HB0.out)).mono ?_
  rintro e w2 ⟨⟨c, v, ok, hc, rfl, he⟩, hb2⟩
  have K2 : Hid (Held w2 w.heap.size n a len cap f) := K0.out.step hb2
  have HB2 : Hid (Below w.heap.size w w2) := Below.then HB0.out hb2
  have HC : Hid (Chk n len f c) := hc
  obtain ⟨k', x', a', n', c', hv⟩ : ∃ k x a n c, v = .agg #[.int .i64 k, .int .i64 x, .slice a n c] := by
    rcases he with ⟨_, rfl, _⟩ | ⟨_, ⟨_, _, T, h, _⟩ | ⟨_, rfl, _⟩⟩
    · exact ⟨0, 0, none, 0, 0, rfl⟩
    · exact h.agg
    · exact ⟨0, 0, none, 0, 0, rfl⟩
  have HE := (show Hid ((c ≠ 0 ∧ v = zeroT ∧ ok = false) ∨ (c = 0 ∧ ((ok = true ∧ 0 < len ∧ ∃ T, TRep _ w2 T v ∧ Trm (nat f) len (pw len - 1) T) ∨ (ok = false ∧ v = zeroT ∧ (len = 0 ∨ ¬ NZ (nat f) (pw len - 1)))))) from he)
  subst hv
  have HBA : Hid (Below w2.heap.size w2 (w2.alloc (.cells #[.int .i64 k', .int .i64 x', .slice a' n' c'] 27))) := (Below.refl _ _).alloc (Nat.le_refl _) _
  have K3 : Hid (Held (w2.alloc (.cells #[.int .i64 k', .int .i64 x', .slice a' n' c'] 27)) w.heap.size n a len cap f) := K2.out.step HBA.out
  have HX : Hid (∀ w', Below (w2.alloc (.cells #[.int .i64 k', .int .i64 x', .slice a' n' c'] 27)).heap.size (w2.alloc (.cells #[.int .i64 k', .int .i64 x', .slice a' n' c'] 27)) w' → w'.cell? ⟨w2.heap.size, 0, none⟩ = some (.int .i64 k') ∧ w'.cell? ⟨w2.heap.size, 1, none⟩ = some (.int .i64 x') ∧ w'.cell? ⟨w2.heap.size, 2, none⟩ = some (.slice a' n' c')) := fun w' h =>
    ⟨cell_stp h (by simp), cell_stp h (by simp), cell_stp h (by simp)⟩
  have k0 := K3.out.c0
  have k1 := K3.out.c1
  clear hb2 hc he
  go_wp2_with fail
  refine (checkOrder_any n a len cap f _ hl K3.out.row).mono ?_
  rintro e w3 ⟨⟨c3, rfl, hc3⟩, hb3⟩
  obtain rfl := Chk.unique hc3 HC.out
  have HB3 : Hid (Below w.heap.size w w3) := Below.then (Below.then HB2.out HBA.out) hb3
  have HB23 : Hid (Below w2.heap.size w2 w3) := Below.then HBA.out hb3
  have HX3 : Hid (∀ w', Below w3.heap.size w3 w' → w'.cell? ⟨w2.heap.size, 0, none⟩ = some (.int .i64 k') ∧ w'.cell? ⟨w2.heap.size, 1, none⟩ = some (.int .i64 x') ∧ w'.cell? ⟨w2.heap.size, 2, none⟩ = some (.slice a' n' c')) := fun w' h => HX.out w' (Below.then hb3 h)
  have K4 : Hid (Held w3 w.heap.size n a len cap f) := K3.out.step hb3
  have k0 := K4.out.c0
  have k1 := K4.out.c1
  clear hb3 hc3 HX HBA K3 K2 HB2
  by_cases h0 : c3 = 0
  · subst h0
    obtain ⟨rfl, h10, hrng, hord⟩ := HC.out.good
    have HSM : Hid (Sm len len (nat f)) := hrng.small
    have HRG : Hid (Rng len f) := hrng
    have HOR : Hid (Ord len (nat f)) := hord
    have HR4 : Hid (Row w3 a len (fun k => (nat f k : Nat))) := hrng.row K4.out.row
    clear hrng hord
    by_cases hz : len = 0
    · subst hz
      rcases HE.out with ⟨h, _⟩ | ⟨_, ⟨_, h, _⟩ | ⟨hok, hv, _⟩⟩
      · exact absurd rfl h
      · omega
      · subst hok
        unfold zeroT at hv
        injection hv with hv
        simp only [Array.mk.injEq, List.cons.injEq, Value.int.injEq, Value.slice.injEq, true_and, and_true] at hv
        obtain ⟨rfl, rfl, rfl, rfl, rfl⟩ := hv
        clear HE
        go_wp2_with fail
        refine (seriesBegun_any _ (HT.out.step HB3.out)).mono ?_
        rintro e w4 ⟨rfl, hb4⟩
        have HB4 : Hid (Below w.heap.size w w4) := Below.then HB3.out hb4
        obtain ⟨y0, y1, y2⟩ := HX3.out _ hb4
        clear hb4
        go_wp2_with (go_at_call 11; refine (truthIs_any 0 false false _ (.inr ⟨rfl, rfl⟩)).mono ?_; rintro e w' ⟨rfl, rfl⟩)
        refine (sameZero_any _).mono ?_
        rintro e w5 ⟨rfl, hb5⟩
        have HB5 : Hid (Below w.heap.size w w5) := Below.then HB4.out hb5
        clear hb5
        go_wp2_with fail
        go_ret
        exact ⟨rfl, HB5.out⟩
    · have hlI : (0 : Int) < (len : Int) := by omega
      go_wp2_with fail
      refine (zigOf_any a len cap (nat f) _ h10 HSM.out HR4.out).mono ?_
      rintro e w4 ⟨⟨vz, lz, okz, rfl, hf, _⟩, hb4⟩
      have HFZ : Hid (okz = true ↔ ¬ NZ (nat f) (pw len - 1)) := first_zig HOR.out hf
      have HB4 : Hid (Below w.heap.size w w4) := Below.then HB3.out hb4
      have HB34 : Hid (Below w3.heap.size w3 w4) := hb4
      clear hb4 hf
      have HOZ : Hid (ok = !okz) := by
        rcases HE.out with ⟨h, _⟩ | ⟨_, ⟨rfl, _, T, _, hTr⟩ | ⟨rfl, _, h | h⟩⟩
        · exact absurd rfl h
        · rcases okz with _ | _
          · exact rfl
          · exact absurd hTr.nz (HFZ.out.1 rfl)
        · exact absurd h hz
        · rw [HFZ.out.2 h]; exact rfl
      go_wp2_with fail
      refine (seriesBegun_any _ (HT.out.step HB4.out)).mono ?_
      rintro e w5 ⟨rfl, hb5⟩
      have HB5 : Hid (Below w.heap.size w w5) := Below.then HB4.out hb5
      have HB35 : Hid (Below w3.heap.size w3 w5) := Below.then HB34.out hb5
      obtain ⟨y0, y1, y2⟩ := HX3.out _ HB35.out
      clear hb5 HB4 HB34
      have HQ := truthIs_any 0 ok (!okz) w5 (.inr ⟨rfl, HOZ.out⟩)
      have HQ : Hid (Calls Tryd.prog 11 #[.bool ok, .int .i64 0, .int .i64 0, .bool (!okz)] w5 fun e w' => e = .returned (.bool true) ∧ w5 = w') := HQ
      rcases HE.out with ⟨h, _⟩ | ⟨_, ⟨rfl, _, T, hTT, hTr⟩ | ⟨rfl, hv, _⟩⟩
      · exact absurd rfl h
      · have HOK : Hid (Ok (lsx (nat f)) T) := hTr.ok.congr (fun p q hp hq => by
          by_cases e : p = q
          · subst e
            rw [hTr.st, full_bit] at hp
            have hpl : p < len := by simpa using hp
            have := (HOR.out p hpl).1
            simp [lsx, lss, this]
          · simp [lsx, e])
        have HST : Hid (st T = pw len - 1) := hTr.st
        have HIR : Hid (∀ p, p < 10 → lsx (nat f) p p = false) := fun p _ => by simp [lsx]
        have HCAN : Hid (Can T ∧ Ok (lsx (nat f)) T ∧ sz T ≤ 40) := ⟨hTr.can, HOK.out, (hTr.ok.good h10 hTr.st).1.1.1⟩
        clear HE
        go_wp2_with (go_at_call 11; refine HQ.out.mono ?_; rintro e w' ⟨rfl, rfl⟩)
        generalize hW : w5 = W at *
        have HTR : Hid (∀ w', Below W.heap.size W w' → TRep 0 w' T (.agg #[.int .i64 k', .int .i64 x', .slice a' n' c'])) := fun w' h => TRep.low (Nat.zero_le _) _ _ (TRep.step (Below.then (Below.then HB23.out HB35.out) h) _ _ hTT)
        have HRO : Hid (∀ w', Below W.heap.size W w' → Row w' a len f) := fun w' h => (K4.out.step (Below.then HB35.out h)).row
        have l0 : ∀ w', Below W.heap.size W w' → w'.cell? ⟨w2.heap.size, 0, none⟩ = some (.int .i64 k') := fun w' h => (HX3.out w' (Below.then HB35.out h)).1
        have l1 : ∀ w', Below W.heap.size W w' → w'.cell? ⟨w2.heap.size, 1, none⟩ = some (.int .i64 x') := fun w' h => (HX3.out w' (Below.then HB35.out h)).2.1
        have l2 : ∀ w', Below W.heap.size W w' → w'.cell? ⟨w2.heap.size, 2, none⟩ = some (.slice a' n' c') := fun w' h => (HX3.out w' (Below.then HB35.out h)).2.2
        have o0 : ∀ w', Below W.heap.size W w' → w'.cell? ⟨w.heap.size, 0, none⟩ = some (.int .i64 (len : Int)) := fun w' h => (K4.out.step (Below.then HB35.out h)).c0
        have o1 : ∀ w', Below W.heap.size W w' → w'.cell? ⟨w.heap.size, 1, none⟩ = some (.slice a len cap) := fun w' h => (K4.out.step (Below.then HB35.out h)).c1
        have HFIN : Hid (∀ w', Below W.heap.size W w' → Below w.heap.size w w') := fun w' h => Below.then HB5.out h
        have HBd : Hid (Below W.heap.size W W.drew) := (Below.refl _ _).drew
        clear hTT hTr HQ y0 y1 y2 k0 k1
        refine wp_region_held_drew (S := (fun w' => Below W.heap.size W w')) (by kernel_rfl) (HBd.out) (fun hHeld => ?_)
        refine wpAnyH_take (i := 0) (oi := { dst := some 47, op := Go.Op.load 27 (Go.Operand.tmp 3), type := 27, pos := "lattice.go:291", after := #[], guard := none }) (v := ?_) rfl (by kernel_rfl) (by kernel_rfl) (by kernel_rfl) (fun _ _ _ h => h) (Or.inl ⟨by rfl, ?hy⟩) (by assumption) ?_
        case hy => (intro w9 hSw; (try dsimp only at hSw); go_simp; try with_reducible rfl)
        try simp only [Act.put, List.setIfInBounds_toArray, List.set_cons_zero, List.set_cons_succ]
        refine wpAnyH_ready (rs := [1]) (by kernel_rfl) (by simp) ?_
        refine AllReadyH.cons (o := { dst := some 48, op := Go.Op.call { callee := Go.Callee.value (Go.Operand.func 13), args := #[Go.Operand.tmp 47], argTypes := #[27] }, type := 28, pos := "lattice.go:291", after := #[{ on := 0, ground := Go.Ground.data }], guard := none }) rfl (fun K hK => ?_) AllReadyH.nil
        go_simp
        refine (checkTerm_ok (L := lsx (nat f)) (n := len) T _ _ (HTR.out _ (by assumption)) HOK.out h10 HST.out).mono ?_
        rintro e w1 ⟨rfl, hb1⟩
        refine hK.out _ _ ?_ (fun hHeld => ?_)
        · first | assumption | exact Below.then (by assumption) (by assumption)
        clear hK K
        try simp only [Act.put, List.setIfInBounds_toArray, List.set_cons_zero, List.set_cons_succ]
        refine wpAnyH_take (i := 2) (oi := { dst := some 49, op := Go.Op.binOp Go.BinOp.eql 28 (Go.Operand.tmp 48) (Go.Operand.const (Go.Value.int Go.IntKind.i64 0)) 28, type := 4, pos := "lattice.go:291", after := #[{ on := 1, ground := Go.Ground.data }], guard := none }) (v := .bool true) rfl (by kernel_rfl) (by kernel_rfl) (by kernel_rfl) (fun _ _ _ h => h) (Or.inl ⟨by rfl, ?hy⟩) (by assumption) ?_
        case hy => (intro w9 hSw; (try dsimp only at hSw); go_simp <;> (first | with_reducible rfl | (simp; omega) | omega))
        try simp only [Act.put, List.setIfInBounds_toArray, List.set_cons_zero, List.set_cons_succ]
        refine wpAnyH_take (i := 3) (oi := { dst := some 50, op := Go.Op.move (Go.Operand.tmp 49), type := 4, pos := "lattice.go:291", after := #[{ on := 2, ground := Go.Ground.data }, { on := 1, ground := Go.Ground.chain }], guard := none }) (v := ?_) rfl (by kernel_rfl) (by kernel_rfl) (by kernel_rfl) (fun _ _ _ h => h) (Or.inl ⟨by rfl, ?hy⟩) (by assumption) ?_
        case hy => (intro w9 hSw; (try dsimp only at hSw); go_simp; try with_reducible rfl)
        try simp only [Act.put, List.setIfInBounds_toArray, List.set_cons_zero, List.set_cons_succ]
        refine wpAnyH_take (i := 4) (oi := { dst := some 51, op := Go.Op.load 27 (Go.Operand.tmp 3), type := 27, pos := "lattice.go:291", after := #[{ on := 3, ground := Go.Ground.guard }], guard := some (3, true) }) (v := ?_) rfl (by kernel_rfl) (by kernel_rfl) (by kernel_rfl) (fun _ _ _ h => h) (Or.inl ⟨by rfl, ?hy⟩) (by assumption) ?_
        case hy => (intro w9 hSw; (try dsimp only at hSw); go_simp; try with_reducible rfl)
        try simp only [Act.put, List.setIfInBounds_toArray, List.set_cons_zero, List.set_cons_succ]
        refine wpAnyH_ready (rs := [5]) (by kernel_rfl) (by simp) ?_
        refine AllReadyH.cons (o := { dst := some 52, op := Go.Op.call { callee := Go.Callee.value (Go.Operand.func 14), args := #[Go.Operand.tmp 51], argTypes := #[27] }, type := 4, pos := "lattice.go:291", after := #[{ on := 4, ground := Go.Ground.data }, { on := 3, ground := Go.Ground.chain }, { on := 3, ground := Go.Ground.guard }], guard := some (3, true) }) rfl (fun K hK => ?_) AllReadyH.nil
        go_simp
        refine (canonical_any (lsx (nat f)) T _ _ HCAN.out (HTR.out _ (by assumption))).mono ?_
        rintro e w1 ⟨rfl, hb1⟩
        refine hK.out _ _ ?_ (fun hHeld => ?_)
        · first | assumption | exact Below.then (by assumption) (by assumption)
        clear hK K
        try simp only [Act.put, List.setIfInBounds_toArray, List.set_cons_zero, List.set_cons_succ]
        refine wpAnyH_take (i := 6) (oi := { dst := some 53, op := Go.Op.pick (Go.Operand.tmp 50) (Go.Operand.tmp 52) (Go.Operand.const (Go.Value.bool false)), type := 4, pos := "lattice.go:291", after := #[{ on := 3, ground := Go.Ground.data }, { on := 5, ground := Go.Ground.data }], guard := none }) (v := ?_) rfl (by kernel_rfl) (by kernel_rfl) (by kernel_rfl) (fun _ _ _ h => h) (Or.inl ⟨by rfl, ?hy⟩) (by assumption) ?_
        case hy => (intro w9 hSw; (try dsimp only at hSw); go_simp; try with_reducible rfl)
        try simp only [Act.put, List.setIfInBounds_toArray, List.set_cons_zero, List.set_cons_succ]
        refine wpAnyH_take (i := 7) (oi := { dst := some 54, op := Go.Op.move (Go.Operand.tmp 53), type := 4, pos := "lattice.go:291", after := #[{ on := 6, ground := Go.Ground.data }, { on := 5, ground := Go.Ground.chain }], guard := none }) (v := ?_) rfl (by kernel_rfl) (by kernel_rfl) (by kernel_rfl) (fun _ _ _ h => h) (Or.inl ⟨by rfl, ?hy⟩) (by assumption) ?_
        case hy => (intro w9 hSw; (try dsimp only at hSw); go_simp; try with_reducible rfl)
        try simp only [Act.put, List.setIfInBounds_toArray, List.set_cons_zero, List.set_cons_succ]
        refine wpAnyH_take (i := 8) (oi := { dst := some 55, op := Go.Op.load 27 (Go.Operand.tmp 3), type := 27, pos := "lattice.go:291", after := #[{ on := 7, ground := Go.Ground.guard }], guard := some (7, true) }) (v := ?_) rfl (by kernel_rfl) (by kernel_rfl) (by kernel_rfl) (fun _ _ _ h => h) (Or.inl ⟨by rfl, ?hy⟩) (by assumption) ?_
        case hy => (intro w9 hSw; (try dsimp only at hSw); go_simp; try with_reducible rfl)
        try simp only [Act.put, List.setIfInBounds_toArray, List.set_cons_zero, List.set_cons_succ]
        refine wpAnyH_take (i := 10) (oi := { dst := some 57, op := Go.Op.load 24 (Go.Operand.tmp 1), type := 24, pos := "lattice.go:291", after := #[{ on := 7, ground := Go.Ground.guard }], guard := some (7, true) }) (v := ?_) rfl (by kernel_rfl) (by kernel_rfl) (by kernel_rfl) (fun _ _ _ h => h) (Or.inl ⟨by rfl, ?hy⟩) (by assumption) ?_
        case hy => (intro w9 hSw; (try dsimp only at hSw); go_simp; try with_reducible rfl)
        try simp only [Act.put, List.setIfInBounds_toArray, List.set_cons_zero, List.set_cons_succ]
        refine wpAnyH_ready (rs := [9]) (by kernel_rfl) (by simp) ?_
        refine AllReadyH.cons (o := { dst := some 56, op := Go.Op.call { callee := Go.Callee.value (Go.Operand.func 16), args := #[Go.Operand.tmp 55], argTypes := #[27] }, type := 24, pos := "lattice.go:291", after := #[{ on := 8, ground := Go.Ground.data }, { on := 7, ground := Go.Ground.chain }, { on := 7, ground := Go.Ground.guard }], guard := some (7, true) }) rfl (fun K hK => ?_) AllReadyH.nil
        go_simp
        refine (buildTerm_ok (lsx (nat f)) HIR.out len T _ _ (HTR.out _ (by assumption)) HOK.out h10 HST.out).mono ?_
        rintro e w5 ⟨⟨ar, cp, rfl, hrow⟩, hb1⟩
        have HRW : Hid (Row w5 ar len f) := row_lss HRG.out HSM.out HOR.out hrow
        clear hrow
        refine hK.out _ _ ?_ (fun hHeld => ?_)
        · first | assumption | exact Below.then (by assumption) (by assumption)
        clear hK K
        try simp only [Act.put, List.setIfInBounds_toArray, List.set_cons_zero, List.set_cons_succ]
        refine wpAnyH_ready (rs := [11]) (by kernel_rfl) (by simp) ?_
        refine AllReadyH.cons (o := { dst := some 58, op := Go.Op.call { callee := Go.Callee.value (Go.Operand.func 15), args := #[Go.Operand.tmp 56, Go.Operand.tmp 57], argTypes := #[24, 24] }, type := 4, pos := "lattice.go:291", after := #[{ on := 9, ground := Go.Ground.data }, { on := 10, ground := Go.Ground.data }, { on := 9, ground := Go.Ground.chain }, { on := 7, ground := Go.Ground.guard }], guard := some (7, true) }) rfl (fun K hK => ?_) AllReadyH.nil
        go_simp
        refine (sameOrder_any len len ar a len cp len cap f f _ hl hl HRW.out (HRO.out _ (by assumption))).mono ?_
        rintro e w1 ⟨⟨q, rfl, hq⟩, hb1⟩
        obtain rfl : q = true := hq.2 ⟨rfl, rfl, fun _ _ => rfl⟩
        clear hq
        refine hK.out _ _ ?_ (fun hHeld => ?_)
        · first | assumption | exact Below.then (by assumption) (by assumption)
        clear hK K
        try simp only [Act.put, List.setIfInBounds_toArray, List.set_cons_zero, List.set_cons_succ]
        refine wpAnyH_take (i := 12) (oi := { dst := some 59, op := Go.Op.pick (Go.Operand.tmp 54) (Go.Operand.tmp 58) (Go.Operand.const (Go.Value.bool false)), type := 4, pos := "lattice.go:291", after := #[{ on := 7, ground := Go.Ground.data }, { on := 11, ground := Go.Ground.data }], guard := none }) (v := ?_) rfl (by kernel_rfl) (by kernel_rfl) (by kernel_rfl) (fun _ _ _ h => h) (Or.inl ⟨by rfl, ?hy⟩) (by assumption) ?_
        case hy => (intro w9 hSw; (try dsimp only at hSw); go_simp; try with_reducible rfl)
        try simp only [Act.put, List.setIfInBounds_toArray, List.set_cons_zero, List.set_cons_succ]
        refine wpAnyH_take (i := 13) (oi := { dst := some 2, op := Go.Op.assign (Go.Operand.tmp 59), type := 4, pos := "lattice.go:291", after := #[{ on := 12, ground := Go.Ground.data }, { on := 11, ground := Go.Ground.chain }, { on := 0, ground := Go.Ground.phase }, { on := 1, ground := Go.Ground.phase }, { on := 2, ground := Go.Ground.phase }, { on := 3, ground := Go.Ground.phase }, { on := 4, ground := Go.Ground.phase }, { on := 5, ground := Go.Ground.phase }, { on := 6, ground := Go.Ground.phase }, { on := 7, ground := Go.Ground.phase }, { on := 8, ground := Go.Ground.phase }, { on := 9, ground := Go.Ground.phase }, { on := 10, ground := Go.Ground.phase }, { on := 11, ground := Go.Ground.phase }, { on := 12, ground := Go.Ground.phase }], guard := none }) (v := ?_) rfl (by kernel_rfl) (by kernel_rfl) (by kernel_rfl) (fun _ _ _ h => h) (Or.inl ⟨by rfl, ?hy⟩) (by assumption) ?_
        case hy => (intro w9 hSw; (try dsimp only at hSw); go_simp; try with_reducible rfl)
        try simp only [Act.put, List.setIfInBounds_toArray, List.set_cons_zero, List.set_cons_succ]
        refine wpAnyH_done (by kernel_rfl) ?_ _
        try simp only [Act.put, List.setIfInBounds_toArray, List.set_cons_zero, List.set_cons_succ]
        go_wp2_with fail
        go_ret
        exact ⟨rfl, HFIN.out _ (by first | assumption | exact Below.then (by assumption) (by assumption))⟩
      · unfold zeroT at hv
        injection hv with hv
        simp only [Array.mk.injEq, List.cons.injEq, Value.int.injEq, Value.slice.injEq, true_and, and_true] at hv
        obtain ⟨rfl, rfl, rfl, rfl, rfl⟩ := hv
        clear HE
        go_wp2_with (go_at_call 11; refine HQ.out.mono ?_; rintro e w' ⟨rfl, rfl⟩)
        refine (sameZero_any _).mono ?_
        rintro e w6 ⟨rfl, hb6⟩
        have HB6 : Hid (Below w.heap.size w w6) := Below.then HB5.out hb6
        clear hb6
        go_wp2_with fail
        go_ret
        exact ⟨rfl, HB6.out⟩
  · have hne : (c3 == 0) = false := by simpa using h0
    rcases HE.out with ⟨_, hv, hok⟩ | ⟨h, _⟩
    · subst hok
      unfold zeroT at hv
      injection hv with hv
      simp only [Array.mk.injEq, List.cons.injEq, Value.int.injEq, Value.slice.injEq, true_and, and_true] at hv
      obtain ⟨rfl, rfl, rfl, rfl, rfl⟩ := hv
      clear HE
      go_wp2_with fail
      refine (seriesBegun_any _ (HT.out.step HB3.out)).mono ?_
      rintro e w4 ⟨rfl, hb4⟩
      have HB4 : Hid (Below w.heap.size w w4) := Below.then HB3.out hb4
      obtain ⟨y0, y1, y2⟩ := HX3.out _ hb4
      clear hb4
      go_wp2_with (go_at_call 11; refine (truthIs_any c3 false false _ (.inl ⟨h0, rfl⟩)).mono ?_; rintro e w' ⟨rfl, rfl⟩)
      refine (sameZero_any _).mono ?_
      rintro e w5 ⟨rfl, hb5⟩
      have HB5 : Hid (Below w.heap.size w w5) := Below.then HB4.out hb5
      clear hb5
      go_wp2_with fail
      go_ret
      exact ⟨rfl, HB5.out⟩
    · exact absurd h h0
end Go.Proofs.YtjhpegjcknaioaaDoor
