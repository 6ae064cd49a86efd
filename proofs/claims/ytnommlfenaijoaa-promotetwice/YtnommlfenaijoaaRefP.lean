/-
  What hasselaw.rowOf and the reference's SwapAt, SwapsTo and EvacuateRow answer. Conditions: as each theorem says.
-/
import Derived.Test.YtnommlfenaijoaaRefIs
namespace Go.Proofs.Ytnommlfenaijoaa
set_option maxRecDepth 100000
open Go.RowKit

theorem less_lit (n : Int) (a : Option Addr) (len cap : Nat) (g : Nat → Nat) (i j : Nat) (w : World) (v : Bool) (hv : (g j).testBit i = v) (hl : len ≤ 10) (hg : ∀ k, k < len → g k < 1024) (hr : Row w a len (fun k => (g k : Nat))) (hi : i < 63) (hj : j < len) :
    Calls Try.prog 26 #[.agg #[.int .i64 n, .slice a len cap], .int .i64 i, .int .i64 j] w fun e w' => e = .returned (.bool v) ∧ Below w.heap.size w w' :=
  (less_any n a len cap g i j w hl hg hr hi hj).mono fun _ _ ⟨h1, h2⟩ => ⟨by rw [← hv]; exact h1, h2⟩

set_option maxHeartbeats 2000000 in
theorem rowOf_any (n : Int) (ao : Option Addr) (len co : Nat) (f : Nat → Int) (ar : Option Addr) (lr cr : Nat) (r : Nat → Int) (w : World) (hl : len ≤ maxLen) (hlr : lr ≤ maxLen) (ho : Row w ao len f) (hr : Row w ar lr r) :
    Calls Try.prog 10 #[.agg #[.int .i64 n, .slice ao len co], .slice ar lr cr] w fun e w' => (∃ c, e = .returned (.int .i64 c) ∧ RkC n len f lr r c) ∧ Below w.heap.size w w' := by
  have HB0 : Hid (Below w.heap.size w (w.alloc (.cells #[.int .i64 n, .slice ao len co] 24))) := bel_one w _
  have K0 : Hid (Held (w.alloc (.cells #[.int .i64 n, .slice ao len co] 24)) w.heap.size n ao len co f) := Held.box ho
  have HRr : Hid (Row w ar lr r) := hr
  clear ho hr
  have k0 := K0.out.c0
  have k1 := K0.out.c1
  go_enter Try.func10, Try.ntmps10
  go_wp2_with fail
  refine (checkOrder_any n ao len co f _ hl K0.out.row).mono ?_
  rintro e w1 ⟨⟨c, rfl, hc⟩, hb1⟩
  have HB1 : Hid (Below w.heap.size w w1) := Below.then HB0.out hb1
  have K1 : Hid (Held w1 w.heap.size n ao len co f) := K0.out.step hb1
  have HC : Hid (Chk n len f c) := hc
  clear hb1 hc HB0 K0 k0 k1
  have k0 := K1.out.c0
  have k1 := K1.out.c1
  by_cases h0 : c = 0
  · subst h0
    obtain ⟨rfl, h10, hrng, _⟩ := HC.out.good
    have HRN : Hid (Row w1 ao len (fun k => ((nat f k : Nat) : Int))) := hrng.row K1.out.row
    have HSM : Hid (Sm len len (nat f)) := hrng.small
    clear hrng
    go_wp2_with fail
    refine (isRow_any len ao co (nat f) ar lr cr r w1 h10 HSM.out hlr HRN.out (HRr.out.below HB1.out)).mono ?_
    rintro e w2 ⟨⟨v, rfl, hv⟩, hb2⟩
    have HB2 : Hid (Below w.heap.size w w2) := Below.then HB1.out hb2
    clear hb2 k0 k1
    cases v
    · have HN : Hid (RkC len len f lr r 1) := .inr ⟨HC.out, .inl ⟨rfl, fun h => by have := hv.2 h; cases this⟩⟩
      clear hv
      go_wp2_with fail
      go_ret
      exact ⟨⟨_, rfl, HN.out⟩, HB2.out⟩
    · have HN : Hid (RkC len len f lr r 0) := .inr ⟨HC.out, .inr ⟨rfl, hv.1 rfl⟩⟩
      clear hv
      go_wp2_with fail
      go_ret
      exact ⟨⟨_, rfl, HN.out⟩, HB2.out⟩
  · have hne : (c == 0) = false := by simpa using h0
    have HN : Hid (RkC n len f lr r c) := .inl ⟨h0, HC.out⟩
    clear h0
    go_wp2_with fail
    go_ret
    exact ⟨⟨_, rfl, HN.out⟩, HB1.out⟩

set_option maxHeartbeats 4000000 in
theorem swapAt_any (n : Nat) (ao : Option Addr) (co : Nat) (g : Nat → Nat) (ar : Option Addr) (cr : Nat) (r : Nat → Nat) (k : Nat) (w : World) (h10 : n ≤ 10) (hg : ∀ k, k < n → g k < 1024) (ho : Row w ao n (fun k => (g k : Nat))) (hr : Row w ar n (fun k => (r k : Nat))) (hlt : ∀ j, j < n → r j < n) (hk : k + 1 < n) :
    Calls Try.prog 15 #[.agg #[.int .i64 n, .slice ao n co], .slice ar n cr, .int .i64 (k : Nat)] w fun e w' => (∃ v, e = .returned v ∧ RowV w' v n (sw g k r)) ∧ Below w.heap.size w w' := by
  obtain ⟨i0, hi, hz0, hz1, hz2⟩ := info_parts Try.info3
  obtain ⟨br, orr, rfl, _⟩ := hr k (by omega)
  have HRr0 : Hid (Row w (some ⟨br, orr, none⟩) n (fun k => (r k : Nat))) := hr
  have HG : Hid (∀ k, k < n → g k < 1024) := hg
  have hx0 := hlt k (by omega)
  have hx1 := hlt (k + 1) hk
  have hbr : br < w.heap.size := by
    obtain ⟨b, off, e, hc⟩ := hr k (by omega)
    simp at e
    have := World.block_lt_of_cell? _ _ hc
    simp at this
    omega
  have HRo0 : Hid (Row w ao n (fun k => (g k : Nat))) := ho
  have HE : Hid ((g (r (k + 1))).testBit (r k) = true → sw g k r = r) := sw_no
  have HF : Hid ((g (r (k + 1))).testBit (r k) = false → sw g k r = fun i => if i = k then r (k + 1) else if i = k + 1 then r k else r i) := sw_yes
  clear hg hlt hr ho
  go_enter Try.func15, Try.ntmps15
  generalize hC : Code.region 1 _ false = C
  go_wp2_with fail
  generalize hW1 : w.alloc (.cells #[.int .i64 n, .slice ao n co] 24) = W1
  have HB1 : Hid (Below w.heap.size w W1) := by rw [← hW1]; exact bel_one w _
  have K1 : Hid (Held W1 w.heap.size n ao n co (fun k => (g k : Nat))) := by rw [← hW1]; exact Held.box HRo0.out
  have hs1 : W1.heap.size = w.heap.size + 1 := by rw [← hW1]; simp
  have HS1 : Hid (W1.heap.size = w.heap.size + 1) := hs1
  have hown : (W1.alloc (.cells #[] 3)).ownsRow W1.heap.size 3 1 (.slice (some ⟨W1.heap.size, 0, none⟩) 0 0) 0 [] := World.ownsRow_made W1 #[] 0 (Nat.le_refl _) (by unfold maxLen; omega) (by simp)
  have hrW : Row W1 (some ⟨br, orr, none⟩) n (fun k => (r k : Nat)) := HRr0.out.below HB1.out
  clear hW1 hs1
  rw [← hC]
  clear hC C
  go_wp2_with (at_builtin; refine wpList_append_own _ rfl _ _ 22 rfl W1.heap.size 3 i0 (.int .i64 0) 1 8 Try.underlying22 hi hz0 hz1 hz2 rfl (by decide) _ _ _ rfl hown ⟨br, orr, none⟩ n cr (rowVals r n) rfl (by simp [rowVals]) ?c1 ?c2 ?c3 ?c4 ?c5 ?_)
  case c1 =>
    intro j u hj
    have hjn : j < n := by
      rcases Nat.lt_or_ge j n with h | h
      · exact h
      · rw [List.getElem?_eq_none (by simp [rowVals]; omega)] at hj; cases hj
    rw [rowVals_at r n j hjn] at hj
    cases hj
    obtain ⟨b, off, e, hc⟩ := hrW j hjn
    cases e
    have hlt := World.block_lt_of_cell? _ _ hc
    have e2 : (⟨br, orr, none⟩ : Addr).add j = ⟨br, orr + j, none⟩ := by unfold Addr.add; split <;> simp_all
    rw [e2, World.cell?_alloc_old _ _ _ (Nat.ne_of_lt hlt)]
    exact hc
  case c2 =>
    intro u hu
    simp [rowVals] at hu
    obtain ⟨k, _, rfl⟩ := hu
    rfl
  case c3 => unfold maxLen; omega
  case c4 => omega
  case c5 => simp
  intro v' w2 hown' hgrow _
  have hown2 : w2.ownsRow W1.heap.size 3 1 v' n (rowVals r n) := by
    first
      | exact hown'
      | simpa using hown'
  have hb2 : Below W1.heap.size W1 w2 := ((Below.refl _ _).alloc (Nat.le_refl _) _).grown hgrow (by simp) (by intro k hk; simp [Value.ownBlock] at hk; omega)
  obtain ⟨B, cap, rfl⟩ := owns_form hown2 (by omega)
  obtain ⟨hO, hB1, hB2⟩ := own_of hown2
  have HO : Hid (Own w2 B n r) := hO
  have HB2 : Hid (Below w.heap.size w w2) := Below.then HB1.out hb2
  have K2 : Hid (Held w2 w.heap.size n ao n co (fun k => (g k : Nat))) := K1.out.step hb2
  have hwB : w.heap.size ≤ B := by have := HS1.out; omega
  have hneB : br ≠ B := by omega
  clear hown' hgrow hown hown2 hb2 hO hrW HB1 K1
  have HRr : Hid (Row w2 (some ⟨br, orr, none⟩) n (fun k => (r k : Nat))) := HRr0.out.below HB2.out
  have HRO : Hid (∀ w', Below w2.heap.size w2 w' → Row w' ao n (fun k => ((g k : Nat) : Int))) := fun w' h => (K2.out.step h).row
  have l0 : ∀ w', Below w2.heap.size w2 w' → w'.cell? ⟨w.heap.size, 0, none⟩ = some (.int .i64 (n : Int)) := fun w' h => (K2.out.step h).c0
  have l1 : ∀ w', Below w2.heap.size w2 w' → w'.cell? ⟨w.heap.size, 1, none⟩ = some (.slice ao n co) := fun w' h => (K2.out.step h).c1
  have HCK : Hid (∀ j, j < n → ∀ w', Below w2.heap.size w2 w' → w'.cell? ⟨br, orr + j, none⟩ = some (.int .i64 (r j : Nat))) := fun j hj w' h => by
    obtain ⟨b, off, e, hc⟩ := (HRr.out.below h) j hj
    simp at e
    obtain ⟨rfl, rfl⟩ := e
    exact hc
  have l2 := HCK.out k (by omega)
  have l3 := HCK.out (k + 1) hk
  have hk1 : ((k : Nat) : Int) < (n : Int) := by omega
  have hk2 : ((k : Nat) : Int) + 1 < (n : Int) := by omega
  have hx063 : r k < 63 := by omega
  have hwr : IntKind.i64.wrap (((k : Nat) : Int) + 1) = ((k : Nat) : Int) + 1 := wrap_i64_small _ (by omega) (by omega)
  have h0k : (0 : Int) ≤ ((k : Nat) : Int) + 1 := by omega
  have htn : (((k : Nat) : Int) + 1).toNat = k + 1 := by omega
  have ko := HO.out k (by omega)
  have kp1 := HO.out (k + 1) hk
  clear HRr0 HRo0 K2
  generalize hgx1 : r (k + 1) = x1 at *
  generalize hgx0 : r k = x0 at *
  generalize hW : w2 = W at *
  have KK : Below W.heap.size W W.drew := (Below.refl _ _).drew
  rcases (Bool.eq_false_or_eq_true ((g x1).testBit x0)).symm with hb | hb
  · have HSW := (show Hid (sw g k r = _) from HF.out hb)
    clear HE HF
    go_wp2_with fail
    refine wp_region_held_drew (S := (fun w' => Below W.heap.size W w')) (by kernel_rfl) (KK) (fun hHeld => ?_)
    refine wpAnyH_take (i := 0) (oi := { dst := some 11, op := Go.Op.load 24 (Go.Operand.tmp 3), type := 24, pos := "embed.go:126", after := #[], guard := none }) (v := ?_) rfl (by kernel_rfl) (by kernel_rfl) (by kernel_rfl) (fun _ _ _ h => h) (Or.inl ⟨by rfl, ?hy⟩) (by assumption) ?_
    case hy => (intro w9 hSw; (try dsimp only at hSw); go_simp; try with_reducible rfl)
    try simp only [Act.put, List.setIfInBounds_toArray, List.set_cons_zero, List.set_cons_succ]
    refine wpAnyH_take (i := 1) (oi := { dst := some 12, op := Go.Op.move (Go.Operand.tmp 1), type := 22, pos := "embed.go:126", after := #[], guard := none }) (v := ?_) rfl (by kernel_rfl) (by kernel_rfl) (by kernel_rfl) (fun _ _ _ h => h) (Or.inl ⟨by rfl, ?hy⟩) (by assumption) ?_
    case hy => (intro w9 hSw; (try dsimp only at hSw); go_simp; try with_reducible rfl)
    try simp only [Act.put, List.setIfInBounds_toArray, List.set_cons_zero, List.set_cons_succ]
    refine wpAnyH_take (i := 2) (oi := { dst := some 13, op := Go.Op.move (Go.Operand.tmp 2), type := 3, pos := "embed.go:126", after := #[], guard := none }) (v := ?_) rfl (by kernel_rfl) (by kernel_rfl) (by kernel_rfl) (fun _ _ _ h => h) (Or.inl ⟨by rfl, ?hy⟩) (by assumption) ?_
    case hy => (intro w9 hSw; (try dsimp only at hSw); go_simp; try with_reducible rfl)
    try simp only [Act.put, List.setIfInBounds_toArray, List.set_cons_zero, List.set_cons_succ]
    refine wpAnyH_take (i := 3) (oi := { dst := some 14, op := Go.Op.indexAddr 22 (Go.Operand.tmp 12) (Go.Operand.tmp 13), type := 0, pos := "embed.go:126", after := #[{ on := 1, ground := Go.Ground.data }, { on := 2, ground := Go.Ground.data }], guard := none }) (v := ?_) rfl (by kernel_rfl) (by kernel_rfl) (by kernel_rfl) (fun _ _ _ h => h) (Or.inl ⟨by rfl, ?hy⟩) (by assumption) ?_
    case hy => (intro w9 hSw; (try dsimp only at hSw); go_simp; try with_reducible rfl)
    try simp only [Act.put, List.setIfInBounds_toArray, List.set_cons_zero, List.set_cons_succ]
    refine wpAnyH_take (i := 4) (oi := { dst := some 15, op := Go.Op.load 3 (Go.Operand.tmp 14), type := 3, pos := "embed.go:126", after := #[{ on := 3, ground := Go.Ground.data }], guard := none }) (v := ?_) rfl (by kernel_rfl) (by kernel_rfl) (by kernel_rfl) (fun _ _ _ h => h) (Or.inl ⟨by rfl, ?hy⟩) (by assumption) ?_
    case hy => (intro w9 hSw; (try dsimp only at hSw); go_simp; try with_reducible rfl)
    try simp only [Act.put, List.setIfInBounds_toArray, List.set_cons_zero, List.set_cons_succ]
    refine wpAnyH_take (i := 5) (oi := { dst := some 16, op := Go.Op.move (Go.Operand.tmp 1), type := 22, pos := "embed.go:126", after := #[], guard := none }) (v := ?_) rfl (by kernel_rfl) (by kernel_rfl) (by kernel_rfl) (fun _ _ _ h => h) (Or.inl ⟨by rfl, ?hy⟩) (by assumption) ?_
    case hy => (intro w9 hSw; (try dsimp only at hSw); go_simp; try with_reducible rfl)
    try simp only [Act.put, List.setIfInBounds_toArray, List.set_cons_zero, List.set_cons_succ]
    refine wpAnyH_take (i := 6) (oi := { dst := some 17, op := Go.Op.move (Go.Operand.tmp 2), type := 3, pos := "embed.go:126", after := #[], guard := none }) (v := ?_) rfl (by kernel_rfl) (by kernel_rfl) (by kernel_rfl) (fun _ _ _ h => h) (Or.inl ⟨by rfl, ?hy⟩) (by assumption) ?_
    case hy => (intro w9 hSw; (try dsimp only at hSw); go_simp; try with_reducible rfl)
    try simp only [Act.put, List.setIfInBounds_toArray, List.set_cons_zero, List.set_cons_succ]
    refine wpAnyH_take (i := 7) (oi := { dst := some 18, op := Go.Op.binOp Go.BinOp.add 3 (Go.Operand.tmp 17) (Go.Operand.const (Go.Value.int Go.IntKind.i64 1)) 3, type := 3, pos := "embed.go:126", after := #[{ on := 6, ground := Go.Ground.data }], guard := none }) (v := ?_) rfl (by kernel_rfl) (by kernel_rfl) (by kernel_rfl) (fun _ _ _ h => h) (Or.inl ⟨by rfl, ?hy⟩) (by assumption) ?_
    case hy => (intro w9 hSw; (try dsimp only at hSw); go_simp; try with_reducible rfl)
    try simp only [Act.put, List.setIfInBounds_toArray, List.set_cons_zero, List.set_cons_succ]
    refine wpAnyH_take (i := 8) (oi := { dst := some 19, op := Go.Op.indexAddr 22 (Go.Operand.tmp 16) (Go.Operand.tmp 18), type := 0, pos := "embed.go:126", after := #[{ on := 5, ground := Go.Ground.data }, { on := 7, ground := Go.Ground.data }], guard := none }) (v := ?_) rfl (by kernel_rfl) (by kernel_rfl) (by kernel_rfl) (fun _ _ _ h => h) (Or.inl ⟨by rfl, ?hy⟩) (by assumption) ?_
    case hy => (intro w9 hSw; (try dsimp only at hSw); go_simp; try with_reducible rfl)
    try simp only [Act.put, List.setIfInBounds_toArray, List.set_cons_zero, List.set_cons_succ]
    refine wpAnyH_take (i := 9) (oi := { dst := some 20, op := Go.Op.load 3 (Go.Operand.tmp 19), type := 3, pos := "embed.go:126", after := #[{ on := 8, ground := Go.Ground.data }], guard := none }) (v := ?_) rfl (by kernel_rfl) (by kernel_rfl) (by kernel_rfl) (fun _ _ _ h => h) (Or.inl ⟨by rfl, ?hy⟩) (by assumption) ?_
    case hy => (intro w9 hSw; (try dsimp only at hSw); go_simp; try with_reducible rfl)
    try simp only [Act.put, List.setIfInBounds_toArray, List.set_cons_zero, List.set_cons_succ]
    refine wpAnyH_ready (rs := [10]) (by kernel_rfl) (by simp) ?_
    refine AllReadyH.cons (o := { dst := some 21, op := Go.Op.call { callee := Go.Callee.value (Go.Operand.func 26), args := #[Go.Operand.tmp 11, Go.Operand.tmp 15, Go.Operand.tmp 20], argTypes := #[24, 3, 3] }, type := 4, pos := "embed.go:126", after := #[{ on := 0, ground := Go.Ground.data }, { on := 4, ground := Go.Ground.data }, { on := 9, ground := Go.Ground.data }], guard := none }) rfl (fun K hK => ?_) AllReadyH.nil
    go_simp
    refine (less_lit n ao n co g x0 x1 _ false hb h10 HG.out (HRO.out _ (by assumption)) hx063 hx1).mono ?_
    rintro e w5 ⟨rfl, hb5⟩
    refine hK.out _ _ ?_ (fun hHeld => ?_)
    · first | assumption | exact Below.then (by assumption) (by assumption)
    clear hK K
    try simp only [Act.put, List.setIfInBounds_toArray, List.set_cons_zero, List.set_cons_succ]
    refine wpAnyH_take (i := 11) (oi := { dst := some 22, op := Go.Op.unOp Go.UnOp.not 4 (Go.Operand.tmp 21), type := 4, pos := "embed.go:126", after := #[{ on := 10, ground := Go.Ground.data }], guard := none }) (v := ?_) rfl (by kernel_rfl) (by kernel_rfl) (by kernel_rfl) (fun _ _ _ h => h) (Or.inl ⟨by rfl, ?hy⟩) (by assumption) ?_
    case hy => (intro w9 hSw; (try dsimp only at hSw); go_simp; try with_reducible rfl)
    try simp only [Act.put, List.setIfInBounds_toArray, List.set_cons_zero, List.set_cons_succ]
    refine wpAnyH_done (by kernel_rfl) ?_ _
    try simp only [Act.put, List.setIfInBounds_toArray, List.set_cons_zero, List.set_cons_succ]
    have HB6 : Hid (Below w.heap.size w w5) := Below.then HB2.out (by assumption)
    have HBq : Hid (Below W.heap.size W w5) := by assumption
    have HO6 : Hid (Own w5 B n r) := fun j hj => HO.out.keep HBq.out hB2 j hj
    have q0 := l2 w5 HBq.out
    have q1 := l3 w5 HBq.out
    have f0 := (HO6.out k (by omega)).2
    have f1 := (HO6.out (k + 1) hk).2
    have g0 := (HO6.out k (by omega)).1
    have g1 := (HO6.out (k + 1) hk).1
    clear l0 l1 l2 l3 HCK HBq hb ko kp1
    go_wp2_with fail
    go_region
    all_goals go_wp2_with fail
    all_goals go_ret
    refine ⟨⟨_, rfl, ?_⟩, ?_⟩
    · rw [HSW.out]
      have := HO6.out.swap hk
      rw [hgx1, hgx0] at this
      exact ⟨_, _, rfl, this.row⟩
    · exact (((HB6.out).setCell (p := ⟨B, k, none⟩) hwB _).setCell (p := ⟨B, k + 1, none⟩) hwB _).drew
  · have HSW := (show Hid (sw g k r = r) from HE.out hb)
    clear HE HF
    go_wp2_with fail
    refine wp_region_held_drew (S := (fun w' => Below W.heap.size W w')) (by kernel_rfl) (KK) (fun hHeld => ?_)
    refine wpAnyH_take (i := 0) (oi := { dst := some 11, op := Go.Op.load 24 (Go.Operand.tmp 3), type := 24, pos := "embed.go:126", after := #[], guard := none }) (v := ?_) rfl (by kernel_rfl) (by kernel_rfl) (by kernel_rfl) (fun _ _ _ h => h) (Or.inl ⟨by rfl, ?hy⟩) (by assumption) ?_
    case hy => (intro w9 hSw; (try dsimp only at hSw); go_simp; try with_reducible rfl)
    try simp only [Act.put, List.setIfInBounds_toArray, List.set_cons_zero, List.set_cons_succ]
    refine wpAnyH_take (i := 1) (oi := { dst := some 12, op := Go.Op.move (Go.Operand.tmp 1), type := 22, pos := "embed.go:126", after := #[], guard := none }) (v := ?_) rfl (by kernel_rfl) (by kernel_rfl) (by kernel_rfl) (fun _ _ _ h => h) (Or.inl ⟨by rfl, ?hy⟩) (by assumption) ?_
    case hy => (intro w9 hSw; (try dsimp only at hSw); go_simp; try with_reducible rfl)
    try simp only [Act.put, List.setIfInBounds_toArray, List.set_cons_zero, List.set_cons_succ]
    refine wpAnyH_take (i := 2) (oi := { dst := some 13, op := Go.Op.move (Go.Operand.tmp 2), type := 3, pos := "embed.go:126", after := #[], guard := none }) (v := ?_) rfl (by kernel_rfl) (by kernel_rfl) (by kernel_rfl) (fun _ _ _ h => h) (Or.inl ⟨by rfl, ?hy⟩) (by assumption) ?_
    case hy => (intro w9 hSw; (try dsimp only at hSw); go_simp; try with_reducible rfl)
    try simp only [Act.put, List.setIfInBounds_toArray, List.set_cons_zero, List.set_cons_succ]
    refine wpAnyH_take (i := 3) (oi := { dst := some 14, op := Go.Op.indexAddr 22 (Go.Operand.tmp 12) (Go.Operand.tmp 13), type := 0, pos := "embed.go:126", after := #[{ on := 1, ground := Go.Ground.data }, { on := 2, ground := Go.Ground.data }], guard := none }) (v := ?_) rfl (by kernel_rfl) (by kernel_rfl) (by kernel_rfl) (fun _ _ _ h => h) (Or.inl ⟨by rfl, ?hy⟩) (by assumption) ?_
    case hy => (intro w9 hSw; (try dsimp only at hSw); go_simp; try with_reducible rfl)
    try simp only [Act.put, List.setIfInBounds_toArray, List.set_cons_zero, List.set_cons_succ]
    refine wpAnyH_take (i := 4) (oi := { dst := some 15, op := Go.Op.load 3 (Go.Operand.tmp 14), type := 3, pos := "embed.go:126", after := #[{ on := 3, ground := Go.Ground.data }], guard := none }) (v := ?_) rfl (by kernel_rfl) (by kernel_rfl) (by kernel_rfl) (fun _ _ _ h => h) (Or.inl ⟨by rfl, ?hy⟩) (by assumption) ?_
    case hy => (intro w9 hSw; (try dsimp only at hSw); go_simp; try with_reducible rfl)
    try simp only [Act.put, List.setIfInBounds_toArray, List.set_cons_zero, List.set_cons_succ]
    refine wpAnyH_take (i := 5) (oi := { dst := some 16, op := Go.Op.move (Go.Operand.tmp 1), type := 22, pos := "embed.go:126", after := #[], guard := none }) (v := ?_) rfl (by kernel_rfl) (by kernel_rfl) (by kernel_rfl) (fun _ _ _ h => h) (Or.inl ⟨by rfl, ?hy⟩) (by assumption) ?_
    case hy => (intro w9 hSw; (try dsimp only at hSw); go_simp; try with_reducible rfl)
    try simp only [Act.put, List.setIfInBounds_toArray, List.set_cons_zero, List.set_cons_succ]
    refine wpAnyH_take (i := 6) (oi := { dst := some 17, op := Go.Op.move (Go.Operand.tmp 2), type := 3, pos := "embed.go:126", after := #[], guard := none }) (v := ?_) rfl (by kernel_rfl) (by kernel_rfl) (by kernel_rfl) (fun _ _ _ h => h) (Or.inl ⟨by rfl, ?hy⟩) (by assumption) ?_
    case hy => (intro w9 hSw; (try dsimp only at hSw); go_simp; try with_reducible rfl)
    try simp only [Act.put, List.setIfInBounds_toArray, List.set_cons_zero, List.set_cons_succ]
    refine wpAnyH_take (i := 7) (oi := { dst := some 18, op := Go.Op.binOp Go.BinOp.add 3 (Go.Operand.tmp 17) (Go.Operand.const (Go.Value.int Go.IntKind.i64 1)) 3, type := 3, pos := "embed.go:126", after := #[{ on := 6, ground := Go.Ground.data }], guard := none }) (v := ?_) rfl (by kernel_rfl) (by kernel_rfl) (by kernel_rfl) (fun _ _ _ h => h) (Or.inl ⟨by rfl, ?hy⟩) (by assumption) ?_
    case hy => (intro w9 hSw; (try dsimp only at hSw); go_simp; try with_reducible rfl)
    try simp only [Act.put, List.setIfInBounds_toArray, List.set_cons_zero, List.set_cons_succ]
    refine wpAnyH_take (i := 8) (oi := { dst := some 19, op := Go.Op.indexAddr 22 (Go.Operand.tmp 16) (Go.Operand.tmp 18), type := 0, pos := "embed.go:126", after := #[{ on := 5, ground := Go.Ground.data }, { on := 7, ground := Go.Ground.data }], guard := none }) (v := ?_) rfl (by kernel_rfl) (by kernel_rfl) (by kernel_rfl) (fun _ _ _ h => h) (Or.inl ⟨by rfl, ?hy⟩) (by assumption) ?_
    case hy => (intro w9 hSw; (try dsimp only at hSw); go_simp; try with_reducible rfl)
    try simp only [Act.put, List.setIfInBounds_toArray, List.set_cons_zero, List.set_cons_succ]
    refine wpAnyH_take (i := 9) (oi := { dst := some 20, op := Go.Op.load 3 (Go.Operand.tmp 19), type := 3, pos := "embed.go:126", after := #[{ on := 8, ground := Go.Ground.data }], guard := none }) (v := ?_) rfl (by kernel_rfl) (by kernel_rfl) (by kernel_rfl) (fun _ _ _ h => h) (Or.inl ⟨by rfl, ?hy⟩) (by assumption) ?_
    case hy => (intro w9 hSw; (try dsimp only at hSw); go_simp; try with_reducible rfl)
    try simp only [Act.put, List.setIfInBounds_toArray, List.set_cons_zero, List.set_cons_succ]
    refine wpAnyH_ready (rs := [10]) (by kernel_rfl) (by simp) ?_
    refine AllReadyH.cons (o := { dst := some 21, op := Go.Op.call { callee := Go.Callee.value (Go.Operand.func 26), args := #[Go.Operand.tmp 11, Go.Operand.tmp 15, Go.Operand.tmp 20], argTypes := #[24, 3, 3] }, type := 4, pos := "embed.go:126", after := #[{ on := 0, ground := Go.Ground.data }, { on := 4, ground := Go.Ground.data }, { on := 9, ground := Go.Ground.data }], guard := none }) rfl (fun K hK => ?_) AllReadyH.nil
    go_simp
    refine (less_lit n ao n co g x0 x1 _ true hb h10 HG.out (HRO.out _ (by assumption)) hx063 hx1).mono ?_
    rintro e w5 ⟨rfl, hb5⟩
    refine hK.out _ _ ?_ (fun hHeld => ?_)
    · first | assumption | exact Below.then (by assumption) (by assumption)
    clear hK K
    try simp only [Act.put, List.setIfInBounds_toArray, List.set_cons_zero, List.set_cons_succ]
    refine wpAnyH_take (i := 11) (oi := { dst := some 22, op := Go.Op.unOp Go.UnOp.not 4 (Go.Operand.tmp 21), type := 4, pos := "embed.go:126", after := #[{ on := 10, ground := Go.Ground.data }], guard := none }) (v := ?_) rfl (by kernel_rfl) (by kernel_rfl) (by kernel_rfl) (fun _ _ _ h => h) (Or.inl ⟨by rfl, ?hy⟩) (by assumption) ?_
    case hy => (intro w9 hSw; (try dsimp only at hSw); go_simp; try with_reducible rfl)
    try simp only [Act.put, List.setIfInBounds_toArray, List.set_cons_zero, List.set_cons_succ]
    refine wpAnyH_done (by kernel_rfl) ?_ _
    try simp only [Act.put, List.setIfInBounds_toArray, List.set_cons_zero, List.set_cons_succ]
    have HB6 : Hid (Below w.heap.size w w5) := Below.then HB2.out (by assumption)
    have HBq : Hid (Below W.heap.size W w5) := by assumption
    have HO6 : Hid (Own w5 B n r) := fun j hj => HO.out.keep HBq.out hB2 j hj
    clear l0 l1 l2 l3 HCK HBq hb ko kp1
    go_wp2_with fail
    go_ret
    exact ⟨⟨_, rfl, by rw [HSW.out]; exact ⟨_, _, rfl, HO6.out.row⟩⟩, HB6.out⟩
end Go.Proofs.Ytnommlfenaijoaa
