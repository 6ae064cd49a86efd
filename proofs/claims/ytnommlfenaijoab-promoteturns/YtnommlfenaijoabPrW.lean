/-
  What promote.walkerOf answers. No condition but that slices read as slices of numbers.
-/
import Derived.Laws.ResultCell
import Derived.Test.YtnommlfenaijoabPrP
namespace Go.Proofs.Ytnommlfenaijoab
set_option maxRecDepth 100000
open Go.RowKit

/-- What is wrong with an order and a row of it. -/
def RkC (n : Int) (len : Nat) (f : Nat → Int) (lr : Nat) (r : Nat → Int) (c : Int) : Prop :=
  (c ≠ 0 ∧ Chk n len f c) ∨ (Chk n len f 0 ∧ ((c = 1 ∧ ¬ IsRw (nat f) len lr r) ∨ (c = 0 ∧ IsRw (nat f) len lr r)))
theorem RkC.one {n : Int} {len : Nat} {f : Nat → Int} {lr : Nat} {r : Nat → Int} {c d : Int} (h : RkC n len f lr r c) (h' : RkC n len f lr r d) : c = d := by
  rcases h with ⟨h1, h2⟩ | ⟨h2, h3⟩ <;> rcases h' with ⟨k1, k2⟩ | ⟨k2, k3⟩
  · exact h2.unique k2
  · exact absurd (h2.unique k2) h1
  · exact absurd (k2.unique h2) k1
  · rcases h3 with ⟨h3, h4⟩ | ⟨h3, h4⟩ <;> rcases k3 with ⟨k3, k4⟩ | ⟨k3, k4⟩
    · omega
    · exact absurd k4 h4
    · exact absurd h4 k4
    · omega
theorem RkC.good {n : Int} {len : Nat} {f : Nat → Int} {lr : Nat} {r : Nat → Int} (h : RkC n len f lr r 0) : Chk n len f 0 ∧ IsRw (nat f) len lr r := by
  rcases h with ⟨h1, _⟩ | ⟨h2, ⟨h3, _⟩ | ⟨_, h4⟩⟩
  · exact absurd rfl h1
  · omega
  · exact ⟨h2, h4⟩
theorem rank_c (n : Int) (a : Option Addr) (len cap : Nat) (f : Nat → Int) (ar : Option Addr) (lr cr : Nat) (r : Nat → Int) (w : World) (hl : len ≤ maxLen) (hlr : lr ≤ maxLen) (hr : Row w a len f) (hrr : Row w ar lr r) :
    Calls Try.prog 15 #[.agg #[.int .i64 n, .slice a len cap], .slice ar lr cr] w fun e w' => (∃ x c, e = .returned (.tuple #[.int .i64 x, .int .i64 c]) ∧ RkC n len f lr r c) ∧ Below w.heap.size w w' := by
  refine (rank_any n a len cap f ar lr cr r w hl hlr hr hrr).mono ?_
  rintro e w' ⟨⟨c, hc, h⟩, hb⟩
  refine ⟨?_, hb⟩
  rcases h with ⟨h1, rfl⟩ | ⟨rfl, h1, rfl⟩ | ⟨rfl, h1, rfl⟩
  · exact ⟨_, _, rfl, .inl ⟨h1, hc⟩⟩
  · exact ⟨_, _, rfl, .inr ⟨hc, .inl ⟨rfl, h1⟩⟩⟩
  · exact ⟨_, _, rfl, .inr ⟨hc, .inr ⟨rfl, h1⟩⟩⟩
def WalkPost (K : Nat) (n : Int) (ao : Option Addr) (len co : Nat) (f : Nat → Int) (lr : Nat) (r : Nat → Int) (e : Ending) (w' : World) : Prop :=
  ∃ c x, e = .returned (.tuple #[x, .int .i64 c]) ∧ RkC n len f lr r c ∧ ((c ≠ 0 ∧ x = .agg #[.int .i64 0, .slice none 0 0, .slice none 0 0]) ∨ (c = 0 ∧ ∃ v, x = .agg #[.int .i64 n, .slice ao len co, v] ∧ w'.ownsRow K 3 1 v len (rowVals (nat r) len)))

theorem owns_low {w : World} {base base' : Nat} {e : TypeId} {size : Nat} {v : Value} {n : Nat} {xs : List Value} (h : w.ownsRow base e size v n xs) (hb : base' ≤ base) : w.ownsRow base' e size v n xs := by
  refine ⟨h.1, ?_⟩
  rcases h.2 with h0 | ⟨g, cap, cur, h1, h2, h3⟩
  · exact .inl h0
  · exact .inr ⟨g, cap, cur, h1, by omega, h3⟩
/-- An empty walker in a box that may be written. -/
def ZW (w : World) (b : Nat) : Prop := w.cell? ⟨b, 0, none⟩ = some (.int .i64 0) ∧ w.cell? ⟨b, 1, none⟩ = some (.slice none 0 0) ∧ w.cell? ⟨b, 2, none⟩ = some (.slice none 0 0) ∧ w.frozen? ⟨b, 0, none⟩ = false ∧ w.frozen? ⟨b, 1, none⟩ = false ∧ w.frozen? ⟨b, 2, none⟩ = false
theorem ZW.step {w w' : World} {b : Nat} (h : ZW w b) (hb : Below w.heap.size w w') : ZW w' b := by
  obtain ⟨h0, h1, h2, f0, f1, f2⟩ := h
  have hlt : b < w.heap.size := World.block_lt_of_cell? _ _ h0
  exact ⟨cell_step hb h0, cell_step hb h1, cell_step hb h2, (hb.frozen (p := ⟨b, 0, none⟩) hlt).trans f0, (hb.frozen (p := ⟨b, 1, none⟩) hlt).trans f1, (hb.frozen (p := ⟨b, 2, none⟩) hlt).trans f2⟩
theorem zw_new (w : World) (o : Obj) : ZW ((w.alloc o).alloc (.cells #[.int .i64 0, .slice none 0 0, .slice none 0 0] 35)) (w.heap.size + 1) := by
  have s1 : (w.alloc o).heap.size = w.heap.size + 1 := by simp
  refine ⟨by rw [← s1]; simp, by rw [← s1]; simp, by rw [← s1]; simp, ?_, ?_, ?_⟩ <;> exact World.frozen?_alloc_at _ _ _ _ (by simp)
theorem row_nat {w : World} {a : Option Addr} {l : Nat} {f : Nat → Int} (h : Row w a l f) (hp : ∀ k, k < l → 0 ≤ f k) : Row w a l (fun k => ((nat f k : Nat) : Int)) := fun k hk => by
  obtain ⟨b, off, e, hc⟩ := h k hk
  refine ⟨b, off, e, ?_⟩
  have := hp k hk
  rw [hc, show f k = ((nat f k : Nat) : Int) by unfold nat; omega]

theorem set3 {w : World} {b : Nat} {o0 o1 o2 : Value} (v0 v1 v2 : Value) (h0 : w.cell? ⟨b, 0, none⟩ = some o0) (h1 : w.cell? ⟨b, 1, none⟩ = some o1) (h2 : w.cell? ⟨b, 2, none⟩ = some o2) (W : World)
    (hW : ((w.setCell ⟨b, 0, none⟩ v0).setCell ⟨b, 1, none⟩ v1).setCell ⟨b, 2, none⟩ v2 = W) : W.cell? ⟨b, 0, none⟩ = some v0 ∧ W.cell? ⟨b, 1, none⟩ = some v1 ∧ W.cell? ⟨b, 2, none⟩ = some v2 := by
  subst hW
  have n01 : (⟨b, 0, none⟩ : Addr) ≠ ⟨b, 1, none⟩ := by simp
  have n02 : (⟨b, 0, none⟩ : Addr) ≠ ⟨b, 2, none⟩ := by simp
  have n12 : (⟨b, 1, none⟩ : Addr) ≠ ⟨b, 2, none⟩ := by simp
  have a0 : (w.setCell ⟨b, 0, none⟩ v0).cell? ⟨b, 0, none⟩ = some v0 := World.cell?_setCell_same _ _ _ h0
  have a1 : (w.setCell ⟨b, 0, none⟩ v0).cell? ⟨b, 1, none⟩ = some o1 := by rw [World.cell?_setCell_other _ _ _ _ n01]; exact h1
  have a2 : (w.setCell ⟨b, 0, none⟩ v0).cell? ⟨b, 2, none⟩ = some o2 := by rw [World.cell?_setCell_other _ _ _ _ n02]; exact h2
  have b0 : ((w.setCell ⟨b, 0, none⟩ v0).setCell ⟨b, 1, none⟩ v1).cell? ⟨b, 0, none⟩ = some v0 := by rw [World.cell?_setCell_other _ _ _ _ n01.symm]; exact a0
  have b1 : ((w.setCell ⟨b, 0, none⟩ v0).setCell ⟨b, 1, none⟩ v1).cell? ⟨b, 1, none⟩ = some v1 := World.cell?_setCell_same _ _ _ a1
  have b2 : ((w.setCell ⟨b, 0, none⟩ v0).setCell ⟨b, 1, none⟩ v1).cell? ⟨b, 2, none⟩ = some o2 := by rw [World.cell?_setCell_other _ _ _ _ n12]; exact a2
  exact ⟨by rw [World.cell?_setCell_other _ _ _ _ n02.symm]; exact b0, by rw [World.cell?_setCell_other _ _ _ _ n12.symm]; exact b1, World.cell?_setCell_same _ _ _ b2⟩
theorem res_walk (tmps : Array Value) (W : World) (b : Nat) (n c : Int) (a0 a1 : Option Addr) (l0 k0 l1 k1 : Nat) (h4 : tmps.getD 4 undef = .pointer (some ⟨b, 0, none⟩)) (h5 : tmps.getD 5 undef = .int .i64 c)
    (r0 : W.cell? ⟨b, 0, none⟩ = some (.int .i64 n)) (r1 : W.cell? ⟨b, 1, none⟩ = some (.slice a0 l0 k0)) (r2 : W.cell? ⟨b, 2, none⟩ = some (.slice a1 l1 k1)) :
    (results Try.f11 tmps).run Try.prog W = .ok (.tuple #[.agg #[.int .i64 n, .slice a0 l0 k0, .slice a1 l1 k1], .int .i64 c]) W := by
  rw [results_cell_tmp (p := 4) (u := 5) (ty := 35) rfl, h4, h5]
  simp [asAddr, loadVar, go_sem, r0, r1, r2]

set_option maxHeartbeats 2000000 in
theorem walkerOf_any (n : Int) (ao : Option Addr) (len co : Nat) (f : Nat → Int) (ar : Option Addr) (lr cr : Nat) (r : Nat → Int) (w : World) (hl : len ≤ maxLen) (hlr : lr ≤ maxLen) (ho : Row w ao len f) (hr : Row w ar lr r) :
    Calls Try.prog 11 #[.agg #[.int .i64 n, .slice ao len co], .slice ar lr cr] w fun e w' => WalkPost w.heap.size n ao len co f lr r e w' ∧ Below w.heap.size w w' := by
  have HRo : Hid (Row w ao len f) := ho
  have HRr : Hid (Row w ar lr r) := hr
  clear ho hr
  go_enter Try.func11, Try.ntmps11
  generalize hC : Code.region 1 _ false = C
  go_wp2_with fail
  generalize hW : (w.alloc (.cells #[.int .i64 n, .slice ao len co] 24)).alloc (.cells #[.int .i64 0, .slice none 0 0, .slice none 0 0] 35) = W
  have HB1 : Hid (Below w.heap.size w W) := by rw [← hW]; exact (bel_one w _).alloc (by simp) _
  have k0 : W.cell? ⟨w.heap.size, 0, none⟩ = some (.int .i64 n) := by rw [← hW]; simp
  have k1 : W.cell? ⟨w.heap.size, 1, none⟩ = some (.slice ao len co) := by rw [← hW]; simp
  have HZ : Hid (ZW W (w.heap.size + 1)) := by rw [← hW]; exact zw_new w _
  have hsz : W.heap.size = w.heap.size + 2 := by rw [← hW]; simp
  have HSZ : Hid (W.heap.size = w.heap.size + 2) := hsz
  clear hW hsz
  rw [← hC]
  clear hC C
  go_wp2_with fail
  refine (rank_c n ao len co f ar lr cr r W hl hlr (HRo.out.below HB1.out) (HRr.out.below HB1.out)).mono ?_
  rintro e w1 ⟨⟨x, c, rfl, hc⟩, hb1⟩
  have HB2 : Hid (Below w.heap.size w w1) := Below.then HB1.out hb1
  have HC : Hid (RkC n len f lr r c) := hc
  have HZ1 : Hid (ZW w1 (w.heap.size + 1)) := HZ.out.step hb1
  have hsz1 : w.heap.size + 2 ≤ w1.heap.size := by have := hb1.size; rw [HSZ.out] at this; exact this
  have j0 := cell_step hb1 k0
  have j1 := cell_step hb1 k1
  clear hc hb1 HB1 HZ k0 k1
  obtain ⟨z0, z1, z2, f0, f1, f2⟩ := HZ1.out
  by_cases h0 : c = 0
  · subst h0
    obtain ⟨hck, rfl, hrow⟩ := HC.out.good
    obtain ⟨rfl, h10, hrng, _⟩ := hck.good
    have HRN : Hid (∀ w', Below (w.heap.size + 1) w1 w' → Row w' ar lr (fun k => ((nat r k : Nat) : Int))) := fun w' h => row_nat (HRr.out.below (HB2.out.trans (h.mono (by omega)))) (fun k hk => (hrow k hk).1)
    have hsz1 : w.heap.size + 2 ≤ w1.heap.size := hsz1
    have l0 : ∀ w', Below (w.heap.size + 1) w1 w' → w'.cell? ⟨w.heap.size, 0, none⟩ = some (.int .i64 (lr : Int)) := fun w' h => (h.cell (p := ⟨w.heap.size, 0, none⟩) (by simp)).trans j0
    have l1 : ∀ w', Below (w.heap.size + 1) w1 w' → w'.cell? ⟨w.heap.size, 1, none⟩ = some (.slice ao lr co) := fun w' h => (h.cell (p := ⟨w.heap.size, 1, none⟩) (by simp)).trans j1
    clear hck hrng hrow
    have KK : Below (w.heap.size + 1) w1 w1.drew := (Below.refl _ _).drew
    clear z0 z1 z2 f0 f1 f2
    go_wp2_with fail
    refine wp_region_held_drew (S := (fun w' => Below (w.heap.size + 1) w1 w')) (by kernel_rfl) (KK) (fun hHeld => ?_)
    refine wpAnyH_take (i := 0) (oi := { dst := some 18, op := Go.Op.load 24 (Go.Operand.tmp 2), type := 24, pos := "walker.go:23", after := #[], guard := none }) (v := ?_) rfl (by kernel_rfl) (by kernel_rfl) (by kernel_rfl) (fun _ _ _ h => h) (Or.inl ⟨by rfl, ?hy⟩) (by assumption) ?_
    case hy => (intro w9 hSw; (try dsimp only at hSw); go_simp; try with_reducible rfl)
    try simp only [Act.put, List.setIfInBounds_toArray, List.set_cons_zero, List.set_cons_succ]
    refine wpAnyH_take (i := 1) (oi := { dst := some 19, op := Go.Op.move (Go.Operand.tmp 1), type := 22, pos := "walker.go:23", after := #[], guard := none }) (v := ?_) rfl (by kernel_rfl) (by kernel_rfl) (by kernel_rfl) (fun _ _ _ h => h) (Or.inl ⟨by rfl, ?hy⟩) (by assumption) ?_
    case hy => (intro w9 hSw; (try dsimp only at hSw); go_simp; try with_reducible rfl)
    try simp only [Act.put, List.setIfInBounds_toArray, List.set_cons_zero, List.set_cons_succ]
    refine wpAnyH_ready (rs := [2]) (by kernel_rfl) (by simp) ?_
    refine AllReadyH.cons (o := { dst := some 20, op := Go.Op.call { callee := Go.Callee.value (Go.Operand.func 16), args := #[Go.Operand.tmp 19], argTypes := #[22] }, type := 22, pos := "walker.go:23", after := #[{ on := 1, ground := Go.Ground.data }], guard := none }) rfl (fun K hK => ?_) AllReadyH.nil
    go_simp
    refine (clone_any lr ar cr (nat r) _ h10 (HRN.out _ (by assumption))).mono ?_
    rintro e w5 ⟨⟨v, rfl, hv⟩, hb5⟩
    obtain ⟨a5, c5, hve, _⟩ := owns_row hv
    subst hve
    have hbw : Below w1.heap.size w1 w5 := Below.then (w := w1) (Below.refl _ _).drew hb5
    have hS5 : Below (w.heap.size + 1) w1 w5 := hbw.mono (by omega)
    have HOV : Hid (w5.ownsRow w.heap.size 3 1 (.slice a5 lr c5) lr (rowVals (nat r) lr)) := owns_low hv HB2.out.size
    have HB5 : Hid (Below w.heap.size w w5) := Below.then HB2.out hbw
    have HZ5 : Hid (ZW w5 (w.heap.size + 1)) := HZ1.out.step hbw
    have HVB : Hid (∀ k, (Value.slice a5 lr c5).ownBlock = some k → w1.heap.size ≤ k) := owns_block hv
    obtain ⟨y0, y1, y2, g0, g1, g2⟩ := HZ5.out
    clear hv
    refine hK.out _ _ ?_ (fun hHeld => ?_)
    · first | assumption | exact Below.then (by assumption) (by assumption)
    clear hK K
    try simp only [Act.put, List.setIfInBounds_toArray, List.set_cons_zero, List.set_cons_succ]
    refine wpAnyH_take (i := 3) (oi := { dst := some 21, op := Go.Op.build 35 #[(0, Go.Operand.tmp 18), (1, Go.Operand.tmp 20)], type := 35, pos := "walker.go:23", after := #[{ on := 0, ground := Go.Ground.data }, { on := 2, ground := Go.Ground.data }], guard := none }) (v := ?_) rfl (by kernel_rfl) (by kernel_rfl) (by kernel_rfl) (fun _ _ _ h => h) (Or.inl ⟨by rfl, ?hy⟩) (by assumption) ?_
    case hy => (intro w9 hSw; (try dsimp only at hSw); go_simp; try with_reducible rfl)
    try simp only [Act.put, List.setIfInBounds_toArray, List.set_cons_zero, List.set_cons_succ]
    refine wpAnyH_ready (rs := [4]) (by kernel_rfl) (by simp) ?_
    refine AllReadyH.cons (o := { dst := none, op := Go.Op.store 35 (Go.Operand.tmp 4) (Go.Operand.tmp 21), type := 0, pos := "walker.go:23", after := #[{ on := 3, ground := Go.Ground.data }, { on := 2, ground := Go.Ground.chain }, { on := 0, ground := Go.Ground.phase }, { on := 1, ground := Go.Ground.phase }, { on := 2, ground := Go.Ground.phase }, { on := 3, ground := Go.Ground.phase }], guard := none }) rfl (fun K hK => ?_) AllReadyH.nil
    go_simp
    have hS6 := (((hS5.setCell (p := ⟨w.heap.size + 1, 0, none⟩) (Nat.le_refl _) (.int .i64 (lr : Int))).setCell (p := ⟨w.heap.size + 1, 1, none⟩) (Nat.le_refl _) (.slice ao lr co)).setCell (p := ⟨w.heap.size + 1, 2, none⟩) (Nat.le_refl _) (.slice a5 lr c5))
    refine hK.out _ _ ?_ (fun hHeld => ?_)
    · first | assumption | exact Below.then (by assumption) (by assumption)
    clear hK K
    try simp only [Act.put, List.setIfInBounds_toArray, List.set_cons_zero, List.set_cons_succ]
    refine wpAnyH_take (i := 5) (oi := { dst := some 5, op := Go.Op.assign (Go.Operand.const (Go.Value.int Go.IntKind.i64 0)), type := 26, pos := "walker.go:23", after := #[{ on := 4, ground := Go.Ground.chain }, { on := 0, ground := Go.Ground.phase }, { on := 1, ground := Go.Ground.phase }, { on := 2, ground := Go.Ground.phase }, { on := 3, ground := Go.Ground.phase }, { on := 4, ground := Go.Ground.phase }], guard := none }) (v := ?_) rfl (by kernel_rfl) (by kernel_rfl) (by kernel_rfl) (fun _ _ _ h => h) (Or.inl ⟨by rfl, ?hy⟩) (by assumption) ?_
    case hy => (intro w9 hSw; (try dsimp only at hSw); go_simp; try with_reducible rfl)
    try simp only [Act.put, List.setIfInBounds_toArray, List.set_cons_zero, List.set_cons_succ]
    refine wpAnyH_done (by kernel_rfl) ?_ _
    try simp only [Act.put, List.setIfInBounds_toArray, List.set_cons_zero, List.set_cons_succ]
    go_wp2_with fail
    generalize hW6 : ((w5.setCell ⟨w.heap.size + 1, 0, none⟩ (.int .i64 (lr : Int))).setCell ⟨w.heap.size + 1, 1, none⟩ (.slice ao lr co)).setCell ⟨w.heap.size + 1, 2, none⟩ (.slice a5 lr c5) = W6
    obtain ⟨r0, r1, r2⟩ := set3 _ _ _ y0 y1 y2 W6 hW6
    have HB7 : Hid (Below w.heap.size w W6) := by
      rw [← hW6]
      exact ((HB5.out.setCell (p := ⟨w.heap.size + 1, 0, none⟩) (by simp) _).setCell (p := ⟨w.heap.size + 1, 1, none⟩) (by simp) _).setCell (p := ⟨w.heap.size + 1, 2, none⟩) (by simp) _
    have HOV7 : Hid (W6.ownsRow w.heap.size 3 1 (.slice a5 lr c5) lr (rowVals (nat r) lr)) := by
      rw [← hW6]
      refine HOV.out.kept (row := some (w.heap.size + 1)) (((grown_setC _ _ _ _).trans (grown_setC _ _ _ _)).trans (grown_setC _ _ _ _)) ?_
      refine .inr fun e => ?_
      have := HVB.out _ e
      omega
    try simp only [Exit.inBlock, Exit.then]
    exact bodyPost_ret (res_walk _ W6 (w.heap.size + 1) lr 0 ao a5 lr co lr c5 rfl rfl r0 r1 r2) rfl ⟨⟨_, _, rfl, HC.out, .inr ⟨rfl, _, rfl, HOV7.out⟩⟩, HB7.out⟩
  · have hne : (c != 0) = true := by simpa using h0
    have H0 : Hid (c ≠ 0) := h0
    clear h0
    go_wp2_with fail
    generalize hW6 : ((w1.setCell ⟨w.heap.size + 1, 0, none⟩ (.int .i64 0)).setCell ⟨w.heap.size + 1, 1, none⟩ (.slice none 0 0)).setCell ⟨w.heap.size + 1, 2, none⟩ (.slice none 0 0) = W6
    obtain ⟨r0, r1, r2⟩ := set3 _ _ _ z0 z1 z2 W6 hW6
    have HB7 : Hid (Below w.heap.size w W6) := by
      rw [← hW6]
      exact ((HB2.out.setCell (p := ⟨w.heap.size + 1, 0, none⟩) (by simp) _).setCell (p := ⟨w.heap.size + 1, 1, none⟩) (by simp) _).setCell (p := ⟨w.heap.size + 1, 2, none⟩) (by simp) _
    try simp only [Exit.inBlock, Exit.then]
    exact bodyPost_ret (res_walk _ W6 (w.heap.size + 1) 0 c none none 0 0 0 0 rfl rfl r0 r1 r2) rfl ⟨⟨_, _, rfl, HC.out, .inl ⟨H0.out, rfl⟩⟩, HB7.out⟩
end Go.Proofs.Ytnommlfenaijoab
