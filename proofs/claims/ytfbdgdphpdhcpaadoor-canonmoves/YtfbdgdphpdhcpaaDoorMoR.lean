/-
  What the reference's MovesOf answers; hasselaw.listsAre. Conditions: an order of at most six points; lists that read as lists of numbers.
-/
import Derived.Test.YtfbdgdphpdhcpaaDoorCbH
import Derived.Deep.RegionHeld3
namespace Go.Proofs.YtfbdgdphpdhcpaaDoor
set_option maxRecDepth 100000
open Go.RowKit

/-- A slice of m rows. -/
def RR (w : World) (a : Option Addr) (m : Nat) (S : Nat → Option Addr × Nat × Nat) (F : Nat → Nat → Int) : Prop :=
  ∀ k, k < m → ∃ b off, a = some ⟨b, off, none⟩ ∧ w.cell? ⟨b, off + k, none⟩ = some (.slice (S k).1 (S k).2.1 (S k).2.2) ∧ (S k).2.1 ≤ maxLen ∧ Row w (S k).1 (S k).2.1 (F k)
theorem RR.below {w w' : World} {a : Option Addr} {m : Nat} {S : Nat → Option Addr × Nat × Nat} {F : Nat → Nat → Int} (h : RR w a m S F) (hb : Below w.heap.size w w') : RR w' a m S F := fun k hk => by
  obtain ⟨b, off, e, hc, hl, hr⟩ := h k hk
  exact ⟨b, off, e, (hb.cell (World.block_lt_of_cell? _ _ hc)).trans hc, hl, hr.below hb⟩
theorem cell_step {w w' : World} {p : Addr} {v : Value} (hb : Below w.heap.size w w') (h : w.cell? p = some v) : w'.cell? p = some v := (hb.cell (World.block_lt_of_cell? _ _ h)).trans h
set_option maxHeartbeats 2000000 in
theorem listsAre_ok (a b : Option Addr) (m ca cb : Nat) (S1 S2 : Nat → Option Addr × Nat × Nat) (F1 F2 : Nat → Nat → Int) (w : World) (hm : m ≤ maxLen) (h1 : RR w a m S1 F1) (h2 : RR w b m S2 F2) (hs : ∀ k, k < m → SameRows (S1 k).2.1 (S2 k).2.1 (F1 k) (F2 k)) :
    Calls Tryd.prog 21 #[.slice a m ca, .int .i64 0, .int .i64 0, .slice b m cb] w fun e w' => e = .returned (.bool true) ∧ Below w.heap.size w w' := by
  unfold maxLen at hm
  have H1 : Hid (RR w a m S1 F1) := h1
  have H2 : Hid (RR w b m S2 F2) := h2
  have HS : Hid (∀ k, k < m → SameRows (S1 k).2.1 (S2 k).2.1 (F1 k) (F2 k)) := hs
  clear h1 h2 hs
  go_enter Tryd.func21, Tryd.ntmps21
  go_wp2_with fail
  go_loopw [9] (fun t wx => ∃ k : Nat, k ≤ m ∧ t = .int .i64 k ∧ Hid (Below w.heap.size w wx)) (fun t _ => m - (intOf t).toNat)
  case atStart => exact ⟨0, Nat.zero_le _, rfl, Below.refl _ _⟩
  case round =>
    obtain ⟨k, hk, rfl, hB⟩ := hrel
    by_cases hlt : k < m
    · have hlt' : (k : Int) < (m : Int) := by omega
      obtain ⟨b1, o1, rfl, c1, l1, r1⟩ := (H1.out.below hB.out) k hlt
      obtain ⟨b2, o2, rfl, c2, l2, r2⟩ := (H2.out.below hB.out) k hlt
      have HLa : Hid ((S1 k).2.1 ≤ maxLen) := l1
      have HLb : Hid ((S2 k).2.1 ≤ maxLen) := l2
      have HRa : Hid (∀ w', Below wr.heap.size wr w' → Row w' (S1 k).1 (S1 k).2.1 (F1 k)) := fun w' h => r1.below h
      have HRb : Hid (∀ w', Below wr.heap.size wr w' → Row w' (S2 k).1 (S2 k).2.1 (F2 k)) := fun w' h => r2.below h
      have HSS : Hid (SameRows (S1 k).2.1 (S2 k).2.1 (F1 k) (F2 k)) := HS.out k hlt
      have e0 : ∀ w', Below wr.heap.size wr w' → w'.cell? ⟨b1, o1 + k, none⟩ = some (.slice (S1 k).1 (S1 k).2.1 (S1 k).2.2) := fun w' h => cell_step h c1
      have e1 : ∀ w', Below wr.heap.size wr w' → w'.cell? ⟨b2, o2 + k, none⟩ = some (.slice (S2 k).1 (S2 k).2.1 (S2 k).2.2) := fun w' h => cell_step h c2
      clear c1 c2 l1 l2 r1 r2
      go_wp2_with fail
      refine wp_region_held_drew (S := (fun w' => Below wr.heap.size wr w')) (by kernel_rfl) ((Below.refl _ _).drew) (fun hHeld => ?_)
      refine wpAnyH_take (i := 0) (oi := { dst := some 28, op := Go.Op.move (Go.Operand.tmp 0), type := 40, pos := "all.go:61", after := #[], guard := none }) (v := ?_) rfl (by kernel_rfl) (by kernel_rfl) (by kernel_rfl) (fun _ _ _ h => h) (Or.inl ⟨by rfl, ?hy⟩) (by assumption) ?_
      case hy => (intro w9 hSw; (try dsimp only at hSw); go_simp; try with_reducible rfl)
      try simp only [Act.put, List.setIfInBounds_toArray, List.set_cons_zero, List.set_cons_succ]
      refine wpAnyH_take (i := 1) (oi := { dst := some 29, op := Go.Op.move (Go.Operand.tmp 9), type := 3, pos := "all.go:61", after := #[], guard := none }) (v := ?_) rfl (by kernel_rfl) (by kernel_rfl) (by kernel_rfl) (fun _ _ _ h => h) (Or.inl ⟨by rfl, ?hy⟩) (by assumption) ?_
      case hy => (intro w9 hSw; (try dsimp only at hSw); go_simp; try with_reducible rfl)
      try simp only [Act.put, List.setIfInBounds_toArray, List.set_cons_zero, List.set_cons_succ]
      refine wpAnyH_take (i := 2) (oi := { dst := some 30, op := Go.Op.indexAddr 40 (Go.Operand.tmp 28) (Go.Operand.tmp 29), type := 0, pos := "all.go:61", after := #[{ on := 0, ground := Go.Ground.data }, { on := 1, ground := Go.Ground.data }], guard := none }) (v := ?_) rfl (by kernel_rfl) (by kernel_rfl) (by kernel_rfl) (fun _ _ _ h => h) (Or.inl ⟨by rfl, ?hy⟩) (by assumption) ?_
      case hy => (intro w9 hSw; (try dsimp only at hSw); go_simp; try with_reducible rfl)
      try simp only [Act.put, List.setIfInBounds_toArray, List.set_cons_zero, List.set_cons_succ]
      refine wpAnyH_take (i := 3) (oi := { dst := some 31, op := Go.Op.load 22 (Go.Operand.tmp 30), type := 22, pos := "all.go:61", after := #[{ on := 2, ground := Go.Ground.data }], guard := none }) (v := ?_) rfl (by kernel_rfl) (by kernel_rfl) (by kernel_rfl) (fun _ _ _ h => h) (Or.inl ⟨by rfl, ?hy⟩) (by assumption) ?_
      case hy => (intro w9 hSw; (try dsimp only at hSw); go_simp; try with_reducible rfl)
      try simp only [Act.put, List.setIfInBounds_toArray, List.set_cons_zero, List.set_cons_succ]
      refine wpAnyH_take (i := 4) (oi := { dst := some 32, op := Go.Op.move (Go.Operand.tmp 3), type := 40, pos := "all.go:61", after := #[], guard := none }) (v := ?_) rfl (by kernel_rfl) (by kernel_rfl) (by kernel_rfl) (fun _ _ _ h => h) (Or.inl ⟨by rfl, ?hy⟩) (by assumption) ?_
      case hy => (intro w9 hSw; (try dsimp only at hSw); go_simp; try with_reducible rfl)
      try simp only [Act.put, List.setIfInBounds_toArray, List.set_cons_zero, List.set_cons_succ]
      refine wpAnyH_take (i := 5) (oi := { dst := some 33, op := Go.Op.move (Go.Operand.tmp 9), type := 3, pos := "all.go:61", after := #[], guard := none }) (v := ?_) rfl (by kernel_rfl) (by kernel_rfl) (by kernel_rfl) (fun _ _ _ h => h) (Or.inl ⟨by rfl, ?hy⟩) (by assumption) ?_
      case hy => (intro w9 hSw; (try dsimp only at hSw); go_simp; try with_reducible rfl)
      try simp only [Act.put, List.setIfInBounds_toArray, List.set_cons_zero, List.set_cons_succ]
      refine wpAnyH_take (i := 6) (oi := { dst := some 34, op := Go.Op.indexAddr 40 (Go.Operand.tmp 32) (Go.Operand.tmp 33), type := 0, pos := "all.go:61", after := #[{ on := 4, ground := Go.Ground.data }, { on := 5, ground := Go.Ground.data }], guard := none }) (v := ?_) rfl (by kernel_rfl) (by kernel_rfl) (by kernel_rfl) (fun _ _ _ h => h) (Or.inl ⟨by rfl, ?hy⟩) (by assumption) ?_
      case hy => (intro w9 hSw; (try dsimp only at hSw); go_simp; try with_reducible rfl)
      try simp only [Act.put, List.setIfInBounds_toArray, List.set_cons_zero, List.set_cons_succ]
      refine wpAnyH_take (i := 7) (oi := { dst := some 35, op := Go.Op.load 22 (Go.Operand.tmp 34), type := 22, pos := "all.go:61", after := #[{ on := 6, ground := Go.Ground.data }], guard := none }) (v := ?_) rfl (by kernel_rfl) (by kernel_rfl) (by kernel_rfl) (fun _ _ _ h => h) (Or.inl ⟨by rfl, ?hy⟩) (by assumption) ?_
      case hy => (intro w9 hSw; (try dsimp only at hSw); go_simp; try with_reducible rfl)
      try simp only [Act.put, List.setIfInBounds_toArray, List.set_cons_zero, List.set_cons_succ]
      refine wpAnyH_ready (rs := [8]) (by kernel_rfl) (by simp) ?_
      refine AllReadyH.cons (o := { dst := some 36, op := Go.Op.call { callee := Go.Callee.value (Go.Operand.func 14), args := #[Go.Operand.tmp 31, Go.Operand.tmp 35], argTypes := #[22, 22] }, type := 4, pos := "all.go:61", after := #[{ on := 3, ground := Go.Ground.data }, { on := 7, ground := Go.Ground.data }], guard := none }) rfl (fun K hK => ?_) AllReadyH.nil
      go_simp
      refine (same_any (S1 k).1 (S2 k).1 (S1 k).2.1 (S1 k).2.2 (S2 k).2.1 (S2 k).2.2 _ _ _ HLa.out HLb.out (HRa.out _ (by assumption)) (HRb.out _ (by assumption))).mono ?_
      rintro e w5 ⟨⟨vb, rfl, hvb⟩, hb5⟩
      obtain rfl : vb = true := hvb.2 HSS.out
      refine hK.out _ _ ?_ (fun hHeld => ?_)
      · first | assumption | exact Below.then (by assumption) (by assumption)
      clear hK K
      try simp only [Act.put, List.setIfInBounds_toArray, List.set_cons_zero, List.set_cons_succ]
      refine wpAnyH_take (i := 9) (oi := { dst := some 37, op := Go.Op.unOp Go.UnOp.not 4 (Go.Operand.tmp 36), type := 4, pos := "all.go:61", after := #[{ on := 8, ground := Go.Ground.data }], guard := none }) (v := ?_) rfl (by kernel_rfl) (by kernel_rfl) (by kernel_rfl) (fun _ _ _ h => h) (Or.inl ⟨by rfl, ?hy⟩) (by assumption) ?_
      case hy => (intro w9 hSw; (try dsimp only at hSw); go_simp; try with_reducible rfl)
      try simp only [Act.put, List.setIfInBounds_toArray, List.set_cons_zero, List.set_cons_succ]
      refine wpAnyH_done (by kernel_rfl) ?_ _
      try simp only [Act.put, List.setIfInBounds_toArray, List.set_cons_zero, List.set_cons_succ]
      have HB5 : Hid (Below w.heap.size w w5) := Below.then hB.out (by assumption)
      clear hb5 hB e0 e1 HRa HRb hvb
      go_wp2_with fail
      go_roundw
      case rel => exact ⟨k + 1, by omega, by go_num, HB5.out⟩
      case measure => simp [intOf]; omega
    · obtain rfl : k = m := by omega
      go_wp2_with fail
      go_ret
      exact ⟨rfl, hB.out⟩
theorem listsAre_no (c : Int) (w : World) (h0 : c ≠ 0) :
    Calls Tryd.prog 21 #[.slice none 0 0, .int .i64 c, .int .i64 c, .slice none 0 0] w fun e w' => e = .returned (.bool true) ∧ Below w.heap.size w w' := by
  have hne : (c != 0) = true := by simpa using h0
  have HB0 : Hid (Below w.heap.size w w) := Below.refl _ _
  go_enter Tryd.func21, Tryd.ntmps21
  go_wp2_with fail
  go_loopw [9] (fun t wx => t = .int .i64 0 ∧ Hid (Below w.heap.size w wx)) (fun _ _ => 0)
  case atStart => exact ⟨rfl, HB0.out⟩
  case round =>
    obtain ⟨rfl, hB⟩ := hrel
    clear HB0
    go_wp2_with fail
    go_ret
    exact ⟨rfl, hB.out⟩
/-- Lists that are read, as rows. -/
theorem LRd.rr {w : World} {a : Option Addr} {ys : List (List Nat)} (h : LRd w a ys) (hl : ∀ y ∈ ys, y.length ≤ maxLen) : ∃ S : Nat → Option Addr × Nat × Nat, RR w a ys.length S (fun k j => (nth (ys.getD k []) j : Nat)) ∧ ∀ k, k < ys.length → (S k).2.1 = (ys.getD k []).length := by
  have h1 : ∀ k, ∃ s : Option Addr × Nat × Nat, k < ys.length → ∃ g, a = some ⟨g, 0, none⟩ ∧ w.cell? ⟨g, k, none⟩ = some (.slice s.1 s.2.1 s.2.2) ∧ s.2.1 = (ys.getD k []).length ∧ Row w s.1 s.2.1 (fun j => (nth (ys.getD k []) j : Nat)) := fun k => by
    by_cases hk : k < ys.length
    · have hy : ys[k]? = some (ys.getD k []) := by rw [List.getD_eq_getElem?_getD, List.getElem?_eq_getElem hk]; rfl
      obtain ⟨g, v, e, hc, hs⟩ := h k _ hy
      obtain ⟨av, cv, rfl, hr⟩ := hs.row
      exact ⟨(av, _, cv), fun _ => ⟨g, e, hc, rfl, hr⟩⟩
    · exact ⟨(none, 0, 0), fun h => absurd h hk⟩
  refine ⟨fun k => (h1 k).choose, fun k hk => ?_, fun k hk => ?_⟩
  · obtain ⟨g, e, hc, hlen, hr⟩ := (h1 k).choose_spec hk
    have hm : ys.getD k [] ∈ ys := by rw [List.getD_eq_getElem?_getD, List.getElem?_eq_getElem hk]; exact List.getElem_mem hk
    exact ⟨g, 0, e, by rw [Nat.zero_add]; exact hc, by rw [hlen]; exact hl _ hm, hr⟩
  · obtain ⟨g, e, hc, hlen, hr⟩ := (h1 k).choose_spec hk
    exact hlen
theorem lists_same (a b : Option Addr) (ca cb : Nat) (ys : List (List Nat)) (w : World) (hm : ys.length ≤ maxLen) (hl : ∀ y ∈ ys, y.length ≤ maxLen) (h1 : LRd w a ys) (h2 : LRd w b ys) :
    Calls Tryd.prog 21 #[.slice a ys.length ca, .int .i64 0, .int .i64 0, .slice b ys.length cb] w fun e w' => e = .returned (.bool true) ∧ Below w.heap.size w w' := by
  obtain ⟨S1, r1, s1⟩ := h1.rr hl
  obtain ⟨S2, r2, s2⟩ := h2.rr hl
  exact listsAre_ok a b ys.length ca cb S1 S2 _ _ w hm r1 r2 fun k hk => ⟨(s1 k hk).trans (s2 k hk).symm, fun _ _ => rfl⟩
/-- Values that stand for lists, read where they lay. -/
structure Sh (w1 W : World) (z : Value) (ys : List (List Nat)) : Prop where
  ex : ∃ vs, W.ownsRow w1.heap.size 22 1 z ys.length vs ∧ ∀ (k : Nat) y, ys[k]? = some y → ∃ v, vs[k]? = some v ∧ Src2 w1 v y
theorem Sh.rd {w1 W : World} {z : Value} {ys : List (List Nat)} (h : Sh w1 W z ys) (hb : Below w1.heap.size w1 W) : ∃ a cap, z = .slice a ys.length cap ∧ LRd W a ys := by
  obtain ⟨vs, ho, hv⟩ := h.ex
  rcases Nat.eq_zero_or_pos ys.length with h0 | h0
  · rcases ho.2 with ⟨rfl, _⟩ | ⟨g, cap, cur, rfl, _⟩
    · exact ⟨none, 0, by rw [h0], fun i y hy => by have := (List.getElem?_eq_some_iff.1 hy).1; omega⟩
    · exact ⟨_, cap, rfl, fun i y hy => by have := (List.getElem?_eq_some_iff.1 hy).1; omega⟩
  · obtain ⟨g, cap, rfl⟩ := owns_form ho h0
    refine ⟨_, cap, rfl, fun i y hy => ?_⟩
    obtain ⟨v, q1, q2⟩ := hv i y hy
    have hi : i < vs.length := (List.getElem?_eq_some_iff.1 q1).1
    refine ⟨g, v, rfl, ?_, q2.below hb⟩
    rw [ho.cellAt i (by have := ho.1; omega)]; exact q1
set_option maxHeartbeats 4000000 in
theorem movesR_any (n : Nat) (a : Option Addr) (cap : Nat) (g : Nat → Nat) (w : World) (hn : n ≤ 6) (hg : ∀ k, k < n → g k < 1024) (hr : Row w a n (fun k => (g k : Nat))) :
    Calls Tryd.prog 20 #[.agg #[.int .i64 (n : Nat), .slice a n cap]] w fun e w' => (∃ z c, e = .returned (.slice z (mvL g n (per n [] (pw n - 1))).length c) ∧ LRd w' z (mvL g n (per n [] (pw n - 1)))) ∧ Below w.heap.size w w' := by
  obtain ⟨W, HWE⟩ : ∃ W, Hid (W = w.alloc (.cells #[.int .i64 (n : Nat), .slice a n cap] 24)) := ⟨_, rfl⟩
  have HB : Hid (Below w.heap.size w W) := by rw [HWE.out]; exact (Below.refl _ _).alloc (Nat.le_refl _) _
  have HX : Hid (∀ w', Below W.heap.size W w' → w'.cell? ⟨w.heap.size, 0, none⟩ = some (.int .i64 (n : Nat)) ∧ w'.cell? ⟨w.heap.size, 1, none⟩ = some (.slice a n cap)) := fun w' h =>
    ⟨cell_stp h (by rw [HWE.out]; simp), cell_stp h (by rw [HWE.out]; simp)⟩
  have HR : Hid (Row w a n (fun k => (g k : Nat))) := hr
  have HG : Hid (∀ k, k < n → g k < 1024) := hg
  obtain ⟨P, HP⟩ : ∃ P, Hid (P = per n [] (pw n - 1)) := ⟨_, rfl⟩
  have HGD : Hid (∀ y, y ∈ P → y.length = n ∧ (∀ k, k < n → nth y k < n)) := fun y hy => by
    rw [HP.out] at hy
    have := per_good (by omega) hy
    exact ⟨this.1, this.2.1⟩
  have HPB := per_bound hn
  rw [← HP.out] at HPB
  obtain ⟨z0, z1⟩ := HX.out W (Below.refl _ _)
  have hmx : n ≤ maxLen := by unfold maxLen; omega
  rw [← HP.out]
  clear hr hg
  go_enter Tryd.func20, Tryd.ntmps20
  go_wp2_with (rw [← HWE.out])
  refine (perms_any n W hn).mono ?_
  rintro e w1 ⟨⟨z, rfl, hz⟩, hb1⟩
  rw [← HP.out] at hz
  have HB1 : Hid (Below W.heap.size W w1) := hb1
  obtain ⟨az, cz, rfl, hrd⟩ := hz.rd
  have HRD : Hid (LRd w1 az P) := hrd
  clear hb1 hz hrd z0 z1
  go_wp2_with fail
  go_loopw [4, 5] (fun z s wx => ∃ i : Nat, s = .int .i64 i ∧ i ≤ P.length ∧ Hid (Sh w1 wx z (mvL g n (P.take i))) ∧ Hid (Below w1.heap.size w1 wx)) (fun _ s _ => P.length - (intOf s).toNat)
  case atStart => exact ⟨0, rfl, Nat.zero_le _, ⟨[], World.ownsRow_nil _ _ _ _, fun k y hy => by simp [mvL] at hy⟩, Below.refl _ _⟩
  case round =>
    obtain ⟨i, rfl, hi, HS, HW⟩ := hrel
    by_cases hil : i < P.length
    · have hil' : (i : Int) < (P.length : Int) := by omega
      obtain ⟨x, hx⟩ : ∃ x, P[i]? = some x := ⟨_, List.getElem?_eq_getElem hil⟩
      obtain ⟨gx, vx, e1, cx, sx⟩ := HRD.out.below HW.out i x hx
      obtain ⟨gx', vx', e1', cx', sx1⟩ := HRD.out i x hx
      subst e1
      cases e1'
      obtain rfl : vx' = vx := Option.some.inj ((cell_stp HW.out cx').symm.trans cx)
      have HSX : Hid (Src2 w1 vx' x) := sx1
      obtain ⟨hxl, hxn⟩ := HGD.out x (List.mem_of_getElem? hx)
      obtain ⟨ax, cpx, rfl, hrx⟩ := sx.row
      have HNX : Hid (mvL g n (P.take (i + 1)) = mvL g n (P.take i) ++ if isMv g n x then [x] else []) := by
        show _ = _
        rw [List.take_add_one, hx, Option.toList_some, mvL_snoc]
      have HLE : Hid ((mvL g n (P.take i)).length ≤ 1000) := by
        have h1 : (mvL g n (P.take i)).length ≤ (P.take i).length := List.length_filter_le _ _
        rw [List.length_take] at h1
        show _ ≤ _
        omega
      have HBW : Hid (Below W.heap.size W wr) := Below.then HB1.out HW.out
      have HRX : Hid (∀ w', Below wr.heap.size wr w' → Calls Tryd.prog 28 #[.agg #[.int .i64 (n : Nat), .slice a n cap], .slice ax x.length cpx] w' fun e w2 => OrderPost w' n (prt g x) e w2 ∧ Below w'.heap.size w' w2) := fun w' hb => by
        rw [hxl]
        exact rnR_any n a cap g ax cpx x w' (by omega) HG.out hxl hxn (HR.out.below (Below.then (Below.then HB.out HBW.out) hb)) (by rw [hxl] at hrx; exact hrx.below hb)
      have HRW : Hid (∀ w', Below wr.heap.size wr w' → Row w' a n (fun k => (g k : Nat))) := fun w' hb => HR.out.below (Below.then (Below.then HB.out HBW.out) hb)
      have hX := HX.out wr HBW.out
      have KK : wr.drew.cell? ⟨w.heap.size, 0, none⟩ = some (.int .i64 (n : Nat)) ∧ wr.drew.cell? ⟨w.heap.size, 1, none⟩ = some (.slice a n cap) ∧ wr.drew.cell? ⟨gx, i, none⟩ = some (.slice ax x.length cpx) ∧ wr.drew.cell? ⟨gx, i, none⟩ = some (.slice ax x.length cpx) ∧ Below wr.heap.size wr wr.drew := ⟨hX.1, hX.2, cx, cx, (Below.refl _ _).drew⟩
      clear hX cx cx' sx sx1 hrx hx hxn hxl
      go_wp2_with fail
      go_region_held3 (fun w' => w'.cell? ⟨w.heap.size, 0, none⟩ = some (.int .i64 (n : Nat)) ∧ w'.cell? ⟨w.heap.size, 1, none⟩ = some (.slice a n cap) ∧ w'.cell? ⟨gx, i, none⟩ = some (.slice ax x.length cpx) ∧ w'.cell? ⟨gx, i, none⟩ = some (.slice ax x.length cpx) ∧ Below wr.heap.size wr w')
        (first | exact KK | assumption | exact p4_step (by assumption) (by assumption))
        (first
          | (go_at_call 28; refine (HRX.out _ (p4_below (by assumption))).mono ?_; rintro e w2 ⟨⟨ar1, cr1, rfl, hrow1, _⟩, hb2⟩)
          | (go_at_call 17; refine (sameOrder_any (n : Nat) (n : Nat) ar1 a n cr1 n cap _ _ _ hmx hmx hrow1 (HRW.out _ (p4_below (by assumption)))).mono ?_; rintro e w3 ⟨⟨q, rfl, hq⟩, hb3⟩))
      all_goals (
        rename_i hsw
        have HW3 : Hid (Below wr.heap.size wr w3) := p4_below (by assumption)
        have hc3 : w3.cell? ⟨gx, i, none⟩ = some (.slice ax x.length cpx) := by
          have h4 : w3.cell? ⟨w.heap.size, 0, none⟩ = some (.int .i64 (n : Nat)) ∧ w3.cell? ⟨w.heap.size, 1, none⟩ = some (.slice a n cap) ∧ w3.cell? ⟨gx, i, none⟩ = some (.slice ax x.length cpx) ∧ w3.cell? ⟨gx, i, none⟩ = some (.slice ax x.length cpx) ∧ Below wr.heap.size wr w3 := by assumption
          exact h4.2.2.1
        have HQ : Hid (q = isMv g n x) := by
          show q = isMv g n x
          rw [Bool.eq_iff_iff, hq, isMv_iff]
          exact ⟨fun h => h.2, fun h => ⟨rfl, h⟩⟩
        clear hq
        obtain ⟨vs, hvo, hvv⟩ := HS.out.ex
        have HVO : Hid (wr.ownsRow w1.heap.size 22 1 u4 (mvL g n (P.take i)).length vs) := hvo
        have HVV : Hid (∀ (k : Nat) y, (mvL g n (P.take i))[k]? = some y → ∃ v, vs[k]? = some v ∧ Src2 w1 v y) := hvv
        have hws := HW.out.size
        have hws3 := HW3.out.size
        clear hvo hvv
        rcases (Bool.eq_false_or_eq_true q).symm with hq | hq
        · subst hq
          have HN2 : Hid (mvL g n (P.take (i + 1)) = mvL g n (P.take i)) := by
            show _ = _
            rw [HNX.out, ← HQ.out]; simp
          go_wp2
          go_roundw
          case rel => exact ⟨i + 1, by go_num, by omega, ⟨vs, by rw [HN2.out]; exact owns_below HVO.out HW3.out, by rw [HN2.out]; exact HVV.out⟩, Below.then HW.out HW3.out⟩
          case measure => simp [intOf]; omega
        · subst hq
          have HN2 : Hid (mvL g n (P.take (i + 1)) = mvL g n (P.take i) ++ [x]) := by
            show _ = _
            rw [HNX.out, ← HQ.out]; rfl
          go_wp2_with (at_builtin; refine wpList_plain rfl fun _ hK => wp_list _ _ _ rfl w1.heap.size u4 _ vs rfl (owns_below HVO.out (HW3.out.alloc hws3 _)) w3.heap.size (.slice ax x.length cpx) rfl (by simp) (by rfl) HLE.out (by simp; omega) fun v4 w4 ho4 hg4 => hK _ _ ?_; have HO4 : Hid (w4.ownsRow w1.heap.size 22 1 v4 ((mvL g n (P.take i)).length + 1) (vs ++ [.slice ax x.length cpx])) := ho4; have HB4 : Hid (Below w1.heap.size w1 w4) := ((Below.then HW.out HW3.out).alloc (by omega) _).grown hg4 (by simp; omega) (owns_block HVO.out); clear ho4 hg4)
          go_roundw
          case rel =>
            refine ⟨i + 1, by go_num, by omega, ⟨vs ++ [.slice ax x.length cpx], by rw [HN2.out, List.length_append]; exact HO4.out, ?_⟩, HB4.out⟩
            intro k y hy
            rw [HN2.out] at hy
            have hl : vs.length = (mvL g n (P.take i)).length := by have := HVO.out.1; omega
            rcases Nat.lt_or_ge k (mvL g n (P.take i)).length with hk | hk
            · rw [List.getElem?_append_left hk] at hy
              obtain ⟨u, q1, q2⟩ := HVV.out k y hy
              exact ⟨u, by rw [List.getElem?_append_left (by omega)]; exact q1, q2⟩
            · rw [List.getElem?_append_right hk] at hy
              obtain ⟨h5, rfl⟩ := List.getElem?_eq_some_iff.1 hy
              have ek : k = (mvL g n (P.take i)).length := by simp at h5; omega
              subst ek
              simp only [Nat.sub_self, List.getElem_cons_zero]
              exact ⟨_, by rw [List.getElem?_append_right (by omega), hl, Nat.sub_self]; rfl, HSX.out⟩
          case measure => simp [intOf]; omega)
    · obtain rfl : i = P.length := by omega
      have HS2 := HS.out
      rw [List.take_length] at HS2
      obtain ⟨zz, cc, rfl, hrd⟩ := HS2.rd HW.out
      have HF : Hid (LRd wr zz (mvL g n P)) := hrd
      have HBE : Hid (Below w.heap.size w wr) := Below.then HB.out (Below.then HB1.out HW.out)
      clear hrd HS2
      go_wp2_with fail
      go_ret
      exact ⟨⟨_, _, rfl, HF.out⟩, HBE.out⟩
end Go.Proofs.YtfbdgdphpdhcpaaDoor
