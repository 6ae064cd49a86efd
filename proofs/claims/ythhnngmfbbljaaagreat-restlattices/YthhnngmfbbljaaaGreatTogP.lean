/-
  What quotient.together answers: the least congruence that has the pairs, by its numbers. Conditions: a lattice of at most forty elements, at most a thousand pairs of elements.
-/
import Derived.Deep.RegionHeld3
import Derived.Deep.Cut
import Derived.Test.YthhnngmfbbljaaaGreatTogM
import Derived.Test.YthhnngmfbbljaaaGreatPofP
namespace Go.Proofs.YthhnngmfbbljaaaGreat
open Go.RowKit
set_option maxRecDepth 100000

theorem wp_app2 {o : Oper} {a : Act} {K : Act → World → Prop} {Q : Exit → Act → World → Prop} (w : World) (s x : Operand)
    (ho : o.op = .call { callee := .builtin .append, args := #[s, x], argTypes := #[92, 92] }) (v : Value) (l : List (Nat × Nat)) (hs : a.eval s = v) (base : Nat) (hA : w.ownsRow base 94 2 v l.length (pairVals l))
    (b m c : Nat) (l2 : List (Nat × Nat)) (hm : m = l2.length) (hx : a.eval x = .slice (some ⟨b, 0, none⟩) m c) (hp : PRow w (some ⟨b, 0, none⟩) l2.length (pairAt l2)) (hlen : l.length + l2.length ≤ 100000) (hbase : base ≤ w.heap.size)
    (h : ∀ v' w', w'.ownsRow base 94 2 v' (l ++ l2).length (pairVals (l ++ l2)) → w.grownBy w' v.ownBlock → K (a.put o.dst v') w') : o.wp Tryz.prog a w K Q := by
  obtain ⟨i0, hi, hz0, hz1, hz2⟩ := info_parts Tryz.infoRU
  subst hm
  refine wp_append_own w s x 92 ho base 94 i0 (.agg #[.int .i64 0, .int .i64 0]) 2 16 Tryz.underlying92 hi hz0 hz1 hz2 rfl (by decide) v l.length (pairVals l) hs hA ⟨b, 0, none⟩ l2.length c (pairVals l2) hx (pairVals_len l2) (prow_cells hp) (pairVals_one l2) (by unfold maxLen; omega) (by omega) hbase ?_
  intro v' w' hown' hgrow _
  refine h v' w' ?_ hgrow
  rw [List.length_append, pairVals_append]
  exact hown'
theorem prow_twoH {X wa : World} {t : TypeId} {x y z u : Nat} (h : X.alloc (.cells #[.int .i64 (x : Nat), .int .i64 (y : Nat), .int .i64 (z : Nat), .int .i64 (u : Nat)] t) = wa) : Hid (PRow wa (some ⟨X.heap.size, 0, none⟩) [(x, y), (z, u)].length (pairAt [(x, y), (z, u)])) := by
  rw [← h]; exact prow_two
theorem owns_alH {X wa : World} {o : Obj} {base e size n : Nat} {v : Value} {xs : List Value} (h : Hid (X.ownsRow base e size v n xs)) (e' : X.alloc o = wa) : Hid (wa.ownsRow base e size v n xs) := by
  rw [← e']; exact h.out.alloc o
theorem owns_dr {X wd : World} {base e size n : Nat} {v : Value} {xs : List Value} (h : Hid (X.ownsRow base e size v n xs)) (e' : X.drew = wd) : Hid (wd.ownsRow base e size v n xs) := by
  rw [← e']; exact h.out.drew
theorem hid_eq {X Y Z : World} {r : Option Nat} (e : X = Y) (h : Y.grownBy Z r) : Hid (X.grownBy Z r) := by subst e; exact h
theorem idTo_zero : idTo 0 = fun _ => 0 := by funext x; simp [idTo]

set_option maxHeartbeats 8000000 in
theorem together_any (q b off ca b' off' cb : Nat) (R R' : Nat → Nat × Nat × Nat) (m j : Nat → Nat → Nat) (pv : Value) (P : List (Nat × Nat)) (w : World) (h1 : 1 ≤ q) (h40 : q ≤ 40) (hm : Inn q m) (hj : Inn q j) (ht : Tb w b off q R m) (ho : Tb w b' off' q R' j)
    (hP : PSrc w pv P) (hPl : P.length ≤ 1000) (hPin : ∀ p, p ∈ P → p.1 < q ∧ p.2 < q) :
    Calls Tryz.prog 60 #[.agg #[.int .i64 q, .slice (some ⟨b, off, none⟩) q ca, .slice (some ⟨b', off', none⟩) q cb], pv] w fun e w' => (∃ B c, e = .returned (.slice (some ⟨B, 0, none⟩) q q) ∧ LeastC q m j P c ∧ Own w' B q (nbr c) ∧ w.heap.size ≤ B) ∧ Below w.heap.size w w' := by
  obtain ⟨i0, hi, hz0, hz1, hz2⟩ := info_parts Tryz.info3
  have HM : Hid (∀ a b, a < q → b < q → m a b < q ∧ j a b < q) := fun a b ha hb => ⟨hm a b ha hb, hj a b ha hb⟩
  have HTB : Hid (∀ wx, Below w.heap.size w wx → Tb wx b off q R m ∧ Tb wx b' off' q R' j) := fun wx h => ⟨ht.step h, ho.step h⟩
  have HPS : Hid (∀ wx, Below w.heap.size w wx → PSrc wx pv P) := fun wx h => hP.step h
  have HIN : Hid (TInv q m j P (fun x => x) P) := TInv.start hPin
  obtain ⟨W, HW⟩ : ∃ W, Hid (W = w.alloc (.cells #[.int .i64 q, .slice (some ⟨b, off, none⟩) q ca, .slice (some ⟨b', off', none⟩) q cb] 27)) := ⟨_, rfl⟩
  have HLW : Hid (LB W w.heap.size q (some ⟨b, off, none⟩) q ca (some ⟨b', off', none⟩) q cb) := by rw [HW.out]; exact LB.new _ _ _ _ _ _ _ _
  have HBW : Hid (Below w.heap.size w W) := by rw [HW.out]; exact (Below.refl _ _).alloc (Nat.le_refl _) _
  have hsW : W.heap.size = w.heap.size + 1 := by rw [HW.out]; simp
  clear hm hj ht ho hP hPin
  go_enter Tryz.func60, Tryz.ntmps60
  go_wp2_with (at_make; refine wpList_make_full _ rfl _ _ 22 rfl (w.heap.size + 1) 3 i0 (.int .i64 0) 1 Tryz.underlying22 hi hz0 hz1 .i64 .i64 _ _ q rfl rfl rfl rfl (by rw [hz2]; omega) (by unfold maxLen; omega) (by simp) ?_; intro w1 hown1 hgrow1)
  have HO1 : Hid (Own w1 (w.heap.size + 1) q (idTo 0)) := by
    have := own_made hown1
    rw [World.size_alloc] at this
    rw [idTo_zero]
    exact this
  rw [← HW.out] at hgrow1
  have HL1 : Hid (LB w1 w.heap.size q (some ⟨b, off, none⟩) q ca (some ⟨b', off', none⟩) q cb) := HLW.out.far hgrow1 (by simp)
  have HB1 : Hid (Below w.heap.size w w1) := HBW.out.grown hgrow1 (by omega) (by simp)
  clear hown1 hgrow1 hi hz0 hz1 hz2 HW hsW HLW HBW
  go_loopw [17] (fun i wx => ∃ k : Nat, k ≤ q ∧ i = .int .i64 k ∧ Hid (Own wx (w.heap.size + 1) q (idTo k)) ∧ Hid (LB wx w.heap.size q (some ⟨b, off, none⟩) q ca (some ⟨b', off', none⟩) q cb) ∧ Hid (Below w.heap.size w wx)) (fun i _ => q - (intOf i).toNat)
  case atStart => exact ⟨0, Nat.zero_le _, rfl, HO1.out, HL1.out, HB1.out⟩
  case round =>
    obtain ⟨k, hk, rfl, HO, HL, HB⟩ := hrel
    clear HO1 HB1 HL1
    by_cases hlt : k < q
    · have hlk : (k : Int) < (q : Int) := by omega
      have cv := (HO.out k hlt).1
      have cf := (HO.out k hlt).2
      go_wp2_with fail
      go_roundw
      case rel => exact ⟨k + 1, by omega, by go_num, by rw [idTo_succ]; exact HO.out.set k k hlt, HL.out.far (grown_setC _ (w.heap.size + 1) k _) (by simp), HB.out.setCell (p := ⟨w.heap.size + 1, k, none⟩) (Nat.le_add_right _ _) _⟩
      case measure => simp [intOf]; omega
    · obtain rfl : q = k := by omega
      have HO0 : Hid (Own wr (w.heap.size + 1) q (fun x => x)) := HO.out.congr (fun x hx => by unfold idTo; rw [if_pos hx])
      clear HO
      go_wp2_with fail
      refine (clone_any pv P wr hPl (HPS.out _ HB.out)).mono ?_
      rintro e w2 ⟨⟨v0, rfl, hown2⟩, hb2⟩
      have hs2 : w.heap.size + 2 ≤ wr.heap.size := by
        have := (HO0.out).lt (k := 0) (by omega)
        omega
      have HT2 : Hid (TgI w (w.heap.size + 1) q m j P (fun x => x) P v0 w2) := ⟨HIN.out, HO0.out.keep hb2 (by omega), fun x hx => hx, owns_base hown2 hs2, Below.then HB.out hb2, start_sml h40 hPl⟩
      have HL2 : Hid (LB w2 w.heap.size q (some ⟨b, off, none⟩) q ca (some ⟨b', off', none⟩) q cb) := HL.out.step hb2
      clear hown2 hb2 hs2 HO0 HL HB hlt hk HPS HIN
      go_wp2_with fail
      go_loopw [7] (fun v wx => ∃ (c : Nat → Nat) (L : List (Nat × Nat)), Hid (TgI w (w.heap.size + 1) q m j P c L v wx) ∧ Hid (LB wx w.heap.size q (some ⟨b, off, none⟩) q ca (some ⟨b', off', none⟩) q cb)) (fun v wx => mesT (w.heap.size + 1) q v wx)
      case atStart => exact ⟨_, _, HT2.out, HL2.out⟩
      case round =>
        obtain ⟨c, L, HT, HL⟩ := hrel
        clear HT2 HL2
        by_cases hL : 0 < L.length
        · obtain ⟨L', x, y, rfl⟩ := list_last hL
          have hrow := HT.out.row
          obtain ⟨n, hn⟩ : ∃ n, (L' ++ [(x, y)]).length = n := ⟨_, rfl⟩
          rw [hn] at hrow hL
          obtain ⟨g, cap, rfl, hcap, hcm, hbg⟩ := owns_parts hrow hL
          obtain ⟨k, hk⟩ : ∃ k, L'.length = k := ⟨_, rfl⟩
          have hnk : n = k + 1 := by rw [← hn, ← hk]; simp
          have e1 := hrow.cellAt (k * 2) (by omega)
          have e2 := hrow.cellAt (k * 2 + 1) (by omega)
          rw [← hk, (last_at L' x y).1] at e1
          rw [← hk, (last_at L' x y).2] at e2
          rw [hk] at e1 e2
          have HME : Hid (mesT (w.heap.size + 1) q (.slice (some ⟨g, 0, none⟩) n cap) wr = clsN c q * (2 * q + 1) + (L'.length + 1)) := by
            show _ = _
            rw [mesT_own HT.out.own, hk, ← hnk]; rfl
          have hin := HT.out.inv.inn (x, y) (by simp)
          have hxq : (x : Int) < (q : Int) := by omega
          have hyq : (y : Int) < (q : Int) := by omega
          have hkn : (k : Int) < (n : Int) := by omega
          have hn1 : (n : Int) - 1 = (k : Int) := by omega
          have hkc : (k : Int) ≤ (cap : Int) := by omega
          have hn0 : decide ((n : Int) > 0) = true := by simp; omega
          have hk5 : k ≤ 5000 := by
            have := HT.out.sml
            rw [hn] at this
            omega
          have hwk : wrap64 (k : Int) = (k : Int) := IntWalk.wrap64_in _ ⟨by omega, by omega⟩
          have HNK : Hid (n = L'.length + 1) := by rw [hk]; exact hnk
          have HK : Hid (L'.length = k) := hk
          have l1 : ∀ w', Below wr.heap.size wr w' → w'.cell? ⟨g, k * 2, none⟩ = some (.int .i64 (x : Nat)) := fun w' h => cell_step h e1
          have l2 : ∀ w', Below wr.heap.size wr w' → w'.cell? ⟨g, k * 2 + 1, none⟩ = some (.int .i64 (y : Nat)) := fun w' h => cell_step h e2
          have HT1 : Hid (TgI w (w.heap.size + 1) q m j P c (L' ++ [(x, y)]) (.slice (some ⟨g, 0, none⟩) n cap) wr.drew) := HT.out.drew
          have HL1 : Hid (LB wr.drew w.heap.size q (some ⟨b, off, none⟩) q ca (some ⟨b', off', none⟩) q cb) := HL.out
          clear hrow e1 e2 HT HL hn hnk hk
          go_wp2_with fail
          refine wp_region_held_drew (S := (fun w' => Below wr.heap.size wr w')) (by kernel_rfl) ((Below.refl _ _).drew) (fun hHeld => ?_)
          refine wpAnyH_take (i := 0) (oi := { dst := some 33, op := Go.Op.move (Go.Operand.tmp 7), type := 92, pos := "classes.go:20", after := #[], guard := none }) (v := ?_) rfl (by kernel_rfl) (by kernel_rfl) (by kernel_rfl) (fun _ _ _ h => h) (Or.inl ⟨by rfl, ?hy⟩) (by assumption) ?_
          case hy => (intro w9 hSw; (try dsimp only at hSw); go_simp; try with_reducible rfl)
          try simp only [Act.put, List.setIfInBounds_toArray, List.set_cons_zero, List.set_cons_succ]
          refine wpAnyH_take (i := 1) (oi := { dst := some 34, op := Go.Op.move (Go.Operand.tmp 8), type := 3, pos := "classes.go:20", after := #[], guard := none }) (v := ?_) rfl (by kernel_rfl) (by kernel_rfl) (by kernel_rfl) (fun _ _ _ h => h) (Or.inl ⟨by rfl, ?hy⟩) (by assumption) ?_
          case hy => (intro w9 hSw; (try dsimp only at hSw); go_simp; try with_reducible rfl)
          try simp only [Act.put, List.setIfInBounds_toArray, List.set_cons_zero, List.set_cons_succ]
          refine wpAnyH_take (i := 2) (oi := { dst := some 35, op := Go.Op.indexAddr 92 (Go.Operand.tmp 33) (Go.Operand.tmp 34), type := 0, pos := "classes.go:20", after := #[{ on := 0, ground := Go.Ground.data }, { on := 1, ground := Go.Ground.data }], guard := none }) (v := ?_) rfl (by kernel_rfl) (by kernel_rfl) (by kernel_rfl) (fun _ _ _ h => h) (Or.inl ⟨by rfl, ?hy⟩) (by assumption) ?_
          case hy => (intro w9 hSw; (try dsimp only at hSw); go_simp; try with_reducible rfl)
          try simp only [Act.put, List.setIfInBounds_toArray, List.set_cons_zero, List.set_cons_succ]
          refine wpAnyH_take (i := 3) (oi := { dst := some 36, op := Go.Op.indexAddr 94 (Go.Operand.tmp 35) (Go.Operand.const (Go.Value.int Go.IntKind.i64 0)), type := 0, pos := "classes.go:20", after := #[{ on := 2, ground := Go.Ground.data }], guard := none }) (v := ?_) rfl (by kernel_rfl) (by kernel_rfl) (by kernel_rfl) (fun _ _ _ h => h) (Or.inl ⟨by rfl, ?hy⟩) (by assumption) ?_
          case hy => (intro w9 hSw; (try dsimp only at hSw); go_simp; try with_reducible rfl)
          try simp only [Act.put, List.setIfInBounds_toArray, List.set_cons_zero, List.set_cons_succ]
          refine wpAnyH_take (i := 4) (oi := { dst := some 37, op := Go.Op.load 3 (Go.Operand.tmp 36), type := 3, pos := "classes.go:20", after := #[{ on := 3, ground := Go.Ground.data }], guard := none }) (v := ?_) rfl (by kernel_rfl) (by kernel_rfl) (by kernel_rfl) (fun _ _ _ h => h) (Or.inl ⟨by rfl, ?hy⟩) (by assumption) ?_
          case hy => (intro w9 hSw; (try dsimp only at hSw); go_simp; try with_reducible rfl)
          try simp only [Act.put, List.setIfInBounds_toArray, List.set_cons_zero, List.set_cons_succ]
          refine wpAnyH_take (i := 5) (oi := { dst := some 38, op := Go.Op.move (Go.Operand.tmp 7), type := 92, pos := "classes.go:20", after := #[{ on := 10, ground := Go.Ground.gcOnly Go.Departure.lateStores }], guard := none }) (v := ?_) rfl (by kernel_rfl) (by kernel_rfl) (by kernel_rfl) (fun _ _ _ h => h) (Or.inl ⟨by rfl, ?hy⟩) (by assumption) ?_
          case hy => (intro w9 hSw; (try dsimp only at hSw); go_simp; try with_reducible rfl)
          try simp only [Act.put, List.setIfInBounds_toArray, List.set_cons_zero, List.set_cons_succ]
          refine wpAnyH_take (i := 6) (oi := { dst := some 39, op := Go.Op.move (Go.Operand.tmp 8), type := 3, pos := "classes.go:20", after := #[{ on := 10, ground := Go.Ground.gcOnly Go.Departure.lateStores }], guard := none }) (v := ?_) rfl (by kernel_rfl) (by kernel_rfl) (by kernel_rfl) (fun _ _ _ h => h) (Or.inl ⟨by rfl, ?hy⟩) (by assumption) ?_
          case hy => (intro w9 hSw; (try dsimp only at hSw); go_simp; try with_reducible rfl)
          try simp only [Act.put, List.setIfInBounds_toArray, List.set_cons_zero, List.set_cons_succ]
          refine wpAnyH_take (i := 7) (oi := { dst := some 40, op := Go.Op.indexAddr 92 (Go.Operand.tmp 38) (Go.Operand.tmp 39), type := 0, pos := "classes.go:20", after := #[{ on := 5, ground := Go.Ground.data }, { on := 6, ground := Go.Ground.data }, { on := 10, ground := Go.Ground.gcOnly Go.Departure.lateStores }], guard := none }) (v := ?_) rfl (by kernel_rfl) (by kernel_rfl) (by kernel_rfl) (fun _ _ _ h => h) (Or.inl ⟨by rfl, ?hy⟩) (by assumption) ?_
          case hy => (intro w9 hSw; (try dsimp only at hSw); go_simp; try with_reducible rfl)
          try simp only [Act.put, List.setIfInBounds_toArray, List.set_cons_zero, List.set_cons_succ]
          refine wpAnyH_take (i := 8) (oi := { dst := some 41, op := Go.Op.indexAddr 94 (Go.Operand.tmp 40) (Go.Operand.const (Go.Value.int Go.IntKind.i64 1)), type := 0, pos := "classes.go:20", after := #[{ on := 7, ground := Go.Ground.data }, { on := 10, ground := Go.Ground.gcOnly Go.Departure.lateStores }], guard := none }) (v := ?_) rfl (by kernel_rfl) (by kernel_rfl) (by kernel_rfl) (fun _ _ _ h => h) (Or.inl ⟨by rfl, ?hy⟩) (by assumption) ?_
          case hy => (intro w9 hSw; (try dsimp only at hSw); go_simp; try with_reducible rfl)
          try simp only [Act.put, List.setIfInBounds_toArray, List.set_cons_zero, List.set_cons_succ]
          refine wpAnyH_take (i := 9) (oi := { dst := some 42, op := Go.Op.load 3 (Go.Operand.tmp 41), type := 3, pos := "classes.go:20", after := #[{ on := 8, ground := Go.Ground.data }, { on := 10, ground := Go.Ground.gcOnly Go.Departure.lateStores }], guard := none }) (v := ?_) rfl (by kernel_rfl) (by kernel_rfl) (by kernel_rfl) (fun _ _ _ h => h) (Or.inl ⟨by rfl, ?hy⟩) (by assumption) ?_
          case hy => (intro w9 hSw; (try dsimp only at hSw); go_simp; try with_reducible rfl)
          try simp only [Act.put, List.setIfInBounds_toArray, List.set_cons_zero, List.set_cons_succ]
          refine wpAnyH_take (i := 10) (oi := { dst := some 9, op := Go.Op.assign (Go.Operand.tmp 37), type := 3, pos := "classes.go:20", after := #[{ on := 4, ground := Go.Ground.data }, { on := 0, ground := Go.Ground.phase }, { on := 1, ground := Go.Ground.phase }, { on := 2, ground := Go.Ground.phase }, { on := 3, ground := Go.Ground.phase }, { on := 4, ground := Go.Ground.phase }, { on := 5, ground := Go.Ground.textOnly Go.Departure.lateStores }, { on := 6, ground := Go.Ground.textOnly Go.Departure.lateStores }, { on := 7, ground := Go.Ground.textOnly Go.Departure.lateStores }, { on := 8, ground := Go.Ground.textOnly Go.Departure.lateStores }, { on := 9, ground := Go.Ground.textOnly Go.Departure.lateStores }], guard := none }) (v := ?_) rfl (by kernel_rfl) (by kernel_rfl) (by kernel_rfl) (fun _ _ _ h => h) (Or.inl ⟨by rfl, ?hy⟩) (by assumption) ?_
          case hy => (intro w9 hSw; (try dsimp only at hSw); go_simp; try with_reducible rfl)
          try simp only [Act.put, List.setIfInBounds_toArray, List.set_cons_zero, List.set_cons_succ]
          refine wpAnyH_take (i := 11) (oi := { dst := some 10, op := Go.Op.assign (Go.Operand.tmp 42), type := 3, pos := "classes.go:20", after := #[{ on := 9, ground := Go.Ground.data }, { on := 10, ground := Go.Ground.chain }, { on := 0, ground := Go.Ground.phase }, { on := 1, ground := Go.Ground.phase }, { on := 2, ground := Go.Ground.phase }, { on := 3, ground := Go.Ground.phase }, { on := 4, ground := Go.Ground.phase }, { on := 5, ground := Go.Ground.phase }, { on := 6, ground := Go.Ground.phase }, { on := 7, ground := Go.Ground.phase }, { on := 8, ground := Go.Ground.phase }, { on := 9, ground := Go.Ground.phase }, { on := 10, ground := Go.Ground.phase }], guard := none }) (v := ?_) rfl (by kernel_rfl) (by kernel_rfl) (by kernel_rfl) (fun _ _ _ h => h) (Or.inl ⟨by rfl, ?hy⟩) (by assumption) ?_
          case hy => (intro w9 hSw; (try dsimp only at hSw); go_simp; try with_reducible rfl)
          try simp only [Act.put, List.setIfInBounds_toArray, List.set_cons_zero, List.set_cons_succ]
          refine wpAnyH_done (by kernel_rfl) ?_ _
          try simp only [Act.put, List.setIfInBounds_toArray, List.set_cons_zero, List.set_cons_succ]
          generalize wr.drew = W1 at HT1 HL1 ⊢
          clear l1 l2 hHeld hn1 hkn
          have cx : ∀ w', Below W1.heap.size W1 w' → w'.cell? ⟨w.heap.size + 1, x, none⟩ = some (.int .i64 (c x : Nat)) := fun w' h => cell_step h (HT1.out.own x hin.1).1
          have cy : ∀ w', Below W1.heap.size W1 w' → w'.cell? ⟨w.heap.size + 1, y, none⟩ = some (.int .i64 (c y : Nat)) := fun w' h => cell_step h (HT1.out.own y hin.2).1
          by_cases e : c x = c y
          · have HT3 : Hid (TgI w (w.heap.size + 1) q m j P c L' (.slice (some ⟨g, 0, none⟩) k cap) W1.drew) := by
              have := HT1.out.skipT HNK.out e
              rw [HK.out] at this
              exact this.drew
            have HL3 : Hid (LB W1.drew w.heap.size q (some ⟨b, off, none⟩) q ca (some ⟨b', off', none⟩) q cb) := HL1.out
            have he : (((c x : Nat) : Int) == ((c y : Nat) : Int)) = true := by rw [e]; simp
            clear HT1 HL1 e
            go_wp2_with fail
            refine wp_region_held_drew (S := (fun w' => Below W1.heap.size W1 w')) (by kernel_rfl) ((Below.refl _ _).drew) (fun hHeld => ?_)
            refine wpAnyH_take (i := 0) (oi := { dst := some 46, op := Go.Op.move (Go.Operand.tmp 5), type := 22, pos := "classes.go:23", after := #[], guard := none }) (v := ?_) rfl (by kernel_rfl) (by kernel_rfl) (by kernel_rfl) (fun _ _ _ h => h) (Or.inl ⟨by rfl, ?hy⟩) (by assumption) ?_
            case hy => (intro w9 hSw; (try dsimp only at hSw); go_simp; try with_reducible rfl)
            try simp only [Act.put, List.setIfInBounds_toArray, List.set_cons_zero, List.set_cons_succ]
            refine wpAnyH_take (i := 1) (oi := { dst := some 47, op := Go.Op.move (Go.Operand.tmp 9), type := 3, pos := "classes.go:23", after := #[], guard := none }) (v := ?_) rfl (by kernel_rfl) (by kernel_rfl) (by kernel_rfl) (fun _ _ _ h => h) (Or.inl ⟨by rfl, ?hy⟩) (by assumption) ?_
            case hy => (intro w9 hSw; (try dsimp only at hSw); go_simp; try with_reducible rfl)
            try simp only [Act.put, List.setIfInBounds_toArray, List.set_cons_zero, List.set_cons_succ]
            refine wpAnyH_take (i := 2) (oi := { dst := some 48, op := Go.Op.indexAddr 22 (Go.Operand.tmp 46) (Go.Operand.tmp 47), type := 0, pos := "classes.go:23", after := #[{ on := 0, ground := Go.Ground.data }, { on := 1, ground := Go.Ground.data }], guard := none }) (v := ?_) rfl (by kernel_rfl) (by kernel_rfl) (by kernel_rfl) (fun _ _ _ h => h) (Or.inl ⟨by rfl, ?hy⟩) (by assumption) ?_
            case hy => (intro w9 hSw; (try dsimp only at hSw); go_simp; try with_reducible rfl)
            try simp only [Act.put, List.setIfInBounds_toArray, List.set_cons_zero, List.set_cons_succ]
            refine wpAnyH_take (i := 3) (oi := { dst := some 49, op := Go.Op.load 3 (Go.Operand.tmp 48), type := 3, pos := "classes.go:23", after := #[{ on := 2, ground := Go.Ground.data }], guard := none }) (v := ?_) rfl (by kernel_rfl) (by kernel_rfl) (by kernel_rfl) (fun _ _ _ h => h) (Or.inl ⟨by rfl, ?hy⟩) (by assumption) ?_
            case hy => (intro w9 hSw; (try dsimp only at hSw); go_simp; try with_reducible rfl)
            try simp only [Act.put, List.setIfInBounds_toArray, List.set_cons_zero, List.set_cons_succ]
            refine wpAnyH_take (i := 4) (oi := { dst := some 50, op := Go.Op.move (Go.Operand.tmp 5), type := 22, pos := "classes.go:23", after := #[], guard := none }) (v := ?_) rfl (by kernel_rfl) (by kernel_rfl) (by kernel_rfl) (fun _ _ _ h => h) (Or.inl ⟨by rfl, ?hy⟩) (by assumption) ?_
            case hy => (intro w9 hSw; (try dsimp only at hSw); go_simp; try with_reducible rfl)
            try simp only [Act.put, List.setIfInBounds_toArray, List.set_cons_zero, List.set_cons_succ]
            refine wpAnyH_take (i := 5) (oi := { dst := some 51, op := Go.Op.move (Go.Operand.tmp 10), type := 3, pos := "classes.go:23", after := #[], guard := none }) (v := ?_) rfl (by kernel_rfl) (by kernel_rfl) (by kernel_rfl) (fun _ _ _ h => h) (Or.inl ⟨by rfl, ?hy⟩) (by assumption) ?_
            case hy => (intro w9 hSw; (try dsimp only at hSw); go_simp; try with_reducible rfl)
            try simp only [Act.put, List.setIfInBounds_toArray, List.set_cons_zero, List.set_cons_succ]
            refine wpAnyH_take (i := 6) (oi := { dst := some 52, op := Go.Op.indexAddr 22 (Go.Operand.tmp 50) (Go.Operand.tmp 51), type := 0, pos := "classes.go:23", after := #[{ on := 4, ground := Go.Ground.data }, { on := 5, ground := Go.Ground.data }], guard := none }) (v := ?_) rfl (by kernel_rfl) (by kernel_rfl) (by kernel_rfl) (fun _ _ _ h => h) (Or.inl ⟨by rfl, ?hy⟩) (by assumption) ?_
            case hy => (intro w9 hSw; (try dsimp only at hSw); go_simp; try with_reducible rfl)
            try simp only [Act.put, List.setIfInBounds_toArray, List.set_cons_zero, List.set_cons_succ]
            refine wpAnyH_take (i := 7) (oi := { dst := some 53, op := Go.Op.load 3 (Go.Operand.tmp 52), type := 3, pos := "classes.go:23", after := #[{ on := 6, ground := Go.Ground.data }], guard := none }) (v := ?_) rfl (by kernel_rfl) (by kernel_rfl) (by kernel_rfl) (fun _ _ _ h => h) (Or.inl ⟨by rfl, ?hy⟩) (by assumption) ?_
            case hy => (intro w9 hSw; (try dsimp only at hSw); go_simp; try with_reducible rfl)
            try simp only [Act.put, List.setIfInBounds_toArray, List.set_cons_zero, List.set_cons_succ]
            refine wpAnyH_take (i := 8) (oi := { dst := some 54, op := Go.Op.binOp Go.BinOp.eql 3 (Go.Operand.tmp 49) (Go.Operand.tmp 53) 3, type := 4, pos := "classes.go:23", after := #[{ on := 3, ground := Go.Ground.data }, { on := 7, ground := Go.Ground.data }], guard := none }) (v := ?_) rfl (by kernel_rfl) (by kernel_rfl) (by kernel_rfl) (fun _ _ _ h => h) (Or.inl ⟨by rfl, ?hy⟩) (by assumption) ?_
            case hy => (intro w9 hSw; (try dsimp only at hSw); go_simp; try with_reducible rfl)
            try simp only [Act.put, List.setIfInBounds_toArray, List.set_cons_zero, List.set_cons_succ]
            refine wpAnyH_done (by kernel_rfl) ?_ _
            try simp only [Act.put, List.setIfInBounds_toArray, List.set_cons_zero, List.set_cons_succ]
            generalize W1.drew = W2 at HT3 HL3 ⊢
            clear cx cy hHeld
            go_wp2_with fail
            go_roundw
            case rel => exact ⟨c, L', HT3.out, HL3.out⟩
            case measure =>
              rw [HME.out, mesT_own HT3.out.own, HK.out]
              simp only [lenV]
              omega
          · have he : (((c x : Nat) : Int) == ((c y : Nat) : Int)) = false := by simp; omega
            have HT3 : Hid (TgI w (w.heap.size + 1) q m j P c (L' ++ [(x, y)]) (.slice (some ⟨g, 0, none⟩) n cap) W1.drew) := HT1.out.drew
            have HL3 : Hid (LB W1.drew w.heap.size q (some ⟨b, off, none⟩) q ca (some ⟨b', off', none⟩) q cb) := HL1.out
            have HNE : Hid (c x ≠ c y) := e
            clear HT1 HL1 e
            go_wp2_with fail
            refine wp_region_held_drew (S := (fun w' => Below W1.heap.size W1 w')) (by kernel_rfl) ((Below.refl _ _).drew) (fun hHeld => ?_)
            refine wpAnyH_take (i := 0) (oi := { dst := some 46, op := Go.Op.move (Go.Operand.tmp 5), type := 22, pos := "classes.go:23", after := #[], guard := none }) (v := ?_) rfl (by kernel_rfl) (by kernel_rfl) (by kernel_rfl) (fun _ _ _ h => h) (Or.inl ⟨by rfl, ?hy⟩) (by assumption) ?_
            case hy => (intro w9 hSw; (try dsimp only at hSw); go_simp; try with_reducible rfl)
            try simp only [Act.put, List.setIfInBounds_toArray, List.set_cons_zero, List.set_cons_succ]
            refine wpAnyH_take (i := 1) (oi := { dst := some 47, op := Go.Op.move (Go.Operand.tmp 9), type := 3, pos := "classes.go:23", after := #[], guard := none }) (v := ?_) rfl (by kernel_rfl) (by kernel_rfl) (by kernel_rfl) (fun _ _ _ h => h) (Or.inl ⟨by rfl, ?hy⟩) (by assumption) ?_
            case hy => (intro w9 hSw; (try dsimp only at hSw); go_simp; try with_reducible rfl)
            try simp only [Act.put, List.setIfInBounds_toArray, List.set_cons_zero, List.set_cons_succ]
            refine wpAnyH_take (i := 2) (oi := { dst := some 48, op := Go.Op.indexAddr 22 (Go.Operand.tmp 46) (Go.Operand.tmp 47), type := 0, pos := "classes.go:23", after := #[{ on := 0, ground := Go.Ground.data }, { on := 1, ground := Go.Ground.data }], guard := none }) (v := ?_) rfl (by kernel_rfl) (by kernel_rfl) (by kernel_rfl) (fun _ _ _ h => h) (Or.inl ⟨by rfl, ?hy⟩) (by assumption) ?_
            case hy => (intro w9 hSw; (try dsimp only at hSw); go_simp; try with_reducible rfl)
            try simp only [Act.put, List.setIfInBounds_toArray, List.set_cons_zero, List.set_cons_succ]
            refine wpAnyH_take (i := 3) (oi := { dst := some 49, op := Go.Op.load 3 (Go.Operand.tmp 48), type := 3, pos := "classes.go:23", after := #[{ on := 2, ground := Go.Ground.data }], guard := none }) (v := ?_) rfl (by kernel_rfl) (by kernel_rfl) (by kernel_rfl) (fun _ _ _ h => h) (Or.inl ⟨by rfl, ?hy⟩) (by assumption) ?_
            case hy => (intro w9 hSw; (try dsimp only at hSw); go_simp; try with_reducible rfl)
            try simp only [Act.put, List.setIfInBounds_toArray, List.set_cons_zero, List.set_cons_succ]
            refine wpAnyH_take (i := 4) (oi := { dst := some 50, op := Go.Op.move (Go.Operand.tmp 5), type := 22, pos := "classes.go:23", after := #[], guard := none }) (v := ?_) rfl (by kernel_rfl) (by kernel_rfl) (by kernel_rfl) (fun _ _ _ h => h) (Or.inl ⟨by rfl, ?hy⟩) (by assumption) ?_
            case hy => (intro w9 hSw; (try dsimp only at hSw); go_simp; try with_reducible rfl)
            try simp only [Act.put, List.setIfInBounds_toArray, List.set_cons_zero, List.set_cons_succ]
            refine wpAnyH_take (i := 5) (oi := { dst := some 51, op := Go.Op.move (Go.Operand.tmp 10), type := 3, pos := "classes.go:23", after := #[], guard := none }) (v := ?_) rfl (by kernel_rfl) (by kernel_rfl) (by kernel_rfl) (fun _ _ _ h => h) (Or.inl ⟨by rfl, ?hy⟩) (by assumption) ?_
            case hy => (intro w9 hSw; (try dsimp only at hSw); go_simp; try with_reducible rfl)
            try simp only [Act.put, List.setIfInBounds_toArray, List.set_cons_zero, List.set_cons_succ]
            refine wpAnyH_take (i := 6) (oi := { dst := some 52, op := Go.Op.indexAddr 22 (Go.Operand.tmp 50) (Go.Operand.tmp 51), type := 0, pos := "classes.go:23", after := #[{ on := 4, ground := Go.Ground.data }, { on := 5, ground := Go.Ground.data }], guard := none }) (v := ?_) rfl (by kernel_rfl) (by kernel_rfl) (by kernel_rfl) (fun _ _ _ h => h) (Or.inl ⟨by rfl, ?hy⟩) (by assumption) ?_
            case hy => (intro w9 hSw; (try dsimp only at hSw); go_simp; try with_reducible rfl)
            try simp only [Act.put, List.setIfInBounds_toArray, List.set_cons_zero, List.set_cons_succ]
            refine wpAnyH_take (i := 7) (oi := { dst := some 53, op := Go.Op.load 3 (Go.Operand.tmp 52), type := 3, pos := "classes.go:23", after := #[{ on := 6, ground := Go.Ground.data }], guard := none }) (v := ?_) rfl (by kernel_rfl) (by kernel_rfl) (by kernel_rfl) (fun _ _ _ h => h) (Or.inl ⟨by rfl, ?hy⟩) (by assumption) ?_
            case hy => (intro w9 hSw; (try dsimp only at hSw); go_simp; try with_reducible rfl)
            try simp only [Act.put, List.setIfInBounds_toArray, List.set_cons_zero, List.set_cons_succ]
            refine wpAnyH_take (i := 8) (oi := { dst := some 54, op := Go.Op.binOp Go.BinOp.eql 3 (Go.Operand.tmp 49) (Go.Operand.tmp 53) 3, type := 4, pos := "classes.go:23", after := #[{ on := 3, ground := Go.Ground.data }, { on := 7, ground := Go.Ground.data }], guard := none }) (v := ?_) rfl (by kernel_rfl) (by kernel_rfl) (by kernel_rfl) (fun _ _ _ h => h) (Or.inl ⟨by rfl, ?hy⟩) (by assumption) ?_
            case hy => (intro w9 hSw; (try dsimp only at hSw); go_simp; try with_reducible rfl)
            try simp only [Act.put, List.setIfInBounds_toArray, List.set_cons_zero, List.set_cons_succ]
            refine wpAnyH_done (by kernel_rfl) ?_ _
            try simp only [Act.put, List.setIfInBounds_toArray, List.set_cons_zero, List.set_cons_succ]
            generalize W1.drew = W2 at HT3 HL3 ⊢
            clear cx cy hHeld
            have HO2 : Hid (Own W2.drew (w.heap.size + 1) q c) := HT3.out.own
            have cx2 := (HO2.out x hin.1).1
            have cy2 := (HO2.out y hin.2).1
            go_wp2_with fail
            go_cut [108, 109] from 27 (fun s t wx => s = undef ∧ t = undef ∧ Hid (Own wx (w.heap.size + 1) q (rel1 c (c x) (c y))) ∧ Hid (W2.drew.grownBy wx (some (w.heap.size + 1))))
            case first =>
              refine wp_region_held_drew (S := (fun _ => True)) (by kernel_rfl) (trivial) (fun hHeld => ?_)
              generalize hwd : W2.drew = wd
              rw [hwd] at HO2 cx2 cy2
              refine wpAnyH_take (i := 0) (oi := { dst := some 55, op := Go.Op.move (Go.Operand.tmp 5), type := 22, pos := "classes.go:26", after := #[], guard := none }) (v := ?_) rfl (by kernel_rfl) (by kernel_rfl) (by kernel_rfl) (fun _ _ _ h => h) (Or.inl ⟨by rfl, ?hy⟩) (by assumption) ?_
              case hy => (intro w9 hSw; (try dsimp only at hSw); go_simp; try with_reducible rfl)
              try simp only [Act.put, List.setIfInBounds_toArray, List.set_cons_zero, List.set_cons_succ]
              refine wpAnyH_take (i := 1) (oi := { dst := some 56, op := Go.Op.move (Go.Operand.tmp 5), type := 22, pos := "classes.go:26", after := #[], guard := none }) (v := ?_) rfl (by kernel_rfl) (by kernel_rfl) (by kernel_rfl) (fun _ _ _ h => h) (Or.inl ⟨by rfl, ?hy⟩) (by assumption) ?_
              case hy => (intro w9 hSw; (try dsimp only at hSw); go_simp; try with_reducible rfl)
              try simp only [Act.put, List.setIfInBounds_toArray, List.set_cons_zero, List.set_cons_succ]
              refine wpAnyH_take (i := 2) (oi := { dst := some 57, op := Go.Op.move (Go.Operand.tmp 9), type := 3, pos := "classes.go:26", after := #[], guard := none }) (v := ?_) rfl (by kernel_rfl) (by kernel_rfl) (by kernel_rfl) (fun _ _ _ h => h) (Or.inl ⟨by rfl, ?hy⟩) (by assumption) ?_
              case hy => (intro w9 hSw; (try dsimp only at hSw); go_simp; try with_reducible rfl)
              try simp only [Act.put, List.setIfInBounds_toArray, List.set_cons_zero, List.set_cons_succ]
              refine wpAnyH_take (i := 3) (oi := { dst := some 58, op := Go.Op.indexAddr 22 (Go.Operand.tmp 56) (Go.Operand.tmp 57), type := 0, pos := "classes.go:26", after := #[{ on := 1, ground := Go.Ground.data }, { on := 2, ground := Go.Ground.data }], guard := none }) (v := ?_) rfl (by kernel_rfl) (by kernel_rfl) (by kernel_rfl) (fun _ _ _ h => h) (Or.inl ⟨by rfl, ?hy⟩) (by assumption) ?_
              case hy => (intro w9 hSw; (try dsimp only at hSw); go_simp; try with_reducible rfl)
              try simp only [Act.put, List.setIfInBounds_toArray, List.set_cons_zero, List.set_cons_succ]
              refine wpAnyH_take (i := 5) (oi := { dst := some 60, op := Go.Op.move (Go.Operand.tmp 5), type := 22, pos := "classes.go:26", after := #[], guard := none }) (v := ?_) rfl (by kernel_rfl) (by kernel_rfl) (by kernel_rfl) (fun _ _ _ h => h) (Or.inl ⟨by rfl, ?hy⟩) (by assumption) ?_
              case hy => (intro w9 hSw; (try dsimp only at hSw); go_simp; try with_reducible rfl)
              try simp only [Act.put, List.setIfInBounds_toArray, List.set_cons_zero, List.set_cons_succ]
              refine wpAnyH_take (i := 6) (oi := { dst := some 61, op := Go.Op.move (Go.Operand.tmp 10), type := 3, pos := "classes.go:26", after := #[], guard := none }) (v := ?_) rfl (by kernel_rfl) (by kernel_rfl) (by kernel_rfl) (fun _ _ _ h => h) (Or.inl ⟨by rfl, ?hy⟩) (by assumption) ?_
              case hy => (intro w9 hSw; (try dsimp only at hSw); go_simp; try with_reducible rfl)
              try simp only [Act.put, List.setIfInBounds_toArray, List.set_cons_zero, List.set_cons_succ]
              refine wpAnyH_take (i := 7) (oi := { dst := some 62, op := Go.Op.indexAddr 22 (Go.Operand.tmp 60) (Go.Operand.tmp 61), type := 0, pos := "classes.go:26", after := #[{ on := 5, ground := Go.Ground.data }, { on := 6, ground := Go.Ground.data }], guard := none }) (v := ?_) rfl (by kernel_rfl) (by kernel_rfl) (by kernel_rfl) (fun _ _ _ h => h) (Or.inl ⟨by rfl, ?hy⟩) (by assumption) ?_
              case hy => (intro w9 hSw; (try dsimp only at hSw); go_simp; try with_reducible rfl)
              try simp only [Act.put, List.setIfInBounds_toArray, List.set_cons_zero, List.set_cons_succ]
              refine wpAnyH_ready (rs := [4, 8]) (by kernel_rfl) (by simp) ?_
              refine AllReadyH.cons (o := { dst := some 59, op := Go.Op.load 3 (Go.Operand.tmp 58), type := 3, pos := "classes.go:26", after := #[{ on := 3, ground := Go.Ground.data }], guard := none }) rfl (fun K hK => ?_) ?_
              · go_simp
                skip
                refine hK.out _ _ ?_ (fun hHeld => ?_)
                · trivial
                clear hK K
                try simp only [Act.put, List.setIfInBounds_toArray, List.set_cons_zero, List.set_cons_succ]
                refine wpAnyH_ready (rs := [8]) (by kernel_rfl) (by simp) ?_
                refine AllReadyH.cons (o := { dst := some 63, op := Go.Op.load 3 (Go.Operand.tmp 62), type := 3, pos := "classes.go:26", after := #[{ on := 7, ground := Go.Ground.data }], guard := none }) rfl (fun K hK => ?_) AllReadyH.nil
                go_simp
                skip
                refine hK.out _ _ ?_ (fun hHeld => ?_)
                · trivial
                clear hK K
                try simp only [Act.put, List.setIfInBounds_toArray, List.set_cons_zero, List.set_cons_succ]
                refine wpAnyH_ready (rs := [9]) (by kernel_rfl) (by simp) ?_
                refine AllReadyH.cons (o := { dst := some 64, op := Go.Op.call { callee := Go.Callee.value (Go.Operand.func 83), args := #[Go.Operand.tmp 55, Go.Operand.tmp 59, Go.Operand.tmp 63], argTypes := #[22, 3, 3] }, type := 0, pos := "classes.go:26", after := #[{ on := 0, ground := Go.Ground.data }, { on := 4, ground := Go.Ground.data }, { on := 8, ground := Go.Ground.data }], guard := none }) rfl (fun K hK => ?_) AllReadyH.nil
                go_simp
                refine (merge_any q (w.heap.size + 1) q c (c x) (c y) _ h40 HO2.out).mono ?_
                rintro e w3 ⟨rfl, ho3, hg3⟩
                refine hK.out _ _ ?_ (fun hHeld => ?_)
                · trivial
                clear hK K
                try simp only [Act.put, List.setIfInBounds_toArray, List.set_cons_zero, List.set_cons_succ]
                refine wpAnyH_done (by kernel_rfl) ?_ _
                try simp only [Act.put, List.setIfInBounds_toArray, List.set_cons_zero, List.set_cons_succ]
                go_wp2_with fail
                go_meet
                exact ⟨rfl, rfl, ho3, hid_eq hwd hg3⟩
              refine AllReadyH.cons (o := { dst := some 63, op := Go.Op.load 3 (Go.Operand.tmp 62), type := 3, pos := "classes.go:26", after := #[{ on := 7, ground := Go.Ground.data }], guard := none }) rfl (fun K hK => ?_) ?_
              · go_simp
                skip
                refine hK.out _ _ ?_ (fun hHeld => ?_)
                · trivial
                clear hK K
                try simp only [Act.put, List.setIfInBounds_toArray, List.set_cons_zero, List.set_cons_succ]
                refine wpAnyH_ready (rs := [4]) (by kernel_rfl) (by simp) ?_
                refine AllReadyH.cons (o := { dst := some 59, op := Go.Op.load 3 (Go.Operand.tmp 58), type := 3, pos := "classes.go:26", after := #[{ on := 3, ground := Go.Ground.data }], guard := none }) rfl (fun K hK => ?_) AllReadyH.nil
                go_simp
                skip
                refine hK.out _ _ ?_ (fun hHeld => ?_)
                · trivial
                clear hK K
                try simp only [Act.put, List.setIfInBounds_toArray, List.set_cons_zero, List.set_cons_succ]
                refine wpAnyH_ready (rs := [9]) (by kernel_rfl) (by simp) ?_
                refine AllReadyH.cons (o := { dst := some 64, op := Go.Op.call { callee := Go.Callee.value (Go.Operand.func 83), args := #[Go.Operand.tmp 55, Go.Operand.tmp 59, Go.Operand.tmp 63], argTypes := #[22, 3, 3] }, type := 0, pos := "classes.go:26", after := #[{ on := 0, ground := Go.Ground.data }, { on := 4, ground := Go.Ground.data }, { on := 8, ground := Go.Ground.data }], guard := none }) rfl (fun K hK => ?_) AllReadyH.nil
                go_simp
                refine (merge_any q (w.heap.size + 1) q c (c x) (c y) _ h40 HO2.out).mono ?_
                rintro e w3 ⟨rfl, ho3, hg3⟩
                refine hK.out _ _ ?_ (fun hHeld => ?_)
                · trivial
                clear hK K
                try simp only [Act.put, List.setIfInBounds_toArray, List.set_cons_zero, List.set_cons_succ]
                refine wpAnyH_done (by kernel_rfl) ?_ _
                try simp only [Act.put, List.setIfInBounds_toArray, List.set_cons_zero, List.set_cons_succ]
                go_wp2_with fail
                go_meet
                exact ⟨rfl, rfl, ho3, hid_eq hwd hg3⟩
              exact AllReadyH.nil
            case rest =>
              obtain ⟨rfl, rfl, HO3, HG3⟩ := hcut
              have HB3 : Hid (Below w.heap.size w wc) := Below.grown HT3.out.bel.drew HG3.out HT3.out.bel.size (fun k e => by cases e; exact Nat.le_add_right _ _)
              have HL4 : Hid (LB wc w.heap.size q (some ⟨b, off, none⟩) q ca (some ⟨b', off', none⟩) q cb) := LB.far (w := W2.drew) HL3.out HG3.out (by simp)
              have HR0 : Hid (wc.ownsRow (w.heap.size + 2) 94 2 (.slice (some ⟨g, 0, none⟩) k cap) (L' ++ newP m j x y 0).length (pairVals (L' ++ newP m j x y 0))) := by
                have hr := owns_far (w := W2.drew) (HT3.out.pop HNK.out).drew HG3.out (fun k e => by cases e; omega)
                rw [newP, List.append_nil, HK.out]
                rw [HK.out] at hr
                exact hr
              have HIJ : Hid (TInv q m j P (rel1 c (c x) (c y)) (L' ++ newP m j x y q)) := HT3.out.inv.join HM.out
              have HLW : Hid (∀ u, u < q → rel1 c (c x) (c y) u < q) := rel1_low HT3.out.low (HT3.out.low y hin.2)
              have HCN : Hid (clsN (rel1 c (c x) (c y)) q < clsN c q) := clsN_less hin.1 hin.2 HNE.out
              have HLN : Hid (∀ z, (L' ++ newP m j x y z).length = L'.length + 2 * z) := fun z => by rw [List.length_append, newP_len]
              have HS5 : Hid (clsN c q * (2 * q) + (L'.length + 1) ≤ 5000) := by
                have := HT3.out.sml
                rw [List.length_append, List.length_singleton] at this
                exact this
              have HSZ : Hid (w.heap.size + 2 ≤ wc.heap.size) := by
                have := HO3.out.lt (k := x) hin.1
                show _ ≤ _
                omega
              have c0 := HL4.out.1
              clear HT3 HL3 HG3 HO2 cx2 cy2 HNE
              go_wp2_with fail
              go_loopw [67, 7] (fun z v wx => ∃ z' : Nat, z' ≤ q ∧ z = .int .i64 z' ∧ Hid (wx.ownsRow (w.heap.size + 2) 94 2 v (L' ++ newP m j x y z').length (pairVals (L' ++ newP m j x y z'))) ∧ Hid (Below (w.heap.size + 2) wc wx)) (fun z _ _ => q - (intOf z).toNat)
              case atStart => exact ⟨0, Nat.zero_le _, rfl, HR0.out, Below.refl _ _⟩
              case round =>
                obtain ⟨z, hz, rfl, HRW, HBz⟩ := hrel
                clear HR0 c0
                by_cases hlt : z < q
                · have hzq : (z : Int) < (q : Int) := by omega
                  have hbel : ∀ w', Below (w.heap.size + 2) wr w' → Below w.heap.size w w' := fun w' h => HB3.out.trans ((HBz.out.trans h).mono (by omega))
                  have l1 : ∀ w', Below (w.heap.size + 2) wr w' → w'.cell? ⟨w.heap.size, 1, none⟩ = some (.slice (some ⟨b, off, none⟩) q ca) := fun w' h => (HL4.out.keep (HBz.out.trans h) (by omega)).2.1
                  have l2 : ∀ w', Below (w.heap.size + 2) wr w' → w'.cell? ⟨w.heap.size, 2, none⟩ = some (.slice (some ⟨b', off', none⟩) q cb) := fun w' h => (HL4.out.keep (HBz.out.trans h) (by omega)).2.2
                  have t1 : ∀ w', Below (w.heap.size + 2) wr w' → w'.cell? ⟨b, off + x, none⟩ = some (.slice (some ⟨(R x).1, (R x).2.1, none⟩) q (R x).2.2) := fun w' h => ((HTB.out w' (hbel w' h)).1 x hin.1).1
                  have t2 : ∀ w', Below (w.heap.size + 2) wr w' → w'.cell? ⟨b, off + y, none⟩ = some (.slice (some ⟨(R y).1, (R y).2.1, none⟩) q (R y).2.2) := fun w' h => ((HTB.out w' (hbel w' h)).1 y hin.2).1
                  have t3 : ∀ w', Below (w.heap.size + 2) wr w' → w'.cell? ⟨b', off' + x, none⟩ = some (.slice (some ⟨(R' x).1, (R' x).2.1, none⟩) q (R' x).2.2) := fun w' h => ((HTB.out w' (hbel w' h)).2 x hin.1).1
                  have t4 : ∀ w', Below (w.heap.size + 2) wr w' → w'.cell? ⟨b', off' + y, none⟩ = some (.slice (some ⟨(R' y).1, (R' y).2.1, none⟩) q (R' y).2.2) := fun w' h => ((HTB.out w' (hbel w' h)).2 y hin.2).1
                  have t5 : ∀ w', Below (w.heap.size + 2) wr w' → w'.cell? ⟨(R x).1, (R x).2.1 + z, none⟩ = some (.int .i64 (m x z : Nat)) := fun w' h => ((HTB.out w' (hbel w' h)).1 x hin.1).2 z hlt
                  have t6 : ∀ w', Below (w.heap.size + 2) wr w' → w'.cell? ⟨(R y).1, (R y).2.1 + z, none⟩ = some (.int .i64 (m y z : Nat)) := fun w' h => ((HTB.out w' (hbel w' h)).1 y hin.2).2 z hlt
                  have t7 : ∀ w', Below (w.heap.size + 2) wr w' → w'.cell? ⟨(R' x).1, (R' x).2.1 + z, none⟩ = some (.int .i64 (j x z : Nat)) := fun w' h => ((HTB.out w' (hbel w' h)).2 x hin.1).2 z hlt
                  have t8 : ∀ w', Below (w.heap.size + 2) wr w' → w'.cell? ⟨(R' y).1, (R' y).2.1 + z, none⟩ = some (.int .i64 (j y z : Nat)) := fun w' h => ((HTB.out w' (hbel w' h)).2 y hin.2).2 z hlt
                  have HSM : Hid ((L' ++ newP m j x y z).length + [(m x z, m y z), (j x z, j y z)].length ≤ 100000) := by
                    have := HLN.out z
                    have h5 := HS5.out
                    show _ ≤ _
                    rw [this]
                    simp only [List.length_cons, List.length_nil]
                    omega
                  have HS2 : Hid (w.heap.size + 2 ≤ wr.heap.size) := Nat.le_trans HSZ.out HBz.out.size
                  have HNX : Hid (L' ++ newP m j x y (z + 1) = L' ++ newP m j x y z ++ [(m x z, m y z), (j x z, j y z)]) := by
                    show _ = _
                    rw [newP, List.append_assoc]
                  clear hbel
                  go_wp2_with fail
                  refine wp_region_held_drew (S := (fun w' => Below (w.heap.size + 2) wr w')) (by kernel_rfl) ((Below.refl _ _).drew) (fun hHeld => ?_)
                  generalize hwd : wr.drew = wd at hHeld ⊢
                  have HRd := owns_dr HRW hwd
                  clear hwd
                  refine wpAnyH_take (i := 0) (oi := { dst := some 70, op := Go.Op.move (Go.Operand.tmp 7), type := 92, pos := "classes.go:28", after := #[], guard := none }) (v := ?_) rfl (by kernel_rfl) (by kernel_rfl) (by kernel_rfl) (fun _ _ _ h => h) (Or.inl ⟨by rfl, ?hy⟩) (by assumption) ?_
                  case hy => (intro w9 hSw; (try dsimp only at hSw); go_simp; try with_reducible rfl)
                  try simp only [Act.put, List.setIfInBounds_toArray, List.set_cons_zero, List.set_cons_succ]
                  refine wpAnyH_take (i := 1) (oi := { dst := some 71, op := Go.Op.fieldAddr 27 (Go.Operand.tmp 2) 1, type := 0, pos := "classes.go:28", after := #[], guard := none }) (v := ?_) rfl (by kernel_rfl) (by kernel_rfl) (by kernel_rfl) (fun _ _ _ h => h) (Or.inl ⟨by rfl, ?hy⟩) (by assumption) ?_
                  case hy => (intro w9 hSw; (try dsimp only at hSw); go_simp; try with_reducible rfl)
                  try simp only [Act.put, List.setIfInBounds_toArray, List.set_cons_zero, List.set_cons_succ]
                  refine wpAnyH_take (i := 2) (oi := { dst := some 72, op := Go.Op.load 25 (Go.Operand.tmp 71), type := 25, pos := "classes.go:28", after := #[{ on := 1, ground := Go.Ground.data }], guard := none }) (v := ?_) rfl (by kernel_rfl) (by kernel_rfl) (by kernel_rfl) (fun _ _ _ h => h) (Or.inl ⟨by rfl, ?hy⟩) (by assumption) ?_
                  case hy => (intro w9 hSw; (try dsimp only at hSw); go_simp; try with_reducible rfl)
                  try simp only [Act.put, List.setIfInBounds_toArray, List.set_cons_zero, List.set_cons_succ]
                  refine wpAnyH_take (i := 3) (oi := { dst := some 73, op := Go.Op.move (Go.Operand.tmp 9), type := 3, pos := "classes.go:28", after := #[], guard := none }) (v := ?_) rfl (by kernel_rfl) (by kernel_rfl) (by kernel_rfl) (fun _ _ _ h => h) (Or.inl ⟨by rfl, ?hy⟩) (by assumption) ?_
                  case hy => (intro w9 hSw; (try dsimp only at hSw); go_simp; try with_reducible rfl)
                  try simp only [Act.put, List.setIfInBounds_toArray, List.set_cons_zero, List.set_cons_succ]
                  refine wpAnyH_take (i := 4) (oi := { dst := some 74, op := Go.Op.indexAddr 25 (Go.Operand.tmp 72) (Go.Operand.tmp 73), type := 0, pos := "classes.go:28", after := #[{ on := 2, ground := Go.Ground.data }, { on := 3, ground := Go.Ground.data }], guard := none }) (v := ?_) rfl (by kernel_rfl) (by kernel_rfl) (by kernel_rfl) (fun _ _ _ h => h) (Or.inl ⟨by rfl, ?hy⟩) (by assumption) ?_
                  case hy => (intro w9 hSw; (try dsimp only at hSw); go_simp; try with_reducible rfl)
                  try simp only [Act.put, List.setIfInBounds_toArray, List.set_cons_zero, List.set_cons_succ]
                  refine wpAnyH_take (i := 5) (oi := { dst := some 75, op := Go.Op.load 22 (Go.Operand.tmp 74), type := 22, pos := "classes.go:28", after := #[{ on := 4, ground := Go.Ground.data }], guard := none }) (v := ?_) rfl (by kernel_rfl) (by kernel_rfl) (by kernel_rfl) (fun _ _ _ h => h) (Or.inl ⟨by rfl, ?hy⟩) (by assumption) ?_
                  case hy => (intro w9 hSw; (try dsimp only at hSw); go_simp; try with_reducible rfl)
                  try simp only [Act.put, List.setIfInBounds_toArray, List.set_cons_zero, List.set_cons_succ]
                  refine wpAnyH_take (i := 6) (oi := { dst := some 76, op := Go.Op.move (Go.Operand.tmp 11), type := 3, pos := "classes.go:28", after := #[], guard := none }) (v := ?_) rfl (by kernel_rfl) (by kernel_rfl) (by kernel_rfl) (fun _ _ _ h => h) (Or.inl ⟨by rfl, ?hy⟩) (by assumption) ?_
                  case hy => (intro w9 hSw; (try dsimp only at hSw); go_simp; try with_reducible rfl)
                  try simp only [Act.put, List.setIfInBounds_toArray, List.set_cons_zero, List.set_cons_succ]
                  refine wpAnyH_take (i := 7) (oi := { dst := some 77, op := Go.Op.indexAddr 22 (Go.Operand.tmp 75) (Go.Operand.tmp 76), type := 0, pos := "classes.go:28", after := #[{ on := 5, ground := Go.Ground.data }, { on := 6, ground := Go.Ground.data }], guard := none }) (v := ?_) rfl (by kernel_rfl) (by kernel_rfl) (by kernel_rfl) (fun _ _ _ h => h) (Or.inl ⟨by rfl, ?hy⟩) (by assumption) ?_
                  case hy => (intro w9 hSw; (try dsimp only at hSw); go_simp; try with_reducible rfl)
                  try simp only [Act.put, List.setIfInBounds_toArray, List.set_cons_zero, List.set_cons_succ]
                  refine wpAnyH_take (i := 8) (oi := { dst := some 78, op := Go.Op.load 3 (Go.Operand.tmp 77), type := 3, pos := "classes.go:28", after := #[{ on := 7, ground := Go.Ground.data }], guard := none }) (v := ?_) rfl (by kernel_rfl) (by kernel_rfl) (by kernel_rfl) (fun _ _ _ h => h) (Or.inl ⟨by rfl, ?hy⟩) (by assumption) ?_
                  case hy => (intro w9 hSw; (try dsimp only at hSw); go_simp; try with_reducible rfl)
                  try simp only [Act.put, List.setIfInBounds_toArray, List.set_cons_zero, List.set_cons_succ]
                  refine wpAnyH_take (i := 9) (oi := { dst := some 79, op := Go.Op.fieldAddr 27 (Go.Operand.tmp 2) 1, type := 0, pos := "classes.go:28", after := #[], guard := none }) (v := ?_) rfl (by kernel_rfl) (by kernel_rfl) (by kernel_rfl) (fun _ _ _ h => h) (Or.inl ⟨by rfl, ?hy⟩) (by assumption) ?_
                  case hy => (intro w9 hSw; (try dsimp only at hSw); go_simp; try with_reducible rfl)
                  try simp only [Act.put, List.setIfInBounds_toArray, List.set_cons_zero, List.set_cons_succ]
                  refine wpAnyH_take (i := 10) (oi := { dst := some 80, op := Go.Op.load 25 (Go.Operand.tmp 79), type := 25, pos := "classes.go:28", after := #[{ on := 9, ground := Go.Ground.data }], guard := none }) (v := ?_) rfl (by kernel_rfl) (by kernel_rfl) (by kernel_rfl) (fun _ _ _ h => h) (Or.inl ⟨by rfl, ?hy⟩) (by assumption) ?_
                  case hy => (intro w9 hSw; (try dsimp only at hSw); go_simp; try with_reducible rfl)
                  try simp only [Act.put, List.setIfInBounds_toArray, List.set_cons_zero, List.set_cons_succ]
                  refine wpAnyH_take (i := 11) (oi := { dst := some 81, op := Go.Op.move (Go.Operand.tmp 10), type := 3, pos := "classes.go:28", after := #[], guard := none }) (v := ?_) rfl (by kernel_rfl) (by kernel_rfl) (by kernel_rfl) (fun _ _ _ h => h) (Or.inl ⟨by rfl, ?hy⟩) (by assumption) ?_
                  case hy => (intro w9 hSw; (try dsimp only at hSw); go_simp; try with_reducible rfl)
                  try simp only [Act.put, List.setIfInBounds_toArray, List.set_cons_zero, List.set_cons_succ]
                  refine wpAnyH_take (i := 12) (oi := { dst := some 82, op := Go.Op.indexAddr 25 (Go.Operand.tmp 80) (Go.Operand.tmp 81), type := 0, pos := "classes.go:28", after := #[{ on := 10, ground := Go.Ground.data }, { on := 11, ground := Go.Ground.data }], guard := none }) (v := ?_) rfl (by kernel_rfl) (by kernel_rfl) (by kernel_rfl) (fun _ _ _ h => h) (Or.inl ⟨by rfl, ?hy⟩) (by assumption) ?_
                  case hy => (intro w9 hSw; (try dsimp only at hSw); go_simp; try with_reducible rfl)
                  try simp only [Act.put, List.setIfInBounds_toArray, List.set_cons_zero, List.set_cons_succ]
                  refine wpAnyH_take (i := 13) (oi := { dst := some 83, op := Go.Op.load 22 (Go.Operand.tmp 82), type := 22, pos := "classes.go:28", after := #[{ on := 12, ground := Go.Ground.data }], guard := none }) (v := ?_) rfl (by kernel_rfl) (by kernel_rfl) (by kernel_rfl) (fun _ _ _ h => h) (Or.inl ⟨by rfl, ?hy⟩) (by assumption) ?_
                  case hy => (intro w9 hSw; (try dsimp only at hSw); go_simp; try with_reducible rfl)
                  try simp only [Act.put, List.setIfInBounds_toArray, List.set_cons_zero, List.set_cons_succ]
                  refine wpAnyH_take (i := 14) (oi := { dst := some 84, op := Go.Op.move (Go.Operand.tmp 11), type := 3, pos := "classes.go:28", after := #[], guard := none }) (v := ?_) rfl (by kernel_rfl) (by kernel_rfl) (by kernel_rfl) (fun _ _ _ h => h) (Or.inl ⟨by rfl, ?hy⟩) (by assumption) ?_
                  case hy => (intro w9 hSw; (try dsimp only at hSw); go_simp; try with_reducible rfl)
                  try simp only [Act.put, List.setIfInBounds_toArray, List.set_cons_zero, List.set_cons_succ]
                  refine wpAnyH_take (i := 15) (oi := { dst := some 85, op := Go.Op.indexAddr 22 (Go.Operand.tmp 83) (Go.Operand.tmp 84), type := 0, pos := "classes.go:28", after := #[{ on := 13, ground := Go.Ground.data }, { on := 14, ground := Go.Ground.data }], guard := none }) (v := ?_) rfl (by kernel_rfl) (by kernel_rfl) (by kernel_rfl) (fun _ _ _ h => h) (Or.inl ⟨by rfl, ?hy⟩) (by assumption) ?_
                  case hy => (intro w9 hSw; (try dsimp only at hSw); go_simp; try with_reducible rfl)
                  try simp only [Act.put, List.setIfInBounds_toArray, List.set_cons_zero, List.set_cons_succ]
                  refine wpAnyH_take (i := 16) (oi := { dst := some 86, op := Go.Op.load 3 (Go.Operand.tmp 85), type := 3, pos := "classes.go:28", after := #[{ on := 15, ground := Go.Ground.data }], guard := none }) (v := ?_) rfl (by kernel_rfl) (by kernel_rfl) (by kernel_rfl) (fun _ _ _ h => h) (Or.inl ⟨by rfl, ?hy⟩) (by assumption) ?_
                  case hy => (intro w9 hSw; (try dsimp only at hSw); go_simp; try with_reducible rfl)
                  try simp only [Act.put, List.setIfInBounds_toArray, List.set_cons_zero, List.set_cons_succ]
                  refine wpAnyH_take (i := 17) (oi := { dst := some 87, op := Go.Op.build 94 #[(0, Go.Operand.tmp 78), (1, Go.Operand.tmp 86)], type := 94, pos := "classes.go:28", after := #[{ on := 8, ground := Go.Ground.data }, { on := 16, ground := Go.Ground.data }], guard := none }) (v := ?_) rfl (by kernel_rfl) (by kernel_rfl) (by kernel_rfl) (fun _ _ _ h => h) (Or.inl ⟨by rfl, ?hy⟩) (by assumption) ?_
                  case hy => (intro w9 hSw; (try dsimp only at hSw); go_simp; try with_reducible rfl)
                  try simp only [Act.put, List.setIfInBounds_toArray, List.set_cons_zero, List.set_cons_succ]
                  refine wpAnyH_take (i := 18) (oi := { dst := some 88, op := Go.Op.fieldAddr 27 (Go.Operand.tmp 2) 2, type := 0, pos := "classes.go:28", after := #[], guard := none }) (v := ?_) rfl (by kernel_rfl) (by kernel_rfl) (by kernel_rfl) (fun _ _ _ h => h) (Or.inl ⟨by rfl, ?hy⟩) (by assumption) ?_
                  case hy => (intro w9 hSw; (try dsimp only at hSw); go_simp; try with_reducible rfl)
                  try simp only [Act.put, List.setIfInBounds_toArray, List.set_cons_zero, List.set_cons_succ]
                  refine wpAnyH_take (i := 19) (oi := { dst := some 89, op := Go.Op.load 25 (Go.Operand.tmp 88), type := 25, pos := "classes.go:28", after := #[{ on := 18, ground := Go.Ground.data }], guard := none }) (v := ?_) rfl (by kernel_rfl) (by kernel_rfl) (by kernel_rfl) (fun _ _ _ h => h) (Or.inl ⟨by rfl, ?hy⟩) (by assumption) ?_
                  case hy => (intro w9 hSw; (try dsimp only at hSw); go_simp; try with_reducible rfl)
                  try simp only [Act.put, List.setIfInBounds_toArray, List.set_cons_zero, List.set_cons_succ]
                  refine wpAnyH_take (i := 20) (oi := { dst := some 90, op := Go.Op.move (Go.Operand.tmp 9), type := 3, pos := "classes.go:28", after := #[], guard := none }) (v := ?_) rfl (by kernel_rfl) (by kernel_rfl) (by kernel_rfl) (fun _ _ _ h => h) (Or.inl ⟨by rfl, ?hy⟩) (by assumption) ?_
                  case hy => (intro w9 hSw; (try dsimp only at hSw); go_simp; try with_reducible rfl)
                  try simp only [Act.put, List.setIfInBounds_toArray, List.set_cons_zero, List.set_cons_succ]
                  refine wpAnyH_take (i := 21) (oi := { dst := some 91, op := Go.Op.indexAddr 25 (Go.Operand.tmp 89) (Go.Operand.tmp 90), type := 0, pos := "classes.go:28", after := #[{ on := 19, ground := Go.Ground.data }, { on := 20, ground := Go.Ground.data }], guard := none }) (v := ?_) rfl (by kernel_rfl) (by kernel_rfl) (by kernel_rfl) (fun _ _ _ h => h) (Or.inl ⟨by rfl, ?hy⟩) (by assumption) ?_
                  case hy => (intro w9 hSw; (try dsimp only at hSw); go_simp; try with_reducible rfl)
                  try simp only [Act.put, List.setIfInBounds_toArray, List.set_cons_zero, List.set_cons_succ]
                  refine wpAnyH_take (i := 22) (oi := { dst := some 92, op := Go.Op.load 22 (Go.Operand.tmp 91), type := 22, pos := "classes.go:28", after := #[{ on := 21, ground := Go.Ground.data }], guard := none }) (v := ?_) rfl (by kernel_rfl) (by kernel_rfl) (by kernel_rfl) (fun _ _ _ h => h) (Or.inl ⟨by rfl, ?hy⟩) (by assumption) ?_
                  case hy => (intro w9 hSw; (try dsimp only at hSw); go_simp; try with_reducible rfl)
                  try simp only [Act.put, List.setIfInBounds_toArray, List.set_cons_zero, List.set_cons_succ]
                  refine wpAnyH_take (i := 23) (oi := { dst := some 93, op := Go.Op.move (Go.Operand.tmp 11), type := 3, pos := "classes.go:28", after := #[], guard := none }) (v := ?_) rfl (by kernel_rfl) (by kernel_rfl) (by kernel_rfl) (fun _ _ _ h => h) (Or.inl ⟨by rfl, ?hy⟩) (by assumption) ?_
                  case hy => (intro w9 hSw; (try dsimp only at hSw); go_simp; try with_reducible rfl)
                  try simp only [Act.put, List.setIfInBounds_toArray, List.set_cons_zero, List.set_cons_succ]
                  refine wpAnyH_take (i := 24) (oi := { dst := some 94, op := Go.Op.indexAddr 22 (Go.Operand.tmp 92) (Go.Operand.tmp 93), type := 0, pos := "classes.go:28", after := #[{ on := 22, ground := Go.Ground.data }, { on := 23, ground := Go.Ground.data }], guard := none }) (v := ?_) rfl (by kernel_rfl) (by kernel_rfl) (by kernel_rfl) (fun _ _ _ h => h) (Or.inl ⟨by rfl, ?hy⟩) (by assumption) ?_
                  case hy => (intro w9 hSw; (try dsimp only at hSw); go_simp; try with_reducible rfl)
                  try simp only [Act.put, List.setIfInBounds_toArray, List.set_cons_zero, List.set_cons_succ]
                  refine wpAnyH_take (i := 25) (oi := { dst := some 95, op := Go.Op.load 3 (Go.Operand.tmp 94), type := 3, pos := "classes.go:28", after := #[{ on := 24, ground := Go.Ground.data }], guard := none }) (v := ?_) rfl (by kernel_rfl) (by kernel_rfl) (by kernel_rfl) (fun _ _ _ h => h) (Or.inl ⟨by rfl, ?hy⟩) (by assumption) ?_
                  case hy => (intro w9 hSw; (try dsimp only at hSw); go_simp; try with_reducible rfl)
                  try simp only [Act.put, List.setIfInBounds_toArray, List.set_cons_zero, List.set_cons_succ]
                  refine wpAnyH_take (i := 26) (oi := { dst := some 96, op := Go.Op.fieldAddr 27 (Go.Operand.tmp 2) 2, type := 0, pos := "classes.go:28", after := #[], guard := none }) (v := ?_) rfl (by kernel_rfl) (by kernel_rfl) (by kernel_rfl) (fun _ _ _ h => h) (Or.inl ⟨by rfl, ?hy⟩) (by assumption) ?_
                  case hy => (intro w9 hSw; (try dsimp only at hSw); go_simp; try with_reducible rfl)
                  try simp only [Act.put, List.setIfInBounds_toArray, List.set_cons_zero, List.set_cons_succ]
                  refine wpAnyH_take (i := 27) (oi := { dst := some 97, op := Go.Op.load 25 (Go.Operand.tmp 96), type := 25, pos := "classes.go:28", after := #[{ on := 26, ground := Go.Ground.data }], guard := none }) (v := ?_) rfl (by kernel_rfl) (by kernel_rfl) (by kernel_rfl) (fun _ _ _ h => h) (Or.inl ⟨by rfl, ?hy⟩) (by assumption) ?_
                  case hy => (intro w9 hSw; (try dsimp only at hSw); go_simp; try with_reducible rfl)
                  try simp only [Act.put, List.setIfInBounds_toArray, List.set_cons_zero, List.set_cons_succ]
                  refine wpAnyH_take (i := 28) (oi := { dst := some 98, op := Go.Op.move (Go.Operand.tmp 10), type := 3, pos := "classes.go:28", after := #[], guard := none }) (v := ?_) rfl (by kernel_rfl) (by kernel_rfl) (by kernel_rfl) (fun _ _ _ h => h) (Or.inl ⟨by rfl, ?hy⟩) (by assumption) ?_
                  case hy => (intro w9 hSw; (try dsimp only at hSw); go_simp; try with_reducible rfl)
                  try simp only [Act.put, List.setIfInBounds_toArray, List.set_cons_zero, List.set_cons_succ]
                  refine wpAnyH_take (i := 29) (oi := { dst := some 99, op := Go.Op.indexAddr 25 (Go.Operand.tmp 97) (Go.Operand.tmp 98), type := 0, pos := "classes.go:28", after := #[{ on := 27, ground := Go.Ground.data }, { on := 28, ground := Go.Ground.data }], guard := none }) (v := ?_) rfl (by kernel_rfl) (by kernel_rfl) (by kernel_rfl) (fun _ _ _ h => h) (Or.inl ⟨by rfl, ?hy⟩) (by assumption) ?_
                  case hy => (intro w9 hSw; (try dsimp only at hSw); go_simp; try with_reducible rfl)
                  try simp only [Act.put, List.setIfInBounds_toArray, List.set_cons_zero, List.set_cons_succ]
                  refine wpAnyH_take (i := 30) (oi := { dst := some 100, op := Go.Op.load 22 (Go.Operand.tmp 99), type := 22, pos := "classes.go:28", after := #[{ on := 29, ground := Go.Ground.data }], guard := none }) (v := ?_) rfl (by kernel_rfl) (by kernel_rfl) (by kernel_rfl) (fun _ _ _ h => h) (Or.inl ⟨by rfl, ?hy⟩) (by assumption) ?_
                  case hy => (intro w9 hSw; (try dsimp only at hSw); go_simp; try with_reducible rfl)
                  try simp only [Act.put, List.setIfInBounds_toArray, List.set_cons_zero, List.set_cons_succ]
                  refine wpAnyH_take (i := 31) (oi := { dst := some 101, op := Go.Op.move (Go.Operand.tmp 11), type := 3, pos := "classes.go:28", after := #[], guard := none }) (v := ?_) rfl (by kernel_rfl) (by kernel_rfl) (by kernel_rfl) (fun _ _ _ h => h) (Or.inl ⟨by rfl, ?hy⟩) (by assumption) ?_
                  case hy => (intro w9 hSw; (try dsimp only at hSw); go_simp; try with_reducible rfl)
                  try simp only [Act.put, List.setIfInBounds_toArray, List.set_cons_zero, List.set_cons_succ]
                  refine wpAnyH_take (i := 32) (oi := { dst := some 102, op := Go.Op.indexAddr 22 (Go.Operand.tmp 100) (Go.Operand.tmp 101), type := 0, pos := "classes.go:28", after := #[{ on := 30, ground := Go.Ground.data }, { on := 31, ground := Go.Ground.data }], guard := none }) (v := ?_) rfl (by kernel_rfl) (by kernel_rfl) (by kernel_rfl) (fun _ _ _ h => h) (Or.inl ⟨by rfl, ?hy⟩) (by assumption) ?_
                  case hy => (intro w9 hSw; (try dsimp only at hSw); go_simp; try with_reducible rfl)
                  try simp only [Act.put, List.setIfInBounds_toArray, List.set_cons_zero, List.set_cons_succ]
                  refine wpAnyH_take (i := 33) (oi := { dst := some 103, op := Go.Op.load 3 (Go.Operand.tmp 102), type := 3, pos := "classes.go:28", after := #[{ on := 32, ground := Go.Ground.data }], guard := none }) (v := ?_) rfl (by kernel_rfl) (by kernel_rfl) (by kernel_rfl) (fun _ _ _ h => h) (Or.inl ⟨by rfl, ?hy⟩) (by assumption) ?_
                  case hy => (intro w9 hSw; (try dsimp only at hSw); go_simp; try with_reducible rfl)
                  try simp only [Act.put, List.setIfInBounds_toArray, List.set_cons_zero, List.set_cons_succ]
                  refine wpAnyH_take (i := 34) (oi := { dst := some 104, op := Go.Op.build 94 #[(0, Go.Operand.tmp 95), (1, Go.Operand.tmp 103)], type := 94, pos := "classes.go:28", after := #[{ on := 25, ground := Go.Ground.data }, { on := 33, ground := Go.Ground.data }], guard := none }) (v := ?_) rfl (by kernel_rfl) (by kernel_rfl) (by kernel_rfl) (fun _ _ _ h => h) (Or.inl ⟨by rfl, ?hy⟩) (by assumption) ?_
                  case hy => (intro w9 hSw; (try dsimp only at hSw); go_simp; try with_reducible rfl)
                  try simp only [Act.put, List.setIfInBounds_toArray, List.set_cons_zero, List.set_cons_succ]
                  refine wpAnyH_ready (rs := [35]) (by kernel_rfl) (by simp) ?_
                  refine AllReadyH.cons (o := { dst := some 105, op := Go.Op.buildSlice 92 2 #[(0, Go.Operand.tmp 87), (1, Go.Operand.tmp 104)], type := 92, pos := "classes.go:28", after := #[{ on := 17, ground := Go.Ground.data }, { on := 34, ground := Go.Ground.data }], guard := none }) rfl (fun K hK => ?_) AllReadyH.nil
                  go_simp
                  skip
                  refine hK.out _ _ ?_ (fun hHeld => ?_)
                  · exact Below.alloc hHeld (Nat.le_trans HS2.out hHeld.size) _
                  clear hK K
                  try simp only [Act.put, List.setIfInBounds_toArray, List.set_cons_zero, List.set_cons_succ]
                  generalize hwa : World.alloc _ _ = wa8 at hHeld ⊢
                  have HP2 := prow_twoH hwa
                  have HR2 := owns_alH HRd hwa
                  clear hwa
                  refine wpAnyH_ready (rs := [36]) (by kernel_rfl) (by simp) ?_
                  refine AllReadyH.cons (o := { dst := some 106, op := Go.Op.call { callee := Go.Callee.builtin Go.Builtin.append, args := #[Go.Operand.tmp 70, Go.Operand.tmp 105], argTypes := #[92, 92] }, type := 92, pos := "classes.go:28", after := #[{ on := 0, ground := Go.Ground.data }, { on := 35, ground := Go.Ground.data }], guard := none }) rfl (fun K hK => ?_) AllReadyH.nil
                  rw [if_pos (by rfl)]
                  refine wp_app2 _ _ _ rfl _ _ rfl (w.heap.size + 2) HR2.out _ _ _ [(m x z, m y z), (j x z, j y z)] rfl rfl HP2.out HSM.out (Nat.le_trans HS2.out hHeld.size) ?_
                  intro v9 w9 hA9 hg9
                  refine hK.out _ _ ?_ (fun hHeld => ?_)
                  · exact hHeld.grown hg9 (Nat.le_trans HS2.out hHeld.size) (owns_block HR2.out)
                  clear hK K
                  try simp only [Act.put, List.setIfInBounds_toArray, List.set_cons_zero, List.set_cons_succ]
                  refine wpAnyH_take (i := 37) (oi := { dst := some 7, op := Go.Op.assign (Go.Operand.tmp 106), type := 92, pos := "classes.go:28", after := #[{ on := 36, ground := Go.Ground.data }, { on := 36, ground := Go.Ground.chain }, { on := 0, ground := Go.Ground.phase }, { on := 1, ground := Go.Ground.phase }, { on := 2, ground := Go.Ground.phase }, { on := 3, ground := Go.Ground.phase }, { on := 4, ground := Go.Ground.phase }, { on := 5, ground := Go.Ground.phase }, { on := 6, ground := Go.Ground.phase }, { on := 7, ground := Go.Ground.phase }, { on := 8, ground := Go.Ground.phase }, { on := 9, ground := Go.Ground.phase }, { on := 10, ground := Go.Ground.phase }, { on := 11, ground := Go.Ground.phase }, { on := 12, ground := Go.Ground.phase }, { on := 13, ground := Go.Ground.phase }, { on := 14, ground := Go.Ground.phase }, { on := 15, ground := Go.Ground.phase }, { on := 16, ground := Go.Ground.phase }, { on := 17, ground := Go.Ground.phase }, { on := 18, ground := Go.Ground.phase }, { on := 19, ground := Go.Ground.phase }, { on := 20, ground := Go.Ground.phase }, { on := 21, ground := Go.Ground.phase }, { on := 22, ground := Go.Ground.phase }, { on := 23, ground := Go.Ground.phase }, { on := 24, ground := Go.Ground.phase }, { on := 25, ground := Go.Ground.phase }, { on := 26, ground := Go.Ground.phase }, { on := 27, ground := Go.Ground.phase }, { on := 28, ground := Go.Ground.phase }, { on := 29, ground := Go.Ground.phase }, { on := 30, ground := Go.Ground.phase }, { on := 31, ground := Go.Ground.phase }, { on := 32, ground := Go.Ground.phase }, { on := 33, ground := Go.Ground.phase }, { on := 34, ground := Go.Ground.phase }, { on := 35, ground := Go.Ground.phase }, { on := 36, ground := Go.Ground.phase }], guard := none }) (v := ?_) rfl (by kernel_rfl) (by kernel_rfl) (by kernel_rfl) (fun _ _ _ h => h) (Or.inl ⟨by rfl, ?hy⟩) (by assumption) ?_
                  case hy => (intro w9 hSw; (try dsimp only at hSw); go_simp; try with_reducible rfl)
                  try simp only [Act.put, List.setIfInBounds_toArray, List.set_cons_zero, List.set_cons_succ]
                  refine wpAnyH_done (by kernel_rfl) ?_ _
                  try simp only [Act.put, List.setIfInBounds_toArray, List.set_cons_zero, List.set_cons_succ]
                  clear l1 l2 t1 t2 t3 t4 t5 t6 t7 t8
                  go_wp2_with fail
                  go_roundw
                  case rel => exact ⟨z + 1, by omega, by go_num, by rw [HNX.out]; exact hA9, HBz.out.trans hHeld⟩
                  case measure => simp [intOf]; omega
                · obtain rfl : q = z := by omega
                  have HTN := (show Hid (TgI w (w.heap.size + 1) q m j P (rel1 c (c x) (c y)) (L' ++ newP m j x y q) _ wr) from ⟨HIJ.out, HO3.out.keep HBz.out (by omega), HLW.out, HRW.out, HB3.out.trans (HBz.out.mono (by omega)), by rw [HLN.out]; exact less_sml HCN.out HS5.out⟩)
                  have HLN2 : Hid (LB wr w.heap.size q (some ⟨b, off, none⟩) q ca (some ⟨b', off', none⟩) q cb) := HL4.out.keep HBz.out (by omega)
                  clear HIJ HLW HRW HB3 HL4 HBz
                  go_wp2_with fail
                  go_roundw
                  case rel => exact ⟨_, _, HTN.out, HLN2.out⟩
                  case measure =>
                    rw [HME.out, mesT_own HTN.out.own, owns_lenV HTN.out.row, HLN.out]
                    exact less_mes HCN.out
        · obtain rfl : L = [] := List.eq_nil_of_length_eq_zero (by omega)
          have HLC : Hid (LeastC q m j P c) := HT.out.inv.done
          have HOE : Hid (Own wr (w.heap.size + 1) q c) := HT.out.own
          have HBE : Hid (Below w.heap.size w wr) := HT.out.bel
          have HLO : Hid (∀ k, k < q → c k < 40) := fun k hk => Nat.lt_of_lt_of_le (HT.out.low k hk) h40
          obtain ⟨av, cv, rfl⟩ := owns_none HT.out.row
          clear HT HL hL
          go_wp2_with fail
          refine (numbered_any q _ q c _ h40 HLO.out HOE.out.row).mono ?_
          rintro e w5 ⟨⟨B, rfl, ho5, hb5⟩, hbe⟩
          have HF : Hid ((∃ B' c', (Ending.returned (.slice (some ⟨B, 0, none⟩) q q) = .returned (.slice (some ⟨B', 0, none⟩) q q)) ∧ LeastC q m j P c' ∧ Own w5 B' q (nbr c') ∧ w.heap.size ≤ B') ∧ Below w.heap.size w w5) := ⟨⟨B, c, rfl, HLC.out, ho5, Nat.le_trans HBE.out.size hb5⟩, Below.then HBE.out hbe⟩
          clear ho5 hb5 hbe HLC HOE HBE HLO
          go_wp2_with fail
          go_ret
          exact HF.out
end Go.Proofs.YthhnngmfbbljaaaGreat
