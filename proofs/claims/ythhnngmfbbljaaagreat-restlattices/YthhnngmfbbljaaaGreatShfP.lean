/-
  What put does: a list that is not known is put on the shelf. Conditions: lists of at most forty numbers; fewer than a thousand lists.
-/
import Derived.Test.YthhnngmfbbljaaaGreatShfM
import Derived.Laws.CopyOwn
import Derived.Deep.MidRow
import Derived.Deep.WholeRow
import Derived.Deep.Cut
import Derived.WalkSpells
namespace Go.Proofs.YthhnngmfbbljaaaGreat
open Go.RowKit Go.Maps Go.WideMaps
set_option maxRecDepth 100000
set_option linter.unusedSimpArgs false

/-- A list of numbers, as values. -/
def rowI (q : Nat) (g : Nat → Nat) : List Value := (List.range q).map fun i => .int .i64 (g i : Nat)
theorem rowI_len (q : Nat) (g : Nat → Nat) : (rowI q g).length = q := by simp [rowI]
theorem rowI_one (q : Nat) (g : Nat → Nat) : ∀ v ∈ rowI q g, v.oneCell' = true := fun v hv => by
  obtain ⟨i, _, rfl⟩ := List.mem_map.1 hv
  rfl
theorem rowI_at {w : World} {R q : Nat} {g : Nat → Nat} (h : Own w R q g) : ∀ j v, (rowI q g)[j]? = some v → w.cell? (Addr.add ⟨R, 0, none⟩ j) = some v := fun j v hv => by
  have hj : j < q := by
    rcases Nat.lt_or_ge j q with h1 | h1
    · exact h1
    · rw [List.getElem?_eq_none (by rw [rowI_len]; exact h1)] at hv; cases hv
  have e : Addr.add ⟨R, 0, none⟩ j = ⟨R, j, none⟩ := by rw [Addr.add_mid, Nat.zero_add]
  rw [e, (h j hj).1]
  simp [rowI, hj] at hv
  rw [hv]
theorem rowI_splice {q : Nat} {g : Nat → Nat} (h40 : q ≤ 40) : (splice (List.replicate 40 (Value.int .i64 0)) 0 (rowI q g)).toArray = arV (pad q g) := by
  unfold arV
  congr 1
  apply List.ext_getElem?
  intro i
  unfold splice
  rw [rowI_len, List.take_zero, List.nil_append, Nat.zero_add]
  by_cases hi : i < q
  · rw [List.getElem?_append_left (by rw [rowI_len]; exact hi)]
    simp [rowI, hi, pad, show i < 40 by omega]
  · rw [List.getElem?_append_right (by rw [rowI_len]; omega), rowI_len, List.drop_replicate, List.getElem?_replicate]
    by_cases h4 : i < 40
    · simp [pad, hi, h4, show i - q < 40 - q by omega]
    · simp [h4, show ¬ i - q < 40 - q by omega]
theorem own_set_far {w : World} {R S i q : Nat} {g : Nat → Nat} {v : Value} (h : Own w R q g) (hne : R ≠ S) : Own (w.setCell ⟨S, i, none⟩ v) R q g := fun k hk => by
  have hb : (w.setCell ⟨S, i, none⟩ v).heap[R]? = w.heap[R]? := Below.heap_setCell _ _ _ _ hne
  exact ⟨(World.cell?_of_block (a := ⟨R, k, none⟩) hb).trans (h k hk).1, (World.frozen?_of_block (a := ⟨R, k, none⟩) hb).trans (h k hk).2⟩
theorem Tryz.infoL : (Tryz.prog.info? 22).map (fun i => (i.zero, i.size, i.bytes)) = some (some (.slice none 0 0), 1, 24) := by kernel_rfl
theorem slice_of {w : World} {base e size n : Nat} {v : Value} {xs : List Value} (h : w.ownsRow base e size v n xs) : ∃ a cap, v = .slice a n cap := by
  rcases h.2 with ⟨rfl, h2⟩ | ⟨g, cap, cur, rfl, _⟩
  · obtain rfl : n = 0 := by first | exact h2 | exact h2.1
    exact ⟨_, _, rfl⟩
  · exact ⟨_, _, rfl⟩
theorem grown_drew2 (w : World) (row : Option Nat) : w.grownBy w.drew.drew row := ⟨rfl, rfl, rfl, Nat.le_refl _, fun _ _ _ => rfl⟩
theorem keyQ_size : (Tryz.prog.info? 112).map (·.size) = some 40 := by kernel_rfl
theorem yk {ops : Array Oper} {S : World → Prop} {o : Oper} {a : Act} (hw : Region.wanted o (yielded ops a.tmps) = true) (x : Operand) (ho : o.op = .load 112 x) (K : Nat) (hx : a.eval x = .pointer (some ⟨K, 0, none⟩)) (p : Nat → Nat)
    (hS : ∀ w, S w → w.heap[K]? = some (.cells (arV p) 112 (0, 0))) : YieldsIf Tryz.prog ops S o (.agg (arV p)) a :=
  yieldsIf_load_mid hw 112 x ho K 0 hx ((List.range 40).map fun i => Value.int .i64 ((p i : Nat) : Int)) _ (fun w h j v hv => by
    rw [Nat.zero_add, cell_of_row w K j (arV p) 112 (0, 0) (hS w h)]
    simpa [arV] using hv) Tryz.underlying112 rfl (by rw [keyQ_size]; simp)
theorem atKey_c {w : World} {Bm n : Nat} {D : DataW Unit} {p : Nat → Nat} (h : w.ownsMap Tryz.prog 112 (plainElem Tryz.prog 3) Bm n D) (hp : ∀ i, i < 40 → p i ≤ 1000) : ∃ c : Int, D.atKey (kQ p) (.lit (.int .i64 0)) = .lit (.int .i64 c) := by
  obtain ⟨v, ps, _, hv⟩ := h.look_ok (t := 88) keyedQ Tryz.underlying88 (Tryz.zeroValue3 w) (plainElem_int Tryz.underlying3 (by decide)) (keyQ_of hp)
  obtain ⟨c, rfl, hc, _⟩ := plainElem_int_inv Tryz.underlying3 hv
  exact ⟨c, congrArg Prod.fst hc⟩
theorem yl {ops : Array Oper} {S : World → Prop} {o : Oper} {a : Act} (hw : Region.wanted o (yielded ops a.tmps) = true) (m x : Operand) (ho : o.op = .lookup 88 m x true) (Bm n : Nat) (D : DataW Unit) (hm : a.eval m = .map (some Bm)) (p : Nat → Nat) (hp : ∀ i, i < 40 → p i ≤ 1000) (hx : a.eval x = .agg (arV p))
    (hS : ∀ w, S w → w.ownsMap Tryz.prog 112 (plainElem Tryz.prog 3) Bm n D) (c : Int) (hc : D.atKey (kQ p) (.lit (.int .i64 0)) = .lit (.int .i64 c)) (B : Bool) (hB : Maps.has D (kQ p) = B) : YieldsIf Tryz.prog ops S o (.tuple #[.int .i64 c, .bool B]) a :=
  .inl ⟨hw, fun w hw' => by
    obtain ⟨v, ps, hrun, hv⟩ := (hS w hw').look_ok (t := 88) keyedQ Tryz.underlying88 (Tryz.zeroValue3 w) (plainElem_int Tryz.underlying3 (by decide)) (keyQ_of hp)
    obtain ⟨c', rfl, hc', _⟩ := plainElem_int_inv Tryz.underlying3 hv
    have e : c' = c := by
      have := congrArg Prod.fst hc'
      simp only at this
      rw [hc] at this
      injection this with this
      injection this with _ this
      exact this.symm
    subst e
    subst hB
    simp [execOp, ho, hm, hx, hrun, Result.andThen]⟩
theorem wpu {o : Oper} {a : Act} {w : World} {K : Act → World → Prop} {Q : Exit → Act → World → Prop} (m x y : Operand) (ho : o.op = .mapUpdate 88 m x y) (Bm n : Nat) (D : DataW Unit) (hm : a.eval m = .map (some Bm)) (p : Nat → Nat) (hp : ∀ i, i < 40 → p i ≤ 1000) (hx : a.eval x = .agg (arV p)) (hy : a.eval y = .int .i64 (n : Nat))
    (hown : w.ownsMap Tryz.prog 112 (plainElem Tryz.prog 3) Bm n D) (hn : n ≤ 999) (h : ∀ w', w'.ownsMap Tryz.prog 112 (plainElem Tryz.prog 3) Bm (n + 1) (D.put (kQ p) (.lit (.int .i64 (n : Nat)))) → w.grownBy w' (some Bm) → K (a.put o.dst undef) w') : o.wp Tryz.prog a w K Q := by
  obtain ⟨w', hrun, r1, r2⟩ := hown.update (t := 88) keyedQ Tryz.underlying88 (by unfold maxLen; omega) (keyQ_of hp) (keyI_some (n := n) (by omega))
  unfold Oper.wp
  simp [execOp, ho, hm, hx, hy, hrun, Result.andThen]
  exact h w' r1 r2
set_option maxHeartbeats 4000000 in
theorem put_any {base S : Nat} {m : Option Nat} {D : DataW Unit} {v : Value} {r : Nat → Nat} {n q : Nat} {G : Nat → Nat → Nat} (R : Nat) (g : Nat → Nat) (w : World) (h40 : q ≤ 40) (hn : n ≤ 999) (hg : ∀ i, i < q → g i ≤ 1000)
    (h : SB w base S m D v r n q G) (hR : base ≤ R ∧ R < w.heap.size) (hRS : R ≠ S) (hRv : some R ≠ v.ownBlock) (hRm : ∀ Bm, m = some Bm → R ≠ Bm) (hO : Own w R q g) :
    Calls Tryz.prog 59 #[.pointer (some ⟨S, 0, none⟩), .slice (some ⟨R, 0, none⟩) q q] w fun e w' => e = .returned (.tuple #[]) ∧ (∃ m' D' v' r' n' G', SB w' base S m' D' v' r' n' q G' ∧ ((n' = n ∧ G' = G ∧ ∃ j, j < n ∧ ∀ i, i < q → G j i = g i) ∨ (n' = n + 1 ∧ G' = (fun j => if j = n then g else G j) ∧ ∀ j, j < n → ¬ ∀ i, i < q → G j i = g i))) ∧ Below base w w' := by
  obtain ⟨av, cv, rfl⟩ := slice_of h.rows.own
  have hmm := @run_makeMap Tryz.prog
  have qT : ∀ (w : World) (r : Option Nat), (binOp .eql 88 (.map r) (.map none)).run Tryz.prog w = .ok (.bool r.isNone) w := fun w r => run_eql_map_nil w _ _ _ r Tryz.underlying88
  have HS : Hid (SB w base S m D (.slice av n cv) r n q G) := h
  have HO : Hid (Own w R q g) := hO
  cases m with
  | none =>
    have k0 := h.c0
    have ha := h.step (w' := w.alloc (.map #[] 0)) ((Below.refl _ _).alloc (Nat.le_refl _) _)
    have k2 := ha.c0
    have k3 := ha.f0
    clear ha
    clear h hO
    go_enter Tryz.func59, Tryz.ntmps59
    go_upto_region 2 with fail
    obtain ⟨W, HW⟩ : ∃ W, Hid ((w.alloc (.map #[] 0)).setCell ⟨S, 0, none⟩ (.map (some w.heap.size)) = W) := ⟨_, rfl⟩
    obtain ⟨Bm, HM⟩ : ∃ Bm, Hid (w.heap.size = Bm) := ⟨_, rfl⟩
    have HSW : Hid (SB W base S (some Bm) D (.slice av n cv) r n q G) := by rw [← HW.out, ← HM.out]; exact HS.out.made
    have HOW : Hid (Own W R q g) := by rw [← HW.out]; exact own_set_far (HO.out.alloc _) hRS
    have HWZ : W.heap.size = w.heap.size + 1 := by rw [← HW.out]; simp
    have HRW : Hid (R < W.heap.size) := by show _ < _; rw [HWZ]; omega
    have HMW : Hid (Bm < W.heap.size) := by show _ < _; rw [HWZ, ← HM.out]; omega
    have HRM : Hid (R ≠ Bm) := by rw [← HM.out]; exact Nat.ne_of_lt hR.2
    have HWS : Hid (base ≤ W.heap.size) := by show _ ≤ _; rw [HWZ]; omega
    have HBW : Hid (Below base w W) := by rw [← HW.out]; exact ((Below.refl _ _).alloc (by omega) _).setCell (p := ⟨S, 0, none⟩) HS.out.base_le _
    rw [HW.out, HM.out]
    clear HW HM k0 k2 k3 HWZ HS HO hmm qT
    obtain ⟨i5, hi5, hz0, hz1, hz2⟩ := info_parts Tryz.infoL
    obtain ⟨i0, hi0, hy0, hy1, hy2⟩ := info_parts Tryz.info3
    have hsz : (Tryz.prog.info? 3).map (·.size) = some 1 := by rw [hi0]; simp [hy1]
    have HQ1 : Hid ((rowI q g).length = Nat.min q 40) := by
      have e : (rowI q g).length = Nat.min q 40 := by rw [rowI_len]; exact (Nat.min_eq_left h40).symm
      exact e
    have HQ4 : Hid (∀ v ∈ rowI q g, v.oneCell' = true) := rowI_one q g
    go_upto_region 3 with fail
    generalize hV : World.alloc W _ = V0
    have HZ : Hid (V0.heap[W.heap.size]? = some (.cells (List.replicate 40 (.int .i64 0)).toArray 112 (0, 0))) := by rw [← hV]; exact heap_alloc_last W _
    have HB0 : Hid (Below W.heap.size W V0) := by rw [← hV]; exact (Below.refl _ _).alloc (Nat.le_refl _) _
    clear hV
    have HQ2 : Hid (∀ j v, (rowI q g)[j]? = some v → V0.cell? (Addr.add ⟨R, 0, none⟩ j) = some v) := rowI_at (HOW.out.keep HB0.out HRW.out)
    have HQ3 : Hid (0 + (rowI q g).length ≤ (List.replicate 40 (Value.int .i64 0)).length) := by
      have e : 0 + (rowI q g).length ≤ (List.replicate 40 (Value.int .i64 0)).length := by rw [rowI_len, List.length_replicate]; omega
      exact e
    go_upto_region 4 with (refine wpList_copy_splice rfl (.tmp 16) (.tmp 17) 22 22 rfl 3 Tryz.underlying22 hsz (some ⟨W.heap.size, 0, none⟩) (some ⟨R, 0, none⟩) 40 40 q q rfl rfl W.heap.size 0 (List.replicate 40 (.int .i64 0)) 112 HZ.out (rowI q g) HQ1.out (fun _ => ⟨rfl, _, rfl, HQ2.out⟩) HQ3.out HQ4.out W.heap.size W HB0.out (Nat.le_refl _) ?_; intro V HG2 hB2)
    have HB2 : Hid (Below W.heap.size W V) := hB2
    have HK2 : Hid (V.heap[W.heap.size]? = some (.cells (arV (pad q g)) 112 (0, 0))) := by
      have h := HG2.out
      rw [rowI_splice h40] at h
      exact h
    clear HG2 hB2 HQ1 HQ2 HQ3 HQ4 HB0 HZ V0
    have HSV : Hid (SB V base S (some Bm) D (.slice av n cv) r n q G) := HSW.out.step HB2.out
    have HOV : Hid (Own V R q g) := HOW.out.keep HB2.out HRW.out
    have HBV : Hid (Below base w V) := HBW.out.trans (HB2.out.mono HWS.out)
    have HRV : Hid (R < V.heap.size) := Nat.lt_of_lt_of_le HRW.out HB2.out.size
    have HKV : Hid (∀ w', Below V.heap.size V w' → w'.heap[W.heap.size]? = some (.cells (arV (pad q g)) 112 (0, 0))) := fun w' h => (h.block _ (Array.getElem?_eq_some_iff.1 HK2.out).1).trans HK2.out
    have l0 : ∀ w', Below V.heap.size V w' → w'.cell? ⟨S, 0, none⟩ = some (.map (some Bm)) := fun w' h => (HSV.out.step h).c0
    have HMV : Hid (∀ w', Below V.heap.size V w' → w'.ownsMap Tryz.prog 112 (plainElem Tryz.prog 3) Bm n D) := fun w' h => ((HSV.out.step h).map Bm rfl).1
    have HPL : Hid (∀ i, i < 40 → pad q g i ≤ 1000) := fun i _ => pad_le hg i
    obtain ⟨c, hc⟩ := atKey_c (HMV.out V (Below.refl _ _)) HPL.out
    have HAT : Hid (D.atKey (kQ (pad q g)) (.lit (.int .i64 0)) = .lit (.int .i64 c)) := hc
    clear hc
    cases hh : Maps.has D (kQ (pad q g))
    · have HHAS : Hid (Maps.has D (kQ (pad q g)) = false) := hh
      have HNEW : Hid (∀ j, j < n → ¬ ∀ i, i < q → G j i = g i) := fun j hj e => by
        have : Maps.has D (kQ (pad q g)) = true := (HSV.out.has _).2 ⟨j, hj, (pad_key h40 (HSV.out.le j hj) hg).2 e⟩
        rw [hh] at this; cases this
      clear hh
      refine wp_region_held_drew (S := (fun w' => Below V.heap.size V w')) (by kernel_rfl) ((Below.refl _ _).drew) (fun hHeld => ?_)
      refine wpAnyH_take (i := 0) (oi := { dst := some 20, op := Go.Op.move (Go.Operand.tmp 0), type := 110, pos := "classes.go:109", after := #[], guard := none }) (v := ?_) rfl (by kernel_rfl) (by kernel_rfl) (by kernel_rfl) (fun _ _ _ h => h) (Or.inl ⟨by rfl, ?hy⟩) (by assumption) ?_
      case hy => (intro w9 hSw; (try dsimp only at hSw); go_simp; try with_reducible rfl)
      try simp only [Act.put, List.setIfInBounds_toArray, List.set_cons_zero, List.set_cons_succ]
      refine wpAnyH_take (i := 1) (oi := { dst := some 21, op := Go.Op.nilCheck (Go.Operand.tmp 20), type := 0, pos := "classes.go:109", after := #[{ on := 0, ground := Go.Ground.data }], guard := none }) (v := ?_) rfl (by kernel_rfl) (by kernel_rfl) (by kernel_rfl) (fun _ _ _ h => h) (Or.inl ⟨by rfl, ?hy⟩) (by assumption) ?_
      case hy => (intro w9 hSw; (try dsimp only at hSw); go_simp; try with_reducible rfl)
      try simp only [Act.put, List.setIfInBounds_toArray, List.set_cons_zero, List.set_cons_succ]
      refine wpAnyH_take (i := 2) (oi := { dst := some 22, op := Go.Op.fieldAddr 90 (Go.Operand.tmp 21) 0, type := 0, pos := "classes.go:109", after := #[{ on := 1, ground := Go.Ground.data }], guard := none }) (v := ?_) rfl (by kernel_rfl) (by kernel_rfl) (by kernel_rfl) (fun _ _ _ h => h) (Or.inl ⟨by rfl, ?hy⟩) (by assumption) ?_
      case hy => (intro w9 hSw; (try dsimp only at hSw); go_simp; try with_reducible rfl)
      try simp only [Act.put, List.setIfInBounds_toArray, List.set_cons_zero, List.set_cons_succ]
      refine wpAnyH_take (i := 3) (oi := { dst := some 23, op := Go.Op.load 88 (Go.Operand.tmp 22), type := 88, pos := "classes.go:109", after := #[{ on := 2, ground := Go.Ground.data }], guard := none }) (v := ?_) rfl (by kernel_rfl) (by kernel_rfl) (by kernel_rfl) (fun _ _ _ h => h) (Or.inl ⟨by rfl, ?hy⟩) (by assumption) ?_
      case hy => (intro w9 hSw; (try dsimp only at hSw); go_simp; try with_reducible rfl)
      try simp only [Act.put, List.setIfInBounds_toArray, List.set_cons_zero, List.set_cons_succ]
      refine wpAnyH_take (i := 4) (oi := { dst := some 24, op := Go.Op.load 112 (Go.Operand.tmp 4), type := 112, pos := "classes.go:109", after := #[], guard := none }) (v := .agg (arV (pad q g))) rfl (by kernel_rfl) (by kernel_rfl) (by kernel_rfl) (fun _ _ _ h => h) (yk (by rfl) (.tmp 4) rfl W.heap.size rfl (pad q g) HKV.out) (by assumption) ?_
      try simp only [Act.put, List.setIfInBounds_toArray, List.set_cons_zero, List.set_cons_succ]
      refine wpAnyH_take (i := 5) (oi := { dst := some 25, op := Go.Op.lookup 88 (Go.Operand.tmp 23) (Go.Operand.tmp 24) true, type := 85, pos := "classes.go:109", after := #[{ on := 3, ground := Go.Ground.data }, { on := 4, ground := Go.Ground.data }], guard := none }) (v := .tuple #[.int .i64 c, .bool false]) rfl (by kernel_rfl) (by kernel_rfl) (by kernel_rfl) (fun _ _ _ h => h) (yl (by rfl) (.tmp 23) (.tmp 24) rfl Bm n D rfl (pad q g) HPL.out rfl HMV.out c HAT.out _ HHAS.out) (by assumption) ?_
      try simp only [Act.put, List.setIfInBounds_toArray, List.set_cons_zero, List.set_cons_succ]
      refine wpAnyH_take (i := 6) (oi := { dst := some 19, op := Go.Op.move (Go.Operand.tmp 25), type := 85, pos := "classes.go:109", after := #[{ on := 5, ground := Go.Ground.data }], guard := none }) (v := ?_) rfl (by kernel_rfl) (by kernel_rfl) (by kernel_rfl) (fun _ _ _ h => h) (Or.inl ⟨by rfl, ?hy⟩) (by assumption) ?_
      case hy => (intro w9 hSw; (try dsimp only at hSw); go_simp; try with_reducible rfl)
      try simp only [Act.put, List.setIfInBounds_toArray, List.set_cons_zero, List.set_cons_succ]
      refine wpAnyH_take (i := 7) (oi := { dst := some 26, op := Go.Op.extract (Go.Operand.tmp 19) 0, type := 3, pos := "classes.go:109", after := #[{ on := 6, ground := Go.Ground.data }], guard := none }) (v := ?_) rfl (by kernel_rfl) (by kernel_rfl) (by kernel_rfl) (fun _ _ _ h => h) (Or.inl ⟨by rfl, ?hy⟩) (by assumption) ?_
      case hy => (intro w9 hSw; (try dsimp only at hSw); go_simp; try with_reducible rfl)
      try simp only [Act.put, List.setIfInBounds_toArray, List.set_cons_zero, List.set_cons_succ]
      refine wpAnyH_take (i := 8) (oi := { dst := some 27, op := Go.Op.extract (Go.Operand.tmp 19) 1, type := 4, pos := "classes.go:109", after := #[{ on := 6, ground := Go.Ground.data }, { on := 9, ground := Go.Ground.gcOnly Go.Departure.lateStores }], guard := none }) (v := ?_) rfl (by kernel_rfl) (by kernel_rfl) (by kernel_rfl) (fun _ _ _ h => h) (Or.inl ⟨by rfl, ?hy⟩) (by assumption) ?_
      case hy => (intro w9 hSw; (try dsimp only at hSw); go_simp; try with_reducible rfl)
      try simp only [Act.put, List.setIfInBounds_toArray, List.set_cons_zero, List.set_cons_succ]
      refine wpAnyH_take (i := 9) (oi := { dst := some 5, op := Go.Op.assign (Go.Operand.tmp 26), type := 3, pos := "classes.go:109", after := #[{ on := 7, ground := Go.Ground.data }, { on := 0, ground := Go.Ground.phase }, { on := 1, ground := Go.Ground.phase }, { on := 2, ground := Go.Ground.phase }, { on := 3, ground := Go.Ground.phase }, { on := 4, ground := Go.Ground.phase }, { on := 5, ground := Go.Ground.phase }, { on := 6, ground := Go.Ground.phase }, { on := 7, ground := Go.Ground.phase }, { on := 8, ground := Go.Ground.textOnly Go.Departure.lateStores }], guard := none }) (v := ?_) rfl (by kernel_rfl) (by kernel_rfl) (by kernel_rfl) (fun _ _ _ h => h) (Or.inl ⟨by rfl, ?hy⟩) (by assumption) ?_
      case hy => (intro w9 hSw; (try dsimp only at hSw); go_simp; try with_reducible rfl)
      try simp only [Act.put, List.setIfInBounds_toArray, List.set_cons_zero, List.set_cons_succ]
      refine wpAnyH_take (i := 10) (oi := { dst := some 6, op := Go.Op.assign (Go.Operand.tmp 27), type := 4, pos := "classes.go:109", after := #[{ on := 8, ground := Go.Ground.data }, { on := 9, ground := Go.Ground.chain }, { on := 0, ground := Go.Ground.phase }, { on := 1, ground := Go.Ground.phase }, { on := 2, ground := Go.Ground.phase }, { on := 3, ground := Go.Ground.phase }, { on := 4, ground := Go.Ground.phase }, { on := 5, ground := Go.Ground.phase }, { on := 6, ground := Go.Ground.phase }, { on := 7, ground := Go.Ground.phase }, { on := 8, ground := Go.Ground.phase }, { on := 9, ground := Go.Ground.phase }], guard := none }) (v := ?_) rfl (by kernel_rfl) (by kernel_rfl) (by kernel_rfl) (fun _ _ _ h => h) (Or.inl ⟨by rfl, ?hy⟩) (by assumption) ?_
      case hy => (intro w9 hSw; (try dsimp only at hSw); go_simp; try with_reducible rfl)
      try simp only [Act.put, List.setIfInBounds_toArray, List.set_cons_zero, List.set_cons_succ]
      refine wpAnyH_done (by kernel_rfl) ?_ _
      try simp only [Act.put, List.setIfInBounds_toArray, List.set_cons_zero, List.set_cons_succ]
      clear HMV l0 HKV HAT HHAS
      have HMD : Hid (V.drew.drew.ownsMap Tryz.prog 112 (plainElem Tryz.prog 3) Bm n D) := (HSV.out.map Bm rfl).1
      have HKG : Hid (∀ w', V.grownBy w' (some Bm) → w'.heap[W.heap.size]? = some (.cells (arV (pad q g)) 112 (0, 0))) := fun w' h => (h.block _ (Array.getElem?_eq_some_iff.1 HK2.out).1 (fun e => by have := Option.some.inj e; have := HMW.out; omega)).trans HK2.out
      have l0 : ∀ w', V.grownBy w' (some Bm) → w'.cell? ⟨S, 0, none⟩ = some (.map (some Bm)) := fun w' h => h.cell HSV.out.c0 (fun e => (HSV.out.ms Bm rfl).1 (Option.some.inj e).symm)
      have l1 : ∀ w', V.grownBy w' (some Bm) → w'.cell? ⟨S, 1, none⟩ = some (.slice av n cv) := fun w' h => h.cell HSV.out.c1 (fun e => (HSV.out.ms Bm rfl).1 (Option.some.inj e).symm)
      go_upto_region 6 with fail
      refine wp_region_held_drew (S := (fun w' => V.grownBy w' (some Bm))) (by kernel_rfl) (grown_drew2 V _) (fun hHeld => ?_)
      refine wpAnyH_take (i := 0) (oi := { dst := some 30, op := Go.Op.move (Go.Operand.tmp 0), type := 110, pos := "classes.go:110", after := #[], guard := none }) (v := ?_) rfl (by kernel_rfl) (by kernel_rfl) (by kernel_rfl) (fun _ _ _ h => h) (Or.inl ⟨by rfl, ?hy⟩) (by assumption) ?_
      case hy => (intro w9 hSw; (try dsimp only at hSw); go_simp; try with_reducible rfl)
      try simp only [Act.put, List.setIfInBounds_toArray, List.set_cons_zero, List.set_cons_succ]
      refine wpAnyH_take (i := 1) (oi := { dst := some 31, op := Go.Op.nilCheck (Go.Operand.tmp 30), type := 0, pos := "classes.go:110", after := #[{ on := 0, ground := Go.Ground.data }], guard := none }) (v := ?_) rfl (by kernel_rfl) (by kernel_rfl) (by kernel_rfl) (fun _ _ _ h => h) (Or.inl ⟨by rfl, ?hy⟩) (by assumption) ?_
      case hy => (intro w9 hSw; (try dsimp only at hSw); go_simp; try with_reducible rfl)
      try simp only [Act.put, List.setIfInBounds_toArray, List.set_cons_zero, List.set_cons_succ]
      refine wpAnyH_take (i := 2) (oi := { dst := some 32, op := Go.Op.fieldAddr 90 (Go.Operand.tmp 31) 0, type := 0, pos := "classes.go:110", after := #[{ on := 1, ground := Go.Ground.data }], guard := none }) (v := ?_) rfl (by kernel_rfl) (by kernel_rfl) (by kernel_rfl) (fun _ _ _ h => h) (Or.inl ⟨by rfl, ?hy⟩) (by assumption) ?_
      case hy => (intro w9 hSw; (try dsimp only at hSw); go_simp; try with_reducible rfl)
      try simp only [Act.put, List.setIfInBounds_toArray, List.set_cons_zero, List.set_cons_succ]
      refine wpAnyH_take (i := 3) (oi := { dst := some 33, op := Go.Op.load 88 (Go.Operand.tmp 32), type := 88, pos := "classes.go:110", after := #[{ on := 2, ground := Go.Ground.data }], guard := none }) (v := ?_) rfl (by kernel_rfl) (by kernel_rfl) (by kernel_rfl) (fun _ _ _ h => h) (Or.inl ⟨by rfl, ?hy⟩) (by assumption) ?_
      case hy => (intro w9 hSw; (try dsimp only at hSw); go_simp; try with_reducible rfl)
      try simp only [Act.put, List.setIfInBounds_toArray, List.set_cons_zero, List.set_cons_succ]
      refine wpAnyH_take (i := 4) (oi := { dst := some 34, op := Go.Op.load 112 (Go.Operand.tmp 4), type := 112, pos := "classes.go:110", after := #[], guard := none }) (v := .agg (arV (pad q g))) rfl (by kernel_rfl) (by kernel_rfl) (by kernel_rfl) (fun _ _ _ h => h) (yk (by rfl) (.tmp 4) rfl W.heap.size rfl (pad q g) HKG.out) (by assumption) ?_
      try simp only [Act.put, List.setIfInBounds_toArray, List.set_cons_zero, List.set_cons_succ]
      refine wpAnyH_take (i := 5) (oi := { dst := some 35, op := Go.Op.move (Go.Operand.tmp 0), type := 110, pos := "classes.go:110", after := #[], guard := none }) (v := ?_) rfl (by kernel_rfl) (by kernel_rfl) (by kernel_rfl) (fun _ _ _ h => h) (Or.inl ⟨by rfl, ?hy⟩) (by assumption) ?_
      case hy => (intro w9 hSw; (try dsimp only at hSw); go_simp; try with_reducible rfl)
      try simp only [Act.put, List.setIfInBounds_toArray, List.set_cons_zero, List.set_cons_succ]
      refine wpAnyH_take (i := 6) (oi := { dst := some 36, op := Go.Op.nilCheck (Go.Operand.tmp 35), type := 0, pos := "classes.go:110", after := #[{ on := 5, ground := Go.Ground.data }], guard := none }) (v := ?_) rfl (by kernel_rfl) (by kernel_rfl) (by kernel_rfl) (fun _ _ _ h => h) (Or.inl ⟨by rfl, ?hy⟩) (by assumption) ?_
      case hy => (intro w9 hSw; (try dsimp only at hSw); go_simp; try with_reducible rfl)
      try simp only [Act.put, List.setIfInBounds_toArray, List.set_cons_zero, List.set_cons_succ]
      refine wpAnyH_take (i := 7) (oi := { dst := some 37, op := Go.Op.fieldAddr 90 (Go.Operand.tmp 36) 1, type := 0, pos := "classes.go:110", after := #[{ on := 6, ground := Go.Ground.data }], guard := none }) (v := ?_) rfl (by kernel_rfl) (by kernel_rfl) (by kernel_rfl) (fun _ _ _ h => h) (Or.inl ⟨by rfl, ?hy⟩) (by assumption) ?_
      case hy => (intro w9 hSw; (try dsimp only at hSw); go_simp; try with_reducible rfl)
      try simp only [Act.put, List.setIfInBounds_toArray, List.set_cons_zero, List.set_cons_succ]
      refine wpAnyH_take (i := 8) (oi := { dst := some 38, op := Go.Op.load 25 (Go.Operand.tmp 37), type := 25, pos := "classes.go:110", after := #[{ on := 7, ground := Go.Ground.data }], guard := none }) (v := ?_) rfl (by kernel_rfl) (by kernel_rfl) (by kernel_rfl) (fun _ _ _ h => h) (Or.inl ⟨by rfl, ?hy⟩) (by assumption) ?_
      case hy => (intro w9 hSw; (try dsimp only at hSw); go_simp; try with_reducible rfl)
      try simp only [Act.put, List.setIfInBounds_toArray, List.set_cons_zero, List.set_cons_succ]
      refine wpAnyH_take (i := 9) (oi := { dst := some 39, op := Go.Op.call { callee := Go.Callee.builtin Go.Builtin.len, args := #[Go.Operand.tmp 38], argTypes := #[25] }, type := 3, pos := "classes.go:110", after := #[{ on := 8, ground := Go.Ground.data }], guard := none }) (v := ?_) rfl (by kernel_rfl) (by kernel_rfl) (by kernel_rfl) (fun _ _ _ h => h) (Or.inl ⟨by rfl, ?hy⟩) (by assumption) ?_
      case hy => (intro w9 hSw; (try dsimp only at hSw); go_simp; try with_reducible rfl)
      try simp only [Act.put, List.setIfInBounds_toArray, List.set_cons_zero, List.set_cons_succ]
      refine wpAnyH_ready (rs := [10]) (by kernel_rfl) (by simp) ?_
      refine AllReadyH.cons (o := { dst := none, op := Go.Op.mapUpdate 88 (Go.Operand.tmp 33) (Go.Operand.tmp 34) (Go.Operand.tmp 39), type := 0, pos := "classes.go:110", after := #[{ on := 3, ground := Go.Ground.data }, { on := 4, ground := Go.Ground.data }, { on := 9, ground := Go.Ground.data }, { on := 0, ground := Go.Ground.phase }, { on := 1, ground := Go.Ground.phase }, { on := 2, ground := Go.Ground.phase }, { on := 3, ground := Go.Ground.phase }, { on := 4, ground := Go.Ground.phase }, { on := 5, ground := Go.Ground.phase }, { on := 6, ground := Go.Ground.phase }, { on := 7, ground := Go.Ground.phase }, { on := 8, ground := Go.Ground.phase }, { on := 9, ground := Go.Ground.phase }], guard := none }) rfl (fun K hK => ?_) AllReadyH.nil
      rw [if_pos (by rfl)]
      refine wpu (.tmp 33) (.tmp 34) (.tmp 39) rfl Bm n D rfl (pad q g) HPL.out rfl rfl HMD.out hn ?_
      intro w5 hown5 hgrow5
      refine hK.out _ _ ?_ (fun hHeld => ?_)
      · exact (grown_drew2 V _).trans hgrow5
      clear hK K
      try simp only [Act.put, List.setIfInBounds_toArray, List.set_cons_zero, List.set_cons_succ]
      refine wpAnyH_done (by kernel_rfl) ?_ _
      try simp only [Act.put, List.setIfInBounds_toArray, List.set_cons_zero, List.set_cons_succ]
      have HW5 : Hid (V.drew.drew.grownBy w5 (some Bm)) := hgrow5
      have HO5 : Hid (w5.ownsMap Tryz.prog 112 (plainElem Tryz.prog 3) Bm (n + 1) (D.put (kQ (pad q g)) (.lit (.int .i64 (n : Nat))))) := hown5
      have hVS : (V.drew.drew).heap.size = V.heap.size := rfl
      have hsz5 : V.heap.size ≤ w5.heap.size := HW5.out.size
      have hown6 : w5.ownsRow base 22 1 (.slice av n cv) n (slv r q n) := (HSV.out.rows.far ((grown_drew2 V _).trans HW5.out) (fun k e x => by injection e with e; subst e; exact (HSV.out.ms _ rfl).2.1 x.symm) (fun j hj e => (HSV.out.ms _ rfl).2.2 j hj (Option.some.inj e))).own
      have l2 := l1 w5 ((grown_drew2 V _).trans HW5.out)
      have hbV : base ≤ V.heap.size := Nat.le_trans HWS.out HB2.out.size
      clear hown5 hgrow5 l0 l1 HKG HMD hHeld
      go_wp2_with (at_builtin; refine wpList_append_own_at _ rfl _ _ 25 rfl base 22 i5 (.slice none 0 0) 1 24 Tryz.underlying25 hi5 hz0 hz1 hz2 rfl (by decide) _ _ _ rfl (hown6.alloc _) ⟨w5.heap.size, 0, none⟩ 1 1 [.slice (some ⟨R, 0, none⟩) q q] rfl rfl ?c1 ?c2 ?c3 ?c4 ?c5 ?_)
      case c1 =>
        intro j u hj
        match j, hj with
        | 0, hj => simp at hj; subst hj; simp [Addr.add]
      case c2 => intro u hu; simp at hu; subst hu; rfl
      case c3 => unfold maxLen; omega
      case c4 => omega
      case c5 => first | omega | (simp; omega)
      intro v0 w7 hown' hgrow _ hat
      obtain ⟨a0, c0, rfl⟩ := slice_of hown'
      have HMORE := SB.more (HSV.out.step ((Below.refl _ _).drew.drew)) ⟨hR.1, HRV.out⟩ hRv hRS HRM.out HOV.out hg HO5.out HW5.out hown' hgrow (by simpa using hat)
      have HM1 : Hid (SB (w7.setCell ⟨S, 1, none⟩ (.slice a0 (n + 1) c0)) base S (some Bm) (D.put (kQ (pad q g)) (.lit (.int .i64 (n : Nat)))) (.slice a0 (n + 1) c0) (fun j => if j = n then R else r j) (n + 1) q (fun j => if j = n then g else G j)) := HMORE.1
      have HM2 : Hid (Below base w (w7.setCell ⟨S, 1, none⟩ (.slice a0 (n + 1) c0))) := HBV.out.drew.drew.trans HMORE.2
      have hS7 : w7.heap[S]? = V.heap[S]? := by
        have hSV := HSV.out.lt
        have e1 : w7.heap[S]? = (w5.alloc (.cells #[.slice (some ⟨R, 0, none⟩) q q] 22)).heap[S]? := hgrow.block S (by simp; omega) HSV.out.sv
        have e2 : (w5.alloc (.cells #[.slice (some ⟨R, 0, none⟩) q q] 22)).heap[S]? = w5.heap[S]? := ((Below.refl w5.heap.size w5).alloc (Nat.le_refl _) _).block S (by omega)
        have e3 : w5.heap[S]? = V.heap[S]? := HW5.out.block S hSV (fun e => (HSV.out.ms Bm rfl).1 (Option.some.inj e).symm)
        exact e1.trans (e2.trans e3)
      have l3 := (World.cell?_of_block (a := ⟨S, 1, none⟩) hS7).trans HSV.out.c1
      have l4 := (World.frozen?_of_block (a := ⟨S, 1, none⟩) hS7).trans HSV.out.f1
      clear HMORE hown' hgrow hat hown6 hS7 l2
      go_wp2_with fail
      exact bodyPost_end (results_none rfl _ _ _) rfl ⟨rfl, ⟨_, _, _, _, _, _, HM1.out, .inr ⟨rfl, rfl, HNEW.out⟩⟩, HM2.out⟩
    · have HHAS : Hid (Maps.has D (kQ (pad q g)) = true) := hh
      have HOLD : Hid (∃ j, j < n ∧ ∀ i, i < q → G j i = g i) := by
        obtain ⟨j, hj, e⟩ := (HSV.out.has _).1 hh
        exact ⟨j, hj, (pad_key h40 (HSV.out.le j hj) hg).1 e⟩
      clear hh
      refine wp_region_held_drew (S := (fun w' => Below V.heap.size V w')) (by kernel_rfl) ((Below.refl _ _).drew) (fun hHeld => ?_)
      refine wpAnyH_take (i := 0) (oi := { dst := some 20, op := Go.Op.move (Go.Operand.tmp 0), type := 110, pos := "classes.go:109", after := #[], guard := none }) (v := ?_) rfl (by kernel_rfl) (by kernel_rfl) (by kernel_rfl) (fun _ _ _ h => h) (Or.inl ⟨by rfl, ?hy⟩) (by assumption) ?_
      case hy => (intro w9 hSw; (try dsimp only at hSw); go_simp; try with_reducible rfl)
      try simp only [Act.put, List.setIfInBounds_toArray, List.set_cons_zero, List.set_cons_succ]
      refine wpAnyH_take (i := 1) (oi := { dst := some 21, op := Go.Op.nilCheck (Go.Operand.tmp 20), type := 0, pos := "classes.go:109", after := #[{ on := 0, ground := Go.Ground.data }], guard := none }) (v := ?_) rfl (by kernel_rfl) (by kernel_rfl) (by kernel_rfl) (fun _ _ _ h => h) (Or.inl ⟨by rfl, ?hy⟩) (by assumption) ?_
      case hy => (intro w9 hSw; (try dsimp only at hSw); go_simp; try with_reducible rfl)
      try simp only [Act.put, List.setIfInBounds_toArray, List.set_cons_zero, List.set_cons_succ]
      refine wpAnyH_take (i := 2) (oi := { dst := some 22, op := Go.Op.fieldAddr 90 (Go.Operand.tmp 21) 0, type := 0, pos := "classes.go:109", after := #[{ on := 1, ground := Go.Ground.data }], guard := none }) (v := ?_) rfl (by kernel_rfl) (by kernel_rfl) (by kernel_rfl) (fun _ _ _ h => h) (Or.inl ⟨by rfl, ?hy⟩) (by assumption) ?_
      case hy => (intro w9 hSw; (try dsimp only at hSw); go_simp; try with_reducible rfl)
      try simp only [Act.put, List.setIfInBounds_toArray, List.set_cons_zero, List.set_cons_succ]
      refine wpAnyH_take (i := 3) (oi := { dst := some 23, op := Go.Op.load 88 (Go.Operand.tmp 22), type := 88, pos := "classes.go:109", after := #[{ on := 2, ground := Go.Ground.data }], guard := none }) (v := ?_) rfl (by kernel_rfl) (by kernel_rfl) (by kernel_rfl) (fun _ _ _ h => h) (Or.inl ⟨by rfl, ?hy⟩) (by assumption) ?_
      case hy => (intro w9 hSw; (try dsimp only at hSw); go_simp; try with_reducible rfl)
      try simp only [Act.put, List.setIfInBounds_toArray, List.set_cons_zero, List.set_cons_succ]
      refine wpAnyH_take (i := 4) (oi := { dst := some 24, op := Go.Op.load 112 (Go.Operand.tmp 4), type := 112, pos := "classes.go:109", after := #[], guard := none }) (v := .agg (arV (pad q g))) rfl (by kernel_rfl) (by kernel_rfl) (by kernel_rfl) (fun _ _ _ h => h) (yk (by rfl) (.tmp 4) rfl W.heap.size rfl (pad q g) HKV.out) (by assumption) ?_
      try simp only [Act.put, List.setIfInBounds_toArray, List.set_cons_zero, List.set_cons_succ]
      refine wpAnyH_take (i := 5) (oi := { dst := some 25, op := Go.Op.lookup 88 (Go.Operand.tmp 23) (Go.Operand.tmp 24) true, type := 85, pos := "classes.go:109", after := #[{ on := 3, ground := Go.Ground.data }, { on := 4, ground := Go.Ground.data }], guard := none }) (v := .tuple #[.int .i64 c, .bool true]) rfl (by kernel_rfl) (by kernel_rfl) (by kernel_rfl) (fun _ _ _ h => h) (yl (by rfl) (.tmp 23) (.tmp 24) rfl Bm n D rfl (pad q g) HPL.out rfl HMV.out c HAT.out _ HHAS.out) (by assumption) ?_
      try simp only [Act.put, List.setIfInBounds_toArray, List.set_cons_zero, List.set_cons_succ]
      refine wpAnyH_take (i := 6) (oi := { dst := some 19, op := Go.Op.move (Go.Operand.tmp 25), type := 85, pos := "classes.go:109", after := #[{ on := 5, ground := Go.Ground.data }], guard := none }) (v := ?_) rfl (by kernel_rfl) (by kernel_rfl) (by kernel_rfl) (fun _ _ _ h => h) (Or.inl ⟨by rfl, ?hy⟩) (by assumption) ?_
      case hy => (intro w9 hSw; (try dsimp only at hSw); go_simp; try with_reducible rfl)
      try simp only [Act.put, List.setIfInBounds_toArray, List.set_cons_zero, List.set_cons_succ]
      refine wpAnyH_take (i := 7) (oi := { dst := some 26, op := Go.Op.extract (Go.Operand.tmp 19) 0, type := 3, pos := "classes.go:109", after := #[{ on := 6, ground := Go.Ground.data }], guard := none }) (v := ?_) rfl (by kernel_rfl) (by kernel_rfl) (by kernel_rfl) (fun _ _ _ h => h) (Or.inl ⟨by rfl, ?hy⟩) (by assumption) ?_
      case hy => (intro w9 hSw; (try dsimp only at hSw); go_simp; try with_reducible rfl)
      try simp only [Act.put, List.setIfInBounds_toArray, List.set_cons_zero, List.set_cons_succ]
      refine wpAnyH_take (i := 8) (oi := { dst := some 27, op := Go.Op.extract (Go.Operand.tmp 19) 1, type := 4, pos := "classes.go:109", after := #[{ on := 6, ground := Go.Ground.data }, { on := 9, ground := Go.Ground.gcOnly Go.Departure.lateStores }], guard := none }) (v := ?_) rfl (by kernel_rfl) (by kernel_rfl) (by kernel_rfl) (fun _ _ _ h => h) (Or.inl ⟨by rfl, ?hy⟩) (by assumption) ?_
      case hy => (intro w9 hSw; (try dsimp only at hSw); go_simp; try with_reducible rfl)
      try simp only [Act.put, List.setIfInBounds_toArray, List.set_cons_zero, List.set_cons_succ]
      refine wpAnyH_take (i := 9) (oi := { dst := some 5, op := Go.Op.assign (Go.Operand.tmp 26), type := 3, pos := "classes.go:109", after := #[{ on := 7, ground := Go.Ground.data }, { on := 0, ground := Go.Ground.phase }, { on := 1, ground := Go.Ground.phase }, { on := 2, ground := Go.Ground.phase }, { on := 3, ground := Go.Ground.phase }, { on := 4, ground := Go.Ground.phase }, { on := 5, ground := Go.Ground.phase }, { on := 6, ground := Go.Ground.phase }, { on := 7, ground := Go.Ground.phase }, { on := 8, ground := Go.Ground.textOnly Go.Departure.lateStores }], guard := none }) (v := ?_) rfl (by kernel_rfl) (by kernel_rfl) (by kernel_rfl) (fun _ _ _ h => h) (Or.inl ⟨by rfl, ?hy⟩) (by assumption) ?_
      case hy => (intro w9 hSw; (try dsimp only at hSw); go_simp; try with_reducible rfl)
      try simp only [Act.put, List.setIfInBounds_toArray, List.set_cons_zero, List.set_cons_succ]
      refine wpAnyH_take (i := 10) (oi := { dst := some 6, op := Go.Op.assign (Go.Operand.tmp 27), type := 4, pos := "classes.go:109", after := #[{ on := 8, ground := Go.Ground.data }, { on := 9, ground := Go.Ground.chain }, { on := 0, ground := Go.Ground.phase }, { on := 1, ground := Go.Ground.phase }, { on := 2, ground := Go.Ground.phase }, { on := 3, ground := Go.Ground.phase }, { on := 4, ground := Go.Ground.phase }, { on := 5, ground := Go.Ground.phase }, { on := 6, ground := Go.Ground.phase }, { on := 7, ground := Go.Ground.phase }, { on := 8, ground := Go.Ground.phase }, { on := 9, ground := Go.Ground.phase }], guard := none }) (v := ?_) rfl (by kernel_rfl) (by kernel_rfl) (by kernel_rfl) (fun _ _ _ h => h) (Or.inl ⟨by rfl, ?hy⟩) (by assumption) ?_
      case hy => (intro w9 hSw; (try dsimp only at hSw); go_simp; try with_reducible rfl)
      try simp only [Act.put, List.setIfInBounds_toArray, List.set_cons_zero, List.set_cons_succ]
      refine wpAnyH_done (by kernel_rfl) ?_ _
      try simp only [Act.put, List.setIfInBounds_toArray, List.set_cons_zero, List.set_cons_succ]
      go_wp2_with fail
      exact bodyPost_end (results_none rfl _ _ _) rfl ⟨rfl, ⟨_, _, _, _, _, _, HSV.out.step (Below.refl _ _).drew, .inl ⟨rfl, rfl, HOLD.out⟩⟩, HBV.out.drew⟩
  | some Bm =>
    have k0 := h.c0
    clear h hO
    go_enter Tryz.func59, Tryz.ntmps59
    go_upto_region 2 with fail
    have HSW := HS
    have HOW := HO
    have HRW : Hid (R < w.heap.size) := hR.2
    have HMW : Hid (Bm < w.heap.size) := (HS.out.map Bm rfl).1.lt
    have HRM : Hid (R ≠ Bm) := hRm Bm rfl
    have HWS : Hid (base ≤ w.heap.size) := Nat.le_trans hR.1 (Nat.le_of_lt hR.2)
    have HBW : Hid (Below base w w) := Below.refl _ _
    clear HS HO hmm qT k0
    obtain ⟨i5, hi5, hz0, hz1, hz2⟩ := info_parts Tryz.infoL
    obtain ⟨i0, hi0, hy0, hy1, hy2⟩ := info_parts Tryz.info3
    have hsz : (Tryz.prog.info? 3).map (·.size) = some 1 := by rw [hi0]; simp [hy1]
    have HQ1 : Hid ((rowI q g).length = Nat.min q 40) := by
      have e : (rowI q g).length = Nat.min q 40 := by rw [rowI_len]; exact (Nat.min_eq_left h40).symm
      exact e
    have HQ4 : Hid (∀ v ∈ rowI q g, v.oneCell' = true) := rowI_one q g
    go_upto_region 3 with fail
    generalize hV : World.alloc w _ = V0
    have HZ : Hid (V0.heap[w.heap.size]? = some (.cells (List.replicate 40 (.int .i64 0)).toArray 112 (0, 0))) := by rw [← hV]; exact heap_alloc_last w _
    have HB0 : Hid (Below w.heap.size w V0) := by rw [← hV]; exact (Below.refl _ _).alloc (Nat.le_refl _) _
    clear hV
    have HQ2 : Hid (∀ j v, (rowI q g)[j]? = some v → V0.cell? (Addr.add ⟨R, 0, none⟩ j) = some v) := rowI_at (HOW.out.keep HB0.out HRW.out)
    have HQ3 : Hid (0 + (rowI q g).length ≤ (List.replicate 40 (Value.int .i64 0)).length) := by
      have e : 0 + (rowI q g).length ≤ (List.replicate 40 (Value.int .i64 0)).length := by rw [rowI_len, List.length_replicate]; omega
      exact e
    go_upto_region 4 with (refine wpList_copy_splice rfl (.tmp 16) (.tmp 17) 22 22 rfl 3 Tryz.underlying22 hsz (some ⟨w.heap.size, 0, none⟩) (some ⟨R, 0, none⟩) 40 40 q q rfl rfl w.heap.size 0 (List.replicate 40 (.int .i64 0)) 112 HZ.out (rowI q g) HQ1.out (fun _ => ⟨rfl, _, rfl, HQ2.out⟩) HQ3.out HQ4.out w.heap.size w HB0.out (Nat.le_refl _) ?_; intro V HG2 hB2)
    have HB2 : Hid (Below w.heap.size w V) := hB2
    have HK2 : Hid (V.heap[w.heap.size]? = some (.cells (arV (pad q g)) 112 (0, 0))) := by
      have h := HG2.out
      rw [rowI_splice h40] at h
      exact h
    clear HG2 hB2 HQ1 HQ2 HQ3 HQ4 HB0 HZ V0
    have HSV : Hid (SB V base S (some Bm) D (.slice av n cv) r n q G) := HSW.out.step HB2.out
    have HOV : Hid (Own V R q g) := HOW.out.keep HB2.out HRW.out
    have HBV : Hid (Below base w V) := HBW.out.trans (HB2.out.mono HWS.out)
    have HRV : Hid (R < V.heap.size) := Nat.lt_of_lt_of_le HRW.out HB2.out.size
    have HKV : Hid (∀ w', Below V.heap.size V w' → w'.heap[w.heap.size]? = some (.cells (arV (pad q g)) 112 (0, 0))) := fun w' h => (h.block _ (Array.getElem?_eq_some_iff.1 HK2.out).1).trans HK2.out
    have l0 : ∀ w', Below V.heap.size V w' → w'.cell? ⟨S, 0, none⟩ = some (.map (some Bm)) := fun w' h => (HSV.out.step h).c0
    have HMV : Hid (∀ w', Below V.heap.size V w' → w'.ownsMap Tryz.prog 112 (plainElem Tryz.prog 3) Bm n D) := fun w' h => ((HSV.out.step h).map Bm rfl).1
    have HPL : Hid (∀ i, i < 40 → pad q g i ≤ 1000) := fun i _ => pad_le hg i
    obtain ⟨c, hc⟩ := atKey_c (HMV.out V (Below.refl _ _)) HPL.out
    have HAT : Hid (D.atKey (kQ (pad q g)) (.lit (.int .i64 0)) = .lit (.int .i64 c)) := hc
    clear hc
    cases hh : Maps.has D (kQ (pad q g))
    · have HHAS : Hid (Maps.has D (kQ (pad q g)) = false) := hh
      have HNEW : Hid (∀ j, j < n → ¬ ∀ i, i < q → G j i = g i) := fun j hj e => by
        have : Maps.has D (kQ (pad q g)) = true := (HSV.out.has _).2 ⟨j, hj, (pad_key h40 (HSV.out.le j hj) hg).2 e⟩
        rw [hh] at this; cases this
      clear hh
      refine wp_region_held_drew (S := (fun w' => Below V.heap.size V w')) (by kernel_rfl) ((Below.refl _ _).drew) (fun hHeld => ?_)
      refine wpAnyH_take (i := 0) (oi := { dst := some 20, op := Go.Op.move (Go.Operand.tmp 0), type := 110, pos := "classes.go:109", after := #[], guard := none }) (v := ?_) rfl (by kernel_rfl) (by kernel_rfl) (by kernel_rfl) (fun _ _ _ h => h) (Or.inl ⟨by rfl, ?hy⟩) (by assumption) ?_
      case hy => (intro w9 hSw; (try dsimp only at hSw); go_simp; try with_reducible rfl)
      try simp only [Act.put, List.setIfInBounds_toArray, List.set_cons_zero, List.set_cons_succ]
      refine wpAnyH_take (i := 1) (oi := { dst := some 21, op := Go.Op.nilCheck (Go.Operand.tmp 20), type := 0, pos := "classes.go:109", after := #[{ on := 0, ground := Go.Ground.data }], guard := none }) (v := ?_) rfl (by kernel_rfl) (by kernel_rfl) (by kernel_rfl) (fun _ _ _ h => h) (Or.inl ⟨by rfl, ?hy⟩) (by assumption) ?_
      case hy => (intro w9 hSw; (try dsimp only at hSw); go_simp; try with_reducible rfl)
      try simp only [Act.put, List.setIfInBounds_toArray, List.set_cons_zero, List.set_cons_succ]
      refine wpAnyH_take (i := 2) (oi := { dst := some 22, op := Go.Op.fieldAddr 90 (Go.Operand.tmp 21) 0, type := 0, pos := "classes.go:109", after := #[{ on := 1, ground := Go.Ground.data }], guard := none }) (v := ?_) rfl (by kernel_rfl) (by kernel_rfl) (by kernel_rfl) (fun _ _ _ h => h) (Or.inl ⟨by rfl, ?hy⟩) (by assumption) ?_
      case hy => (intro w9 hSw; (try dsimp only at hSw); go_simp; try with_reducible rfl)
      try simp only [Act.put, List.setIfInBounds_toArray, List.set_cons_zero, List.set_cons_succ]
      refine wpAnyH_take (i := 3) (oi := { dst := some 23, op := Go.Op.load 88 (Go.Operand.tmp 22), type := 88, pos := "classes.go:109", after := #[{ on := 2, ground := Go.Ground.data }], guard := none }) (v := ?_) rfl (by kernel_rfl) (by kernel_rfl) (by kernel_rfl) (fun _ _ _ h => h) (Or.inl ⟨by rfl, ?hy⟩) (by assumption) ?_
      case hy => (intro w9 hSw; (try dsimp only at hSw); go_simp; try with_reducible rfl)
      try simp only [Act.put, List.setIfInBounds_toArray, List.set_cons_zero, List.set_cons_succ]
      refine wpAnyH_take (i := 4) (oi := { dst := some 24, op := Go.Op.load 112 (Go.Operand.tmp 4), type := 112, pos := "classes.go:109", after := #[], guard := none }) (v := .agg (arV (pad q g))) rfl (by kernel_rfl) (by kernel_rfl) (by kernel_rfl) (fun _ _ _ h => h) (yk (by rfl) (.tmp 4) rfl w.heap.size rfl (pad q g) HKV.out) (by assumption) ?_
      try simp only [Act.put, List.setIfInBounds_toArray, List.set_cons_zero, List.set_cons_succ]
      refine wpAnyH_take (i := 5) (oi := { dst := some 25, op := Go.Op.lookup 88 (Go.Operand.tmp 23) (Go.Operand.tmp 24) true, type := 85, pos := "classes.go:109", after := #[{ on := 3, ground := Go.Ground.data }, { on := 4, ground := Go.Ground.data }], guard := none }) (v := .tuple #[.int .i64 c, .bool false]) rfl (by kernel_rfl) (by kernel_rfl) (by kernel_rfl) (fun _ _ _ h => h) (yl (by rfl) (.tmp 23) (.tmp 24) rfl Bm n D rfl (pad q g) HPL.out rfl HMV.out c HAT.out _ HHAS.out) (by assumption) ?_
      try simp only [Act.put, List.setIfInBounds_toArray, List.set_cons_zero, List.set_cons_succ]
      refine wpAnyH_take (i := 6) (oi := { dst := some 19, op := Go.Op.move (Go.Operand.tmp 25), type := 85, pos := "classes.go:109", after := #[{ on := 5, ground := Go.Ground.data }], guard := none }) (v := ?_) rfl (by kernel_rfl) (by kernel_rfl) (by kernel_rfl) (fun _ _ _ h => h) (Or.inl ⟨by rfl, ?hy⟩) (by assumption) ?_
      case hy => (intro w9 hSw; (try dsimp only at hSw); go_simp; try with_reducible rfl)
      try simp only [Act.put, List.setIfInBounds_toArray, List.set_cons_zero, List.set_cons_succ]
      refine wpAnyH_take (i := 7) (oi := { dst := some 26, op := Go.Op.extract (Go.Operand.tmp 19) 0, type := 3, pos := "classes.go:109", after := #[{ on := 6, ground := Go.Ground.data }], guard := none }) (v := ?_) rfl (by kernel_rfl) (by kernel_rfl) (by kernel_rfl) (fun _ _ _ h => h) (Or.inl ⟨by rfl, ?hy⟩) (by assumption) ?_
      case hy => (intro w9 hSw; (try dsimp only at hSw); go_simp; try with_reducible rfl)
      try simp only [Act.put, List.setIfInBounds_toArray, List.set_cons_zero, List.set_cons_succ]
      refine wpAnyH_take (i := 8) (oi := { dst := some 27, op := Go.Op.extract (Go.Operand.tmp 19) 1, type := 4, pos := "classes.go:109", after := #[{ on := 6, ground := Go.Ground.data }, { on := 9, ground := Go.Ground.gcOnly Go.Departure.lateStores }], guard := none }) (v := ?_) rfl (by kernel_rfl) (by kernel_rfl) (by kernel_rfl) (fun _ _ _ h => h) (Or.inl ⟨by rfl, ?hy⟩) (by assumption) ?_
      case hy => (intro w9 hSw; (try dsimp only at hSw); go_simp; try with_reducible rfl)
      try simp only [Act.put, List.setIfInBounds_toArray, List.set_cons_zero, List.set_cons_succ]
      refine wpAnyH_take (i := 9) (oi := { dst := some 5, op := Go.Op.assign (Go.Operand.tmp 26), type := 3, pos := "classes.go:109", after := #[{ on := 7, ground := Go.Ground.data }, { on := 0, ground := Go.Ground.phase }, { on := 1, ground := Go.Ground.phase }, { on := 2, ground := Go.Ground.phase }, { on := 3, ground := Go.Ground.phase }, { on := 4, ground := Go.Ground.phase }, { on := 5, ground := Go.Ground.phase }, { on := 6, ground := Go.Ground.phase }, { on := 7, ground := Go.Ground.phase }, { on := 8, ground := Go.Ground.textOnly Go.Departure.lateStores }], guard := none }) (v := ?_) rfl (by kernel_rfl) (by kernel_rfl) (by kernel_rfl) (fun _ _ _ h => h) (Or.inl ⟨by rfl, ?hy⟩) (by assumption) ?_
      case hy => (intro w9 hSw; (try dsimp only at hSw); go_simp; try with_reducible rfl)
      try simp only [Act.put, List.setIfInBounds_toArray, List.set_cons_zero, List.set_cons_succ]
      refine wpAnyH_take (i := 10) (oi := { dst := some 6, op := Go.Op.assign (Go.Operand.tmp 27), type := 4, pos := "classes.go:109", after := #[{ on := 8, ground := Go.Ground.data }, { on := 9, ground := Go.Ground.chain }, { on := 0, ground := Go.Ground.phase }, { on := 1, ground := Go.Ground.phase }, { on := 2, ground := Go.Ground.phase }, { on := 3, ground := Go.Ground.phase }, { on := 4, ground := Go.Ground.phase }, { on := 5, ground := Go.Ground.phase }, { on := 6, ground := Go.Ground.phase }, { on := 7, ground := Go.Ground.phase }, { on := 8, ground := Go.Ground.phase }, { on := 9, ground := Go.Ground.phase }], guard := none }) (v := ?_) rfl (by kernel_rfl) (by kernel_rfl) (by kernel_rfl) (fun _ _ _ h => h) (Or.inl ⟨by rfl, ?hy⟩) (by assumption) ?_
      case hy => (intro w9 hSw; (try dsimp only at hSw); go_simp; try with_reducible rfl)
      try simp only [Act.put, List.setIfInBounds_toArray, List.set_cons_zero, List.set_cons_succ]
      refine wpAnyH_done (by kernel_rfl) ?_ _
      try simp only [Act.put, List.setIfInBounds_toArray, List.set_cons_zero, List.set_cons_succ]
      clear HMV l0 HKV HAT HHAS
      have HMD : Hid (V.drew.drew.ownsMap Tryz.prog 112 (plainElem Tryz.prog 3) Bm n D) := (HSV.out.map Bm rfl).1
      have HKG : Hid (∀ w', V.grownBy w' (some Bm) → w'.heap[w.heap.size]? = some (.cells (arV (pad q g)) 112 (0, 0))) := fun w' h => (h.block _ (Array.getElem?_eq_some_iff.1 HK2.out).1 (fun e => by have := Option.some.inj e; have := HMW.out; omega)).trans HK2.out
      have l0 : ∀ w', V.grownBy w' (some Bm) → w'.cell? ⟨S, 0, none⟩ = some (.map (some Bm)) := fun w' h => h.cell HSV.out.c0 (fun e => (HSV.out.ms Bm rfl).1 (Option.some.inj e).symm)
      have l1 : ∀ w', V.grownBy w' (some Bm) → w'.cell? ⟨S, 1, none⟩ = some (.slice av n cv) := fun w' h => h.cell HSV.out.c1 (fun e => (HSV.out.ms Bm rfl).1 (Option.some.inj e).symm)
      go_upto_region 6 with fail
      refine wp_region_held_drew (S := (fun w' => V.grownBy w' (some Bm))) (by kernel_rfl) (grown_drew2 V _) (fun hHeld => ?_)
      refine wpAnyH_take (i := 0) (oi := { dst := some 30, op := Go.Op.move (Go.Operand.tmp 0), type := 110, pos := "classes.go:110", after := #[], guard := none }) (v := ?_) rfl (by kernel_rfl) (by kernel_rfl) (by kernel_rfl) (fun _ _ _ h => h) (Or.inl ⟨by rfl, ?hy⟩) (by assumption) ?_
      case hy => (intro w9 hSw; (try dsimp only at hSw); go_simp; try with_reducible rfl)
      try simp only [Act.put, List.setIfInBounds_toArray, List.set_cons_zero, List.set_cons_succ]
      refine wpAnyH_take (i := 1) (oi := { dst := some 31, op := Go.Op.nilCheck (Go.Operand.tmp 30), type := 0, pos := "classes.go:110", after := #[{ on := 0, ground := Go.Ground.data }], guard := none }) (v := ?_) rfl (by kernel_rfl) (by kernel_rfl) (by kernel_rfl) (fun _ _ _ h => h) (Or.inl ⟨by rfl, ?hy⟩) (by assumption) ?_
      case hy => (intro w9 hSw; (try dsimp only at hSw); go_simp; try with_reducible rfl)
      try simp only [Act.put, List.setIfInBounds_toArray, List.set_cons_zero, List.set_cons_succ]
      refine wpAnyH_take (i := 2) (oi := { dst := some 32, op := Go.Op.fieldAddr 90 (Go.Operand.tmp 31) 0, type := 0, pos := "classes.go:110", after := #[{ on := 1, ground := Go.Ground.data }], guard := none }) (v := ?_) rfl (by kernel_rfl) (by kernel_rfl) (by kernel_rfl) (fun _ _ _ h => h) (Or.inl ⟨by rfl, ?hy⟩) (by assumption) ?_
      case hy => (intro w9 hSw; (try dsimp only at hSw); go_simp; try with_reducible rfl)
      try simp only [Act.put, List.setIfInBounds_toArray, List.set_cons_zero, List.set_cons_succ]
      refine wpAnyH_take (i := 3) (oi := { dst := some 33, op := Go.Op.load 88 (Go.Operand.tmp 32), type := 88, pos := "classes.go:110", after := #[{ on := 2, ground := Go.Ground.data }], guard := none }) (v := ?_) rfl (by kernel_rfl) (by kernel_rfl) (by kernel_rfl) (fun _ _ _ h => h) (Or.inl ⟨by rfl, ?hy⟩) (by assumption) ?_
      case hy => (intro w9 hSw; (try dsimp only at hSw); go_simp; try with_reducible rfl)
      try simp only [Act.put, List.setIfInBounds_toArray, List.set_cons_zero, List.set_cons_succ]
      refine wpAnyH_take (i := 4) (oi := { dst := some 34, op := Go.Op.load 112 (Go.Operand.tmp 4), type := 112, pos := "classes.go:110", after := #[], guard := none }) (v := .agg (arV (pad q g))) rfl (by kernel_rfl) (by kernel_rfl) (by kernel_rfl) (fun _ _ _ h => h) (yk (by rfl) (.tmp 4) rfl w.heap.size rfl (pad q g) HKG.out) (by assumption) ?_
      try simp only [Act.put, List.setIfInBounds_toArray, List.set_cons_zero, List.set_cons_succ]
      refine wpAnyH_take (i := 5) (oi := { dst := some 35, op := Go.Op.move (Go.Operand.tmp 0), type := 110, pos := "classes.go:110", after := #[], guard := none }) (v := ?_) rfl (by kernel_rfl) (by kernel_rfl) (by kernel_rfl) (fun _ _ _ h => h) (Or.inl ⟨by rfl, ?hy⟩) (by assumption) ?_
      case hy => (intro w9 hSw; (try dsimp only at hSw); go_simp; try with_reducible rfl)
      try simp only [Act.put, List.setIfInBounds_toArray, List.set_cons_zero, List.set_cons_succ]
      refine wpAnyH_take (i := 6) (oi := { dst := some 36, op := Go.Op.nilCheck (Go.Operand.tmp 35), type := 0, pos := "classes.go:110", after := #[{ on := 5, ground := Go.Ground.data }], guard := none }) (v := ?_) rfl (by kernel_rfl) (by kernel_rfl) (by kernel_rfl) (fun _ _ _ h => h) (Or.inl ⟨by rfl, ?hy⟩) (by assumption) ?_
      case hy => (intro w9 hSw; (try dsimp only at hSw); go_simp; try with_reducible rfl)
      try simp only [Act.put, List.setIfInBounds_toArray, List.set_cons_zero, List.set_cons_succ]
      refine wpAnyH_take (i := 7) (oi := { dst := some 37, op := Go.Op.fieldAddr 90 (Go.Operand.tmp 36) 1, type := 0, pos := "classes.go:110", after := #[{ on := 6, ground := Go.Ground.data }], guard := none }) (v := ?_) rfl (by kernel_rfl) (by kernel_rfl) (by kernel_rfl) (fun _ _ _ h => h) (Or.inl ⟨by rfl, ?hy⟩) (by assumption) ?_
      case hy => (intro w9 hSw; (try dsimp only at hSw); go_simp; try with_reducible rfl)
      try simp only [Act.put, List.setIfInBounds_toArray, List.set_cons_zero, List.set_cons_succ]
      refine wpAnyH_take (i := 8) (oi := { dst := some 38, op := Go.Op.load 25 (Go.Operand.tmp 37), type := 25, pos := "classes.go:110", after := #[{ on := 7, ground := Go.Ground.data }], guard := none }) (v := ?_) rfl (by kernel_rfl) (by kernel_rfl) (by kernel_rfl) (fun _ _ _ h => h) (Or.inl ⟨by rfl, ?hy⟩) (by assumption) ?_
      case hy => (intro w9 hSw; (try dsimp only at hSw); go_simp; try with_reducible rfl)
      try simp only [Act.put, List.setIfInBounds_toArray, List.set_cons_zero, List.set_cons_succ]
      refine wpAnyH_take (i := 9) (oi := { dst := some 39, op := Go.Op.call { callee := Go.Callee.builtin Go.Builtin.len, args := #[Go.Operand.tmp 38], argTypes := #[25] }, type := 3, pos := "classes.go:110", after := #[{ on := 8, ground := Go.Ground.data }], guard := none }) (v := ?_) rfl (by kernel_rfl) (by kernel_rfl) (by kernel_rfl) (fun _ _ _ h => h) (Or.inl ⟨by rfl, ?hy⟩) (by assumption) ?_
      case hy => (intro w9 hSw; (try dsimp only at hSw); go_simp; try with_reducible rfl)
      try simp only [Act.put, List.setIfInBounds_toArray, List.set_cons_zero, List.set_cons_succ]
      refine wpAnyH_ready (rs := [10]) (by kernel_rfl) (by simp) ?_
      refine AllReadyH.cons (o := { dst := none, op := Go.Op.mapUpdate 88 (Go.Operand.tmp 33) (Go.Operand.tmp 34) (Go.Operand.tmp 39), type := 0, pos := "classes.go:110", after := #[{ on := 3, ground := Go.Ground.data }, { on := 4, ground := Go.Ground.data }, { on := 9, ground := Go.Ground.data }, { on := 0, ground := Go.Ground.phase }, { on := 1, ground := Go.Ground.phase }, { on := 2, ground := Go.Ground.phase }, { on := 3, ground := Go.Ground.phase }, { on := 4, ground := Go.Ground.phase }, { on := 5, ground := Go.Ground.phase }, { on := 6, ground := Go.Ground.phase }, { on := 7, ground := Go.Ground.phase }, { on := 8, ground := Go.Ground.phase }, { on := 9, ground := Go.Ground.phase }], guard := none }) rfl (fun K hK => ?_) AllReadyH.nil
      rw [if_pos (by rfl)]
      refine wpu (.tmp 33) (.tmp 34) (.tmp 39) rfl Bm n D rfl (pad q g) HPL.out rfl rfl HMD.out hn ?_
      intro w5 hown5 hgrow5
      refine hK.out _ _ ?_ (fun hHeld => ?_)
      · exact (grown_drew2 V _).trans hgrow5
      clear hK K
      try simp only [Act.put, List.setIfInBounds_toArray, List.set_cons_zero, List.set_cons_succ]
      refine wpAnyH_done (by kernel_rfl) ?_ _
      try simp only [Act.put, List.setIfInBounds_toArray, List.set_cons_zero, List.set_cons_succ]
      have HW5 : Hid (V.drew.drew.grownBy w5 (some Bm)) := hgrow5
      have HO5 : Hid (w5.ownsMap Tryz.prog 112 (plainElem Tryz.prog 3) Bm (n + 1) (D.put (kQ (pad q g)) (.lit (.int .i64 (n : Nat))))) := hown5
      have hVS : (V.drew.drew).heap.size = V.heap.size := rfl
      have hsz5 : V.heap.size ≤ w5.heap.size := HW5.out.size
      have hown6 : w5.ownsRow base 22 1 (.slice av n cv) n (slv r q n) := (HSV.out.rows.far ((grown_drew2 V _).trans HW5.out) (fun k e x => by injection e with e; subst e; exact (HSV.out.ms _ rfl).2.1 x.symm) (fun j hj e => (HSV.out.ms _ rfl).2.2 j hj (Option.some.inj e))).own
      have l2 := l1 w5 ((grown_drew2 V _).trans HW5.out)
      have hbV : base ≤ V.heap.size := Nat.le_trans HWS.out HB2.out.size
      clear hown5 hgrow5 l0 l1 HKG HMD hHeld
      go_wp2_with (at_builtin; refine wpList_append_own_at _ rfl _ _ 25 rfl base 22 i5 (.slice none 0 0) 1 24 Tryz.underlying25 hi5 hz0 hz1 hz2 rfl (by decide) _ _ _ rfl (hown6.alloc _) ⟨w5.heap.size, 0, none⟩ 1 1 [.slice (some ⟨R, 0, none⟩) q q] rfl rfl ?c1 ?c2 ?c3 ?c4 ?c5 ?_)
      case c1 =>
        intro j u hj
        match j, hj with
        | 0, hj => simp at hj; subst hj; simp [Addr.add]
      case c2 => intro u hu; simp at hu; subst hu; rfl
      case c3 => unfold maxLen; omega
      case c4 => omega
      case c5 => first | omega | (simp; omega)
      intro v0 w7 hown' hgrow _ hat
      obtain ⟨a0, c0, rfl⟩ := slice_of hown'
      have HMORE := SB.more (HSV.out.step ((Below.refl _ _).drew.drew)) ⟨hR.1, HRV.out⟩ hRv hRS HRM.out HOV.out hg HO5.out HW5.out hown' hgrow (by simpa using hat)
      have HM1 : Hid (SB (w7.setCell ⟨S, 1, none⟩ (.slice a0 (n + 1) c0)) base S (some Bm) (D.put (kQ (pad q g)) (.lit (.int .i64 (n : Nat)))) (.slice a0 (n + 1) c0) (fun j => if j = n then R else r j) (n + 1) q (fun j => if j = n then g else G j)) := HMORE.1
      have HM2 : Hid (Below base w (w7.setCell ⟨S, 1, none⟩ (.slice a0 (n + 1) c0))) := HBV.out.drew.drew.trans HMORE.2
      have hS7 : w7.heap[S]? = V.heap[S]? := by
        have hSV := HSV.out.lt
        have e1 : w7.heap[S]? = (w5.alloc (.cells #[.slice (some ⟨R, 0, none⟩) q q] 22)).heap[S]? := hgrow.block S (by simp; omega) HSV.out.sv
        have e2 : (w5.alloc (.cells #[.slice (some ⟨R, 0, none⟩) q q] 22)).heap[S]? = w5.heap[S]? := ((Below.refl w5.heap.size w5).alloc (Nat.le_refl _) _).block S (by omega)
        have e3 : w5.heap[S]? = V.heap[S]? := HW5.out.block S hSV (fun e => (HSV.out.ms Bm rfl).1 (Option.some.inj e).symm)
        exact e1.trans (e2.trans e3)
      have l3 := (World.cell?_of_block (a := ⟨S, 1, none⟩) hS7).trans HSV.out.c1
      have l4 := (World.frozen?_of_block (a := ⟨S, 1, none⟩) hS7).trans HSV.out.f1
      clear HMORE hown' hgrow hat hown6 hS7 l2
      go_wp2_with fail
      exact bodyPost_end (results_none rfl _ _ _) rfl ⟨rfl, ⟨_, _, _, _, _, _, HM1.out, .inr ⟨rfl, rfl, HNEW.out⟩⟩, HM2.out⟩
    · have HHAS : Hid (Maps.has D (kQ (pad q g)) = true) := hh
      have HOLD : Hid (∃ j, j < n ∧ ∀ i, i < q → G j i = g i) := by
        obtain ⟨j, hj, e⟩ := (HSV.out.has _).1 hh
        exact ⟨j, hj, (pad_key h40 (HSV.out.le j hj) hg).1 e⟩
      clear hh
      refine wp_region_held_drew (S := (fun w' => Below V.heap.size V w')) (by kernel_rfl) ((Below.refl _ _).drew) (fun hHeld => ?_)
      refine wpAnyH_take (i := 0) (oi := { dst := some 20, op := Go.Op.move (Go.Operand.tmp 0), type := 110, pos := "classes.go:109", after := #[], guard := none }) (v := ?_) rfl (by kernel_rfl) (by kernel_rfl) (by kernel_rfl) (fun _ _ _ h => h) (Or.inl ⟨by rfl, ?hy⟩) (by assumption) ?_
      case hy => (intro w9 hSw; (try dsimp only at hSw); go_simp; try with_reducible rfl)
      try simp only [Act.put, List.setIfInBounds_toArray, List.set_cons_zero, List.set_cons_succ]
      refine wpAnyH_take (i := 1) (oi := { dst := some 21, op := Go.Op.nilCheck (Go.Operand.tmp 20), type := 0, pos := "classes.go:109", after := #[{ on := 0, ground := Go.Ground.data }], guard := none }) (v := ?_) rfl (by kernel_rfl) (by kernel_rfl) (by kernel_rfl) (fun _ _ _ h => h) (Or.inl ⟨by rfl, ?hy⟩) (by assumption) ?_
      case hy => (intro w9 hSw; (try dsimp only at hSw); go_simp; try with_reducible rfl)
      try simp only [Act.put, List.setIfInBounds_toArray, List.set_cons_zero, List.set_cons_succ]
      refine wpAnyH_take (i := 2) (oi := { dst := some 22, op := Go.Op.fieldAddr 90 (Go.Operand.tmp 21) 0, type := 0, pos := "classes.go:109", after := #[{ on := 1, ground := Go.Ground.data }], guard := none }) (v := ?_) rfl (by kernel_rfl) (by kernel_rfl) (by kernel_rfl) (fun _ _ _ h => h) (Or.inl ⟨by rfl, ?hy⟩) (by assumption) ?_
      case hy => (intro w9 hSw; (try dsimp only at hSw); go_simp; try with_reducible rfl)
      try simp only [Act.put, List.setIfInBounds_toArray, List.set_cons_zero, List.set_cons_succ]
      refine wpAnyH_take (i := 3) (oi := { dst := some 23, op := Go.Op.load 88 (Go.Operand.tmp 22), type := 88, pos := "classes.go:109", after := #[{ on := 2, ground := Go.Ground.data }], guard := none }) (v := ?_) rfl (by kernel_rfl) (by kernel_rfl) (by kernel_rfl) (fun _ _ _ h => h) (Or.inl ⟨by rfl, ?hy⟩) (by assumption) ?_
      case hy => (intro w9 hSw; (try dsimp only at hSw); go_simp; try with_reducible rfl)
      try simp only [Act.put, List.setIfInBounds_toArray, List.set_cons_zero, List.set_cons_succ]
      refine wpAnyH_take (i := 4) (oi := { dst := some 24, op := Go.Op.load 112 (Go.Operand.tmp 4), type := 112, pos := "classes.go:109", after := #[], guard := none }) (v := .agg (arV (pad q g))) rfl (by kernel_rfl) (by kernel_rfl) (by kernel_rfl) (fun _ _ _ h => h) (yk (by rfl) (.tmp 4) rfl w.heap.size rfl (pad q g) HKV.out) (by assumption) ?_
      try simp only [Act.put, List.setIfInBounds_toArray, List.set_cons_zero, List.set_cons_succ]
      refine wpAnyH_take (i := 5) (oi := { dst := some 25, op := Go.Op.lookup 88 (Go.Operand.tmp 23) (Go.Operand.tmp 24) true, type := 85, pos := "classes.go:109", after := #[{ on := 3, ground := Go.Ground.data }, { on := 4, ground := Go.Ground.data }], guard := none }) (v := .tuple #[.int .i64 c, .bool true]) rfl (by kernel_rfl) (by kernel_rfl) (by kernel_rfl) (fun _ _ _ h => h) (yl (by rfl) (.tmp 23) (.tmp 24) rfl Bm n D rfl (pad q g) HPL.out rfl HMV.out c HAT.out _ HHAS.out) (by assumption) ?_
      try simp only [Act.put, List.setIfInBounds_toArray, List.set_cons_zero, List.set_cons_succ]
      refine wpAnyH_take (i := 6) (oi := { dst := some 19, op := Go.Op.move (Go.Operand.tmp 25), type := 85, pos := "classes.go:109", after := #[{ on := 5, ground := Go.Ground.data }], guard := none }) (v := ?_) rfl (by kernel_rfl) (by kernel_rfl) (by kernel_rfl) (fun _ _ _ h => h) (Or.inl ⟨by rfl, ?hy⟩) (by assumption) ?_
      case hy => (intro w9 hSw; (try dsimp only at hSw); go_simp; try with_reducible rfl)
      try simp only [Act.put, List.setIfInBounds_toArray, List.set_cons_zero, List.set_cons_succ]
      refine wpAnyH_take (i := 7) (oi := { dst := some 26, op := Go.Op.extract (Go.Operand.tmp 19) 0, type := 3, pos := "classes.go:109", after := #[{ on := 6, ground := Go.Ground.data }], guard := none }) (v := ?_) rfl (by kernel_rfl) (by kernel_rfl) (by kernel_rfl) (fun _ _ _ h => h) (Or.inl ⟨by rfl, ?hy⟩) (by assumption) ?_
      case hy => (intro w9 hSw; (try dsimp only at hSw); go_simp; try with_reducible rfl)
      try simp only [Act.put, List.setIfInBounds_toArray, List.set_cons_zero, List.set_cons_succ]
      refine wpAnyH_take (i := 8) (oi := { dst := some 27, op := Go.Op.extract (Go.Operand.tmp 19) 1, type := 4, pos := "classes.go:109", after := #[{ on := 6, ground := Go.Ground.data }, { on := 9, ground := Go.Ground.gcOnly Go.Departure.lateStores }], guard := none }) (v := ?_) rfl (by kernel_rfl) (by kernel_rfl) (by kernel_rfl) (fun _ _ _ h => h) (Or.inl ⟨by rfl, ?hy⟩) (by assumption) ?_
      case hy => (intro w9 hSw; (try dsimp only at hSw); go_simp; try with_reducible rfl)
      try simp only [Act.put, List.setIfInBounds_toArray, List.set_cons_zero, List.set_cons_succ]
      refine wpAnyH_take (i := 9) (oi := { dst := some 5, op := Go.Op.assign (Go.Operand.tmp 26), type := 3, pos := "classes.go:109", after := #[{ on := 7, ground := Go.Ground.data }, { on := 0, ground := Go.Ground.phase }, { on := 1, ground := Go.Ground.phase }, { on := 2, ground := Go.Ground.phase }, { on := 3, ground := Go.Ground.phase }, { on := 4, ground := Go.Ground.phase }, { on := 5, ground := Go.Ground.phase }, { on := 6, ground := Go.Ground.phase }, { on := 7, ground := Go.Ground.phase }, { on := 8, ground := Go.Ground.textOnly Go.Departure.lateStores }], guard := none }) (v := ?_) rfl (by kernel_rfl) (by kernel_rfl) (by kernel_rfl) (fun _ _ _ h => h) (Or.inl ⟨by rfl, ?hy⟩) (by assumption) ?_
      case hy => (intro w9 hSw; (try dsimp only at hSw); go_simp; try with_reducible rfl)
      try simp only [Act.put, List.setIfInBounds_toArray, List.set_cons_zero, List.set_cons_succ]
      refine wpAnyH_take (i := 10) (oi := { dst := some 6, op := Go.Op.assign (Go.Operand.tmp 27), type := 4, pos := "classes.go:109", after := #[{ on := 8, ground := Go.Ground.data }, { on := 9, ground := Go.Ground.chain }, { on := 0, ground := Go.Ground.phase }, { on := 1, ground := Go.Ground.phase }, { on := 2, ground := Go.Ground.phase }, { on := 3, ground := Go.Ground.phase }, { on := 4, ground := Go.Ground.phase }, { on := 5, ground := Go.Ground.phase }, { on := 6, ground := Go.Ground.phase }, { on := 7, ground := Go.Ground.phase }, { on := 8, ground := Go.Ground.phase }, { on := 9, ground := Go.Ground.phase }], guard := none }) (v := ?_) rfl (by kernel_rfl) (by kernel_rfl) (by kernel_rfl) (fun _ _ _ h => h) (Or.inl ⟨by rfl, ?hy⟩) (by assumption) ?_
      case hy => (intro w9 hSw; (try dsimp only at hSw); go_simp; try with_reducible rfl)
      try simp only [Act.put, List.setIfInBounds_toArray, List.set_cons_zero, List.set_cons_succ]
      refine wpAnyH_done (by kernel_rfl) ?_ _
      try simp only [Act.put, List.setIfInBounds_toArray, List.set_cons_zero, List.set_cons_succ]
      go_wp2_with fail
      exact bodyPost_end (results_none rfl _ _ _) rfl ⟨rfl, ⟨_, _, _, _, _, _, HSV.out.step (Below.refl _ _).drew, .inl ⟨rfl, rfl, HOLD.out⟩⟩, HBV.out.drew⟩
end Go.Proofs.YthhnngmfbbljaaaGreat
