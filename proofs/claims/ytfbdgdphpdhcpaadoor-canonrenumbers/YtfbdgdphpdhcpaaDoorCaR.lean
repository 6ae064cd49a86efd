/-
  What the reference's May, and extend's mayFollow and goingOn answer. Conditions: an order of at most ten points that lies in a slice of numbers; a table of what goes behind each set.
  What slices.Clone answers of numbers. Conditions: at most ten.
  Small laws of other texts: what canon's own calls ask of them. No condition.
  canon.lists hands back an iterator over all lists of n points, in order. Conditions: at most ten points; the library's table.
  What the reference's Same answers; that hasselaw.orderBegun answers true. Conditions: slices read as slices of numbers.
  What the reference's SameOrder and hasselaw.given answer. Conditions: slices read as slices of numbers.
  For every order that is handed in, hasselaw.OrderChecks returns true, and writes nothing that was there. No condition.
  What a good order gives. No condition.
  The order that a list of points makes of an order (out of re/Part). No condition.
  What canon.renumbered answers: what is below each point when the list's points are numbered by their places. Conditions: at most ten points; the list's numbers are points.
-/
import Derived.Test.YtfbdgdphpdhcpaaDoorCaM
import Derived.Test.YtfbdgdphpdhcpaaDoorRngX
import Derived.RangeFuncBound
import Derived.RangeFuncCalls
import Derived.Shelf.RegionOpen
import Derived.Shelf.Abstract
import Derived.WalkKit
import Derived.OwnWalkIn
import Derived.TacticsInMore
import Derived.LoopNIn
import Derived.LoopIn
import Derived.Maps.AppendAt
import Derived.Test.YtfbdgdphpdhcpaaDoorLateM
import Derived.Laws.EntriesVeiled
import Derived.Test.YtfbdgdphpdhcpaaDoorSets
import Derived.Deep.RegionHeld3
namespace Go.Proofs.YtfbdgdphpdhcpaaDoor
open Go.RowKit

/-- The table of what goes behind each set, from some set on. -/
def Tabl (w : World) (b n lo : Nat) (u : Nat → Nat) : Prop := ∀ s, s < pw n → lo ≤ s → w.cell? ⟨b, s, none⟩ = some (.int .i64 (ways u n s : Nat))
theorem Tabl.step {w w' : World} {b n lo : Nat} {u : Nat → Nat} (h : Tabl w b n lo u) (hb : Below w.heap.size w w') : Tabl w' b n lo u := fun s hs hl => by
  have := h s hs hl
  exact (hb.cell (World.block_lt_of_cell? _ _ this)).trans this

end Go.Proofs.YtfbdgdphpdhcpaaDoor
namespace Go.Proofs.YtfbdgdphpdhcpaaDoor
open Go.RowKit

set_option maxHeartbeats 1000000 in
theorem clone_any (n : Nat) (a : Option Addr) (cap : Nat) (g : Nat → Nat) (w : World) (hn : n ≤ 10) (hr : Row w a n (fun k => (g k : Nat))) :
    Calls Tryd.prog 35 #[.slice a n cap] w fun e w' => (∃ v, e = .returned v ∧ w'.ownsRow w.heap.size 3 1 v n (rowVals g n)) ∧ Below w.heap.size w w' := by
  obtain ⟨i0, hi, hz0, hz1, hz2⟩ := info_parts Tryd.info3
  rcases a with _ | a
  · have h0 : n = 0 := by
      rcases Nat.eq_zero_or_pos n with h | h
      · exact h
      · obtain ⟨b, off, e, _⟩ := hr 0 h; cases e
    subst h0
    clear hr
    have hq : ∀ w, (binOp .eql 22 (.slice none 0 cap) (.slice none 0 0)).run Tryd.prog w = .ok (.bool true) w := fun w => Lib.run_eql_slice_nil w 22 3 none 0 cap 0 0 Tryd.underlying22
    go_enter Tryd.func35, Tryd.ntmps35
    go_wp2_with fail
    go_ret
    exact ⟨⟨_, rfl, World.ownsRow_nil _ _ _ _⟩, Below.refl _ _⟩
  · have hq : ∀ w, (binOp .eql 22 (.slice (some a) n cap) (.slice none 0 0)).run Tryd.prog w = .ok (.bool false) w := fun w => Lib.run_eql_slice_nil w 22 3 (some a) n cap 0 0 Tryd.underlying22
    go_enter Tryd.func35, Tryd.ntmps35
    have hown : (w.alloc (.cells #[] 3)).ownsRow w.heap.size 3 1 (.slice (some ⟨w.heap.size, 0, none⟩) 0 0) 0 [] := World.ownsRow_made w #[] 0 (Nat.le_refl _) (by unfold maxLen; omega) (by simp)
    go_wp2_with (at_builtin; refine wpList_append_own _ rfl _ _ 22 rfl w.heap.size 3 i0 (.int .i64 0) 1 8 Tryd.underlying22 hi hz0 hz1 hz2 rfl (by decide) _ _ _ rfl hown a n cap (rowVals g n) rfl (by simp [rowVals]) ?c1 ?c2 ?c3 ?c4 ?c5 ?_)
    case c1 =>
      intro j u hj
      have hjn : j < n := by
        rcases Nat.lt_or_ge j n with h | h
        · exact h
        · rw [List.getElem?_eq_none (by simp [rowVals]; omega)] at hj; cases hj
      rw [rowVals_at g n j hjn] at hj
      cases hj
      obtain ⟨b, off, e, hc⟩ := hr j hjn
      cases e
      have hlt := World.block_lt_of_cell? _ _ hc
      have e2 : (⟨b, off, none⟩ : Addr).add j = ⟨b, off + j, none⟩ := by unfold Addr.add; split <;> simp_all
      rw [e2, World.cell?_alloc_old _ _ _ (Nat.ne_of_lt hlt)]
      exact hc
    case c2 =>
      intro u hu
      simp [rowVals] at hu
      obtain ⟨k, _, rfl⟩ := hu
      rfl
    case c3 => unfold maxLen; omega
    case c4 => omega
    case c5 => simp
    intro v' w2 hown' hgrow _
    have HO : Hid (w2.ownsRow w.heap.size 3 1 v' n (rowVals g n)) := by
      first
        | exact hown'
        | simpa using hown'
    have HB : Hid (Below w.heap.size w w2) := ((Below.refl _ _).alloc (Nat.le_refl _) _).grown hgrow (by simp) (by intro k hk; simp [Value.ownBlock] at hk; omega)
    clear hown' hgrow hown
    go_wp2_with fail
    go_ret
    exact ⟨⟨_, rfl, HO.out⟩, HB.out⟩
end Go.Proofs.YtfbdgdphpdhcpaaDoor
namespace Go.Proofs.YtfbdgdphpdhcpaaDoor
open Go.RowKit

theorem owns_mono {w : World} {b b' size n : Nat} {e : TypeId} {v : Value} {xs : List Value} (h : w.ownsRow b e size v n xs) (hb : b' ≤ b) : w.ownsRow b' e size v n xs := by
  refine ⟨h.1, ?_⟩
  rcases h.2 with h0 | ⟨g, cap, cur, h1, h2, h3⟩
  · exact .inl h0
  · exact .inr ⟨g, cap, cur, h1, Nat.le_trans hb h2, h3⟩
/-- What lies in cells is kept where another block turns that is no cells. -/
theorem nc_owns {W W' : World} {row : Option Nat} {base size n : Nat} {e : TypeId} {v : Value} {xs : List Value} (h : W.ownsRow base e size v n xs) (hg : W.grownBy W' row) (hr : ∀ r, row = some r → ∃ o : Obj, W.heap[r]? = some o ∧ o.isCells = false) : W'.ownsRow base e size v n xs := by
  refine h.kept hg ?_
  rcases h.2 with ⟨rfl, _⟩ | ⟨g, cap, cur, rfl, _, hgg, _⟩
  · exact .inl rfl
  · refine .inr fun e => ?_
    obtain ⟨o, ho, hc⟩ := hr g e.symm
    rw [hgg] at ho
    cases ho; cases hc
theorem nc_cell {W W' : World} {row : Option Nat} {p : Addr} {v : Value} (h : W.cell? p = some v) (hg : W.grownBy W' row) (hr : ∀ r, row = some r → ∃ o : Obj, W.heap[r]? = some o ∧ o.isCells = false) : W'.cell? p = some v ∧ W'.frozen? p = W.frozen? p := by
  obtain ⟨o, ho, hc⟩ := cells_of_cell h
  have hb : W'.heap[p.block]? = W.heap[p.block]? := hg.block _ (World.block_lt_of_cell? _ _ h) fun e => by
    obtain ⟨o', ho', hc'⟩ := hr _ e.symm
    rw [ho] at ho'; cases ho'; rw [hc] at hc'; cases hc'
  refine ⟨by rw [← h]; exact World.cell?_of_block (w := W) hb, ?_⟩
  unfold World.frozen?
  rw [hb]
/-- A block of just n numbers. -/
def Szd (w : World) (b n : Nat) : Prop := ∃ cs, w.heap[b]? = some (.cells cs 3 (0, 0)) ∧ cs.size = n
theorem Szd.below {K : Nat} {w w' : World} {b n : Nat} (h : Szd w b n) (hb : Below K w w') (hlt : b < K) : Szd w' b n := by
  obtain ⟨cs, h1, h2⟩ := h
  exact ⟨cs, (hb.block b hlt).trans h1, h2⟩
theorem Szd.set {w : World} {b n : Nat} (h : Szd w b n) (a : Addr) (x : Value) : Szd (w.setCell a x) b n := by
  obtain ⟨cs, h1, h2⟩ := h
  by_cases e : b = a.block
  · refine ⟨if a.spot.isSome then cs else cs.setIfInBounds a.off x, ?_, by split <;> simp [h2]⟩
    unfold World.setCell
    simp only [Array.getElem?_modify, if_pos e.symm, h1, Option.map_some]
  · exact ⟨cs, (Below.heap_setCell _ _ _ _ e).trans h1, h2⟩
theorem Szd.nc {W W' : World} {row : Option Nat} {b n : Nat} (h : Szd W b n) (hg : W.grownBy W' row) (hr : ∀ r, row = some r → ∃ o : Obj, W.heap[r]? = some o ∧ o.isCells = false) : Szd W' b n := by
  obtain ⟨cs, h1, h2⟩ := h
  refine ⟨cs, (hg.block _ (Array.getElem?_eq_some_iff.1 h1).1 fun e => ?_).trans h1, h2⟩
  obtain ⟨o, ho, hc⟩ := hr b e.symm
  rw [h1] at ho
  cases ho; cases hc
theorem szd_made {w : World} {base b n : Nat} {xs : List Value} (h : w.ownsRow base 3 1 (.slice (some ⟨b, 0, none⟩) n n) n xs) : Szd w b n := by
  rcases h.2 with ⟨h0, _⟩ | ⟨g, cap, cur, h1, _, h3, _, _, h4, _⟩
  · cases h0
  · injection h1 with e1 e2 e3
    injection e1 with e4
    injection e4 with e5
    subst e3 e5
    exact ⟨cur, h3, by rw [h4]; omega⟩
theorem all_as (n : Nat) (w : World) (hn : n ≤ 10) (M : Nat) (hM : M + 1 = pw n) :
    Calls Tryd.prog 47 #[.int .i64 n] w fun e w' => e = .returned (.int .i64 (M : Nat)) ∧ w = w' :=
  (all_any n w hn).mono fun _ _ ⟨h1, h2⟩ => ⟨by rw [h1]; exact ret_int (by omega), h2⟩
end Go.Proofs.YtfbdgdphpdhcpaaDoor
namespace Go.Proofs.YtfbdgdphpdhcpaaDoor
open Go.RowKit
set_option maxRecDepth 100000

theorem wp_make0 {o : Oper} {a : Act} {K : Act → World → Prop} {Q : Exit → Act → World → Prop} (base : Nat) (w : World) (l c : Operand) (hop : o.op = Op.makeSlice 22 l c) (n : Nat) (hl : a.eval l = .int .i64 0) (hc : a.eval c = .int .i64 (n : Int)) (hn : n ≤ 1000) (hb : base ≤ w.heap.size)
    (h : ∀ w', w'.ownsRow base 3 1 (.slice (some ⟨w.heap.size, 0, none⟩) 0 n) 0 [] → Below w.heap.size w w' → K (a.put o.dst (.slice (some ⟨w.heap.size, 0, none⟩) 0 n)) w') : o.wp Tryd.prog a w K Q := by
  obtain ⟨j0, hj, hy0, hy1, hy2⟩ := info_parts Tryd.info3
  obtain ⟨w', hrun, r1, r2⟩ := run_make_own (P := Tryd.prog) w base 22 3 j0 (.int .i64 0) 1 Tryd.underlying22 hj hy0 hy1 .i64 .i64 n (by rw [hy2]; omega) (by unfold maxLen; omega) hb
  have hK := h w' r1 ((Below.refl _ _).grown r2 (Nat.le_refl _) (fun k e => by cases e))
  unfold Oper.wp
  simp [execOp, hop, hl, hc, hrun, Result.andThen]
  exact hK
theorem yield_any {m : Nat} (m' : Nat) {P : Program} {l : Nat} {args : Array Value} {W : World} {R : Ending → World → Prop} (h : YieldAt Fence.wide m P l args W R) : YieldAt Fence.wide m' P l args W R := by
  obtain ⟨fn, tmps, assign, body, hy, hR⟩ := h
  exact ⟨fn, tmps, assign, body, hy, hR.1, fun c cs _ => hR.2 c cs (fun d hd => by cases hd)⟩
theorem cellS {w w' : World} {p : Addr} {v : Value} (hb : Below w.heap.size w w') (h : w.cell? p = some v) : w'.cell? p = some v := (hb.cell (World.block_lt_of_cell? _ _ h)).trans h
theorem lists_any (n : Int) (w : World) : Calls Tryd.prog 33 #[.int .i64 n] w fun e w' => e = .returned (.func (.func 44) #[] #[.pointer (some ⟨w.heap.size, 0, none⟩)]) ∧ w' = w.alloc (.cells #[.int .i64 n] 3) := by
  go_enter Tryd.func33, Tryd.ntmps33
  go_wp2
  go_ret
  exact ⟨rfl, rfl⟩
/-- What a round is handed. -/
def encL (n : Nat) (x : Nat × List Nat) : Value := .slice (some ⟨x.1, 0, none⟩) n n
def VL (n K B : Nat) (x : Nat × List Nat) (W : World) : Prop := x.1 = B ∧ K ≤ B ∧ W.ownsRow K 3 1 (encL n x) n (natVals x.2) ∧ x.2 ∈ per n [] (pw n - 1)
theorem VL.loop {n K : Nat} (B : Nat) (x : Nat × List Nat) (A : World) (l : Nat) (r r' : Loop) (h : VL n K B x A) (hl : A.heap[l]? = some (.loop r)) : VL n K B x (A.putObj l (.loop r')) :=
  ⟨h.1, h.2.1, (OthS.loop (fun _ => False) A l r r' hl).owns h.2.2.1 (fun _ _ _ h => h), h.2.2.2⟩
theorem pcAll : ((List.range 11).all fun n => decide (pw n - 1 < 1024) && (pc (pw n - 1) == n)) = true := by decide +kernel
theorem pc_all {n : Nat} (hn : n ≤ 10) : pw n - 1 < 1024 ∧ pc (pw n - 1) = n := by
  have := List.all_eq_true.1 pcAll n (List.mem_range.2 (by omega))
  simpa using this
set_option maxHeartbeats 4000000 in
theorem lists_seq (m n A : Nat) (C : Nat → Prop) (w : World) (hn : n ≤ 10) (hT : Tab w) (nT : ¬ C 1) (hC : ∀ k, C k → k < w.heap.size) (a0 : w.cell? ⟨A, 0, none⟩ = some (.int .i64 (n : Nat))) :
    SeqX Fence.wide m Tryd.prog 44 #[.pointer (some ⟨A, 0, none⟩)] (encL n) (VL n w.heap.size) (OthS C) (fun xs => xs.map Prod.snd = per n [] (pw n - 1)) (per n [] (pw n - 1)).length w := fun l J W hW hJ hY h0 => by
  refine callsIn_wide.2 ?_
  show Calls Tryd.prog 44 #[.func (.yield l) #[] #[], .pointer (some ⟨A, 0, none⟩)] W _
  obtain ⟨X, HXE⟩ : ∃ X, Hid (X = W.alloc (.cells #[.func (.yield l) #[] #[]] 66)) := ⟨_, rfl⟩
  have hX : Below W.heap.size W X := by rw [HXE.out]; exact (Below.refl _ _).alloc (Nat.le_refl _) _
  have hXs : X.heap.size = W.heap.size + 1 := by rw [HXE.out]; simp
  have cY : X.cell? ⟨W.heap.size, 0, none⟩ = some (.func (.yield l) #[] #[]) := by rw [HXE.out]; simp
  obtain ⟨W0, HWE⟩ : ∃ W0, Hid (W0 = X.alloc (.cells #[.func (.func 45) #[] #[.pointer (some ⟨W.heap.size, 0, none⟩), .pointer (some ⟨W.heap.size + 1, 0, none⟩)]] 67)) := ⟨_, rfl⟩
  have hb2 : Below X.heap.size X W0 := by rw [HWE.out]; exact (Below.refl _ _).alloc (Nat.le_refl _) _
  have hWW : Below W.heap.size W W0 := Below.then hX hb2
  have hww : Below w.heap.size w W0 := Below.then hW hWW
  have h0s : W0.heap.size = W.heap.size + 2 := by rw [HWE.out]; simp [hXs]
  have cG : W0.cell? ⟨W.heap.size + 1, 0, none⟩ = some (.func (.func 45) #[] #[.pointer (some ⟨W.heap.size, 0, none⟩), .pointer (some ⟨W.heap.size + 1, 0, none⟩)]) := by rw [HWE.out, ← hXs]; simp
  have hWs := hW.size
  have ht1 : 1 < w.heap.size := World.block_lt_of_cell? _ _ (hT 0 (by decide))
  obtain ⟨M, HM⟩ : ∃ M, Hid (M = pw n - 1) := ⟨_, rfl⟩
  have hM : M + 1 = pw n := by rw [HM.out]; have := pw_pos n; omega
  have hP := pc_all hn
  rw [← HM.out] at hP
  have HGO : Hid (∀ B w5, Below W0.heap.size W0 w5 → w5.ownsRow W0.heap.size 3 1 (.slice (some ⟨B, 0, none⟩) 0 n) 0 [] → Calls Tryd.prog 45 #[.slice (some ⟨B, 0, none⟩) 0 n, .int .i64 (M : Nat), .pointer (some ⟨W.heap.size, 0, none⟩), .pointer (some ⟨W.heap.size + 1, 0, none⟩)] w5 fun e W' =>
      (∃ v, e = .returned (.bool v)) ∧ ∃ B xs, (xs : List (Nat × List Nat)).map Prod.snd = per n [] (pw n - 1) ∧ J B xs W') := fun B w5 h5 hown => by
    have hB : W0.heap.size ≤ B := by
      rcases hown.2 with ⟨h0, _⟩ | ⟨g', cap', cur, h1, h2, _⟩
      · cases h0
      · simp only [Value.slice.injEq, Option.some.injEq, Addr.mk.injEq] at h1
        obtain ⟨⟨rfl, _⟩, _⟩ := h1
        exact h2
    have hG := goOn_in (n := n) (l := l) (Y := W.heap.size) (Gn := W.heap.size + 1) (B := B) (N := (per n [] (pw n - 1)).length) (s0 := W.heap.size) (C := C) (W0 := W0) (Vx := fun x => x ∈ per n [] (pw n - 1)) (J := J B) hn
      (hT.step hww) (by rintro (h | h); exact nT h; omega) (cellS hb2 cY) (by rintro (h | h); have := hC _ h; omega; omega) cG (by rintro (h | h); have := hC _ h; omega; omega)
      (fun k hk => by have := hC k hk; omega) hWW.size hB (hJ B)
      (fun m' pre x X' hj hown hx hlen => yield_any m' (hY B pre (B, x) X' hj ⟨rfl, by omega, by
        refine ⟨hown.1, ?_⟩
        rcases hown.2 with q0 | ⟨g, cap, cur, q1, q2, q3⟩
        · exact .inl q0
        · exact .inr ⟨g, cap, cur, q1, by omega, q3⟩, hx⟩ hlen)) n 0 0 [] [] M w5 (by omega) rfl hP.1 hP.2 (OthS.below _ h5) (by simpa [natVals] using hown) (hJ B _ _ _ (h0 B (by omega)) (Itr.of_below (Below.then hWW h5) (Nat.le_refl _))) (by rw [HM.out]; simp) (fun x hx => by rw [HM.out] at hx; exact hx)
    refine (callsIn_wide.1 hG).mono ?_
    rintro e W' ⟨rfl, hj, _, _⟩
    refine ⟨⟨_, rfl⟩, B, (per n [] M).map (Prod.mk B), ?_, by simpa using hj⟩
    rw [List.map_map, HM.out]; exact List.map_id' _
  have d0 : ∀ w', Below W0.heap.size W0 w' → w'.cell? ⟨A, 0, none⟩ = some (.int .i64 (n : Nat)) := fun w' h => cellS h (cellS hww a0)
  have d1 : ∀ w', Below W0.heap.size W0 w' → w'.cell? ⟨W.heap.size + 1, 0, none⟩ = some (.func (.func 45) #[] #[.pointer (some ⟨W.heap.size, 0, none⟩), .pointer (some ⟨W.heap.size + 1, 0, none⟩)]) := fun w' h => cellS h cG
  clear hY hJ cY cG hb2 hww hWW hX hW h0 hT nT hC a0 h0s hP
  go_enter Tryd.func44, Tryd.ntmps44
  go_wp2_with fail
  rw [← HXE.out, ← HWE.out]
  clear HXE HWE hXs
  refine wp_lates (S := (fun w' => Below W0.heap.size W0 w')) (late := (fun i => i == 5)) (by kernel_rfl) ?_
  have HS : Hid (Below W0.heap.size W0 W0.drew) := (Below.refl _ _).drew
  refine lates_takeM [] (i := 0) (oi := { dst := some 5, op := Go.Op.load 67 (Go.Operand.tmp 3), type := 67, pos := "lists.go:26", after := #[], guard := none }) (v := ?_) rfl (by kernel_rfl) (by kernel_rfl) (by kernel_rfl) (by kernel_rfl) (by kernel_rfl) (fun _ _ _ h => h) (Or.inl ⟨by rfl, ?hy⟩) HS.out ?_
  case hy => (intro w9 hSw; (have e0 := d0 _ hSw); (have e1 := d1 _ hSw); go_simp; try with_reducible rfl)
  try simp only [Act.put, List.setIfInBounds_toArray, List.set_cons_zero, List.set_cons_succ]
  refine lates_takeM [2] (i := 1) (oi := { dst := some 6, op := Go.Op.load 3 (Go.Operand.tmp 1), type := 3, pos := "lists.go:26", after := #[], guard := none }) (v := ?_) rfl (by kernel_rfl) (by kernel_rfl) (by kernel_rfl) (by kernel_rfl) (by kernel_rfl) (fun _ _ _ h => h) (Or.inl ⟨by rfl, ?hy⟩) HS.out ?_
  case hy => (intro w9 hSw; (have e0 := d0 _ hSw); (have e1 := d1 _ hSw); go_simp; try with_reducible rfl)
  try simp only [Act.put, List.setIfInBounds_toArray, List.set_cons_zero, List.set_cons_succ]
  refine lates_takeM [4] (i := 3) (oi := { dst := some 8, op := Go.Op.load 3 (Go.Operand.tmp 1), type := 3, pos := "lists.go:26", after := #[], guard := none }) (v := ?_) rfl (by kernel_rfl) (by kernel_rfl) (by kernel_rfl) (by kernel_rfl) (by kernel_rfl) (fun _ _ _ h => h) (Or.inl ⟨by rfl, ?hy⟩) HS.out ?_
  case hy => (intro w9 hSw; (have e0 := d0 _ hSw); (have e1 := d1 _ hSw); go_simp; try with_reducible rfl)
  try simp only [Act.put, List.setIfInBounds_toArray, List.set_cons_zero, List.set_cons_succ]
  refine lates_ready (rs := [2, 4]) (by kernel_rfl) (by simp) ?_
  refine AllLate.cons (o := { dst := some 7, op := Go.Op.makeSlice 22 (Go.Operand.const (Go.Value.int Go.IntKind.i64 0)) (Go.Operand.tmp 6), type := 22, pos := "lists.go:26", after := #[{ on := 1, ground := Go.Ground.data }], guard := none }) rfl (fun K hK => ?_) ?_
  · rw [if_pos (by rfl)]
    refine wp_make0 W0.heap.size _ _ _ rfl n rfl rfl (by omega) HS.out.size ?_
    intro w5 hown5 hb5
    have HS5 : Hid (Below W0.heap.size W0 w5) := Below.then HS.out hb5
    refine hK.out _ _ (fun _ => ?_) ?_
    · exact HS5.out
    have HS := HS5
    clear hK K
    try simp only [Act.put, List.setIfInBounds_toArray, List.set_cons_zero, List.set_cons_succ]
    refine lates_ready (rs := [4]) (by kernel_rfl) (by simp) ?_
    refine AllLate.cons (o := { dst := some 9, op := Go.Op.call { callee := Go.Callee.value (Go.Operand.func 47), args := #[Go.Operand.tmp 8], argTypes := #[3] }, type := 3, pos := "lists.go:26", after := #[{ on := 3, ground := Go.Ground.data }], guard := none }) rfl (fun K hK => ?_) ?_
    · go_simp
      refine (all_as n _ hn M hM).mono ?_
      rintro e w' ⟨rfl, rfl⟩
      refine hK.out _ _ (fun _ => ?_) ?_
      · exact HS.out
      skip
      clear hK K
      try simp only [Act.put, List.setIfInBounds_toArray, List.set_cons_zero, List.set_cons_succ]
      refine lates_ready (rs := [5]) (by kernel_rfl) (by simp) ?_
      refine AllLate.cons (o := { dst := some 10, op := Go.Op.call { callee := Go.Callee.value (Go.Operand.tmp 5), args := #[Go.Operand.tmp 7, Go.Operand.tmp 9], argTypes := #[22, 3] }, type := 4, pos := "lists.go:26", after := #[{ on := 0, ground := Go.Ground.data }, { on := 2, ground := Go.Ground.data }, { on := 4, ground := Go.Ground.data }, { on := 4, ground := Go.Ground.chain }], guard := none }) rfl (fun K hK => ?_) ?_
      · go_simp
        refine (HGO.out _ w5 HS.out hown5).mono ?_
        rintro e w6 ⟨⟨v, rfl⟩, h6⟩
        refine hK.out _ _ (fun h => by cases h) ?_
        clear hK K
        try simp only [Act.put, List.setIfInBounds_toArray, List.set_cons_zero, List.set_cons_succ]
        refine lates_done (by kernel_rfl) ?_ _
        try simp only [Act.put, List.setIfInBounds_toArray, List.set_cons_zero, List.set_cons_succ]
        go_end0
        exact ⟨⟨_, rfl⟩, h6⟩
      exact AllLate.nil
    exact AllLate.nil
  refine AllLate.cons (o := { dst := some 9, op := Go.Op.call { callee := Go.Callee.value (Go.Operand.func 47), args := #[Go.Operand.tmp 8], argTypes := #[3] }, type := 3, pos := "lists.go:26", after := #[{ on := 3, ground := Go.Ground.data }], guard := none }) rfl (fun K hK => ?_) ?_
  · go_simp
    refine (all_as n _ hn M hM).mono ?_
    rintro e w' ⟨rfl, rfl⟩
    refine hK.out _ _ (fun _ => ?_) ?_
    · exact HS.out
    skip
    clear hK K
    try simp only [Act.put, List.setIfInBounds_toArray, List.set_cons_zero, List.set_cons_succ]
    refine lates_ready (rs := [2]) (by kernel_rfl) (by simp) ?_
    refine AllLate.cons (o := { dst := some 7, op := Go.Op.makeSlice 22 (Go.Operand.const (Go.Value.int Go.IntKind.i64 0)) (Go.Operand.tmp 6), type := 22, pos := "lists.go:26", after := #[{ on := 1, ground := Go.Ground.data }], guard := none }) rfl (fun K hK => ?_) ?_
    · rw [if_pos (by rfl)]
      refine wp_make0 W0.heap.size _ _ _ rfl n rfl rfl (by omega) HS.out.size ?_
      intro w5 hown5 hb5
      have HS5 : Hid (Below W0.heap.size W0 w5) := Below.then HS.out hb5
      refine hK.out _ _ (fun _ => ?_) ?_
      · exact HS5.out
      have HS := HS5
      clear hK K
      try simp only [Act.put, List.setIfInBounds_toArray, List.set_cons_zero, List.set_cons_succ]
      refine lates_ready (rs := [5]) (by kernel_rfl) (by simp) ?_
      refine AllLate.cons (o := { dst := some 10, op := Go.Op.call { callee := Go.Callee.value (Go.Operand.tmp 5), args := #[Go.Operand.tmp 7, Go.Operand.tmp 9], argTypes := #[22, 3] }, type := 4, pos := "lists.go:26", after := #[{ on := 0, ground := Go.Ground.data }, { on := 2, ground := Go.Ground.data }, { on := 4, ground := Go.Ground.data }, { on := 4, ground := Go.Ground.chain }], guard := none }) rfl (fun K hK => ?_) ?_
      · go_simp
        refine (HGO.out _ w5 HS.out hown5).mono ?_
        rintro e w6 ⟨⟨v, rfl⟩, h6⟩
        refine hK.out _ _ (fun h => by cases h) ?_
        clear hK K
        try simp only [Act.put, List.setIfInBounds_toArray, List.set_cons_zero, List.set_cons_succ]
        refine lates_done (by kernel_rfl) ?_ _
        try simp only [Act.put, List.setIfInBounds_toArray, List.set_cons_zero, List.set_cons_succ]
        go_end0
        exact ⟨⟨_, rfl⟩, h6⟩
      exact AllLate.nil
    exact AllLate.nil
  exact AllLate.nil
end Go.Proofs.YtfbdgdphpdhcpaaDoor
namespace Go.Proofs.YtfbdgdphpdhcpaaDoor
open Go.RowKit

theorem Row.drewN {w : World} {a : Option Addr} {len : Nat} {f : Nat → Int} (h : Row w a len f) (m : Nat) : Row (w.drewN m) a len f := h

def SameRows (la lb : Nat) (f g : Nat → Int) : Prop := la = lb ∧ ∀ k, k < la → f k = g k
theorem same_any (a b : Option Addr) (la ca lb cb : Nat) (f g : Nat → Int) (w : World) (hl : la ≤ maxLen) (hl2 : lb ≤ maxLen) (ha : Row w a la f) (hb : Row w b lb g) :
    Calls Tryd.prog 14 #[.slice a la ca, .slice b lb cb] w fun e w' => Ans e (SameRows la lb f g) ∧ Below w.heap.size w w' := by
  unfold maxLen at hl hl2
  by_cases hlen : la = lb
  · subst hlen
    have HA := (show Hid _ from ha); have HB := (show Hid _ from hb); clear ha hb
    go_enter Tryd.func14, Tryd.ntmps14
    go_wp2
    go_loopw [5] (fun i wx => ∃ k : Nat, k ≤ la ∧ i = .int .i64 k ∧ Hid (∀ j, j < k → f j = g j) ∧ Row wx a la f ∧ Row wx b la g ∧ Hid (Below w.heap.size w wx)) (fun i _ => la - (intOf i).toNat)
    case atStart => exact ⟨0, Nat.zero_le _, rfl, upto_zero, HA.out, HB.out, Below.refl _ _⟩
    case round =>
      obtain ⟨k, hk, rfl, hok, hA, hB, hW⟩ := hrel
      clear HA HB
      by_cases hlt : k < la
      · obtain ⟨b1, o1, rfl, hc1⟩ := hA.at hlt
        obtain ⟨b2, o2, rfl, hc2⟩ := hB.at hlt
        have d1 := hc1 k hlt
        have d2 := hc2 k hlt
        clear hc1 hc2
        have hlt' : (k : Int) < (la : Int) := by omega
        by_cases he : f k = g k
        · have hne : (f k != g k) = false := by simpa using he
          have HE := (show Hid _ from he); clear he
          go_wp2
          go_quiet (fail)
          go_wp2
          go_roundw
          case rel => exact ⟨k + 1, by omega, by go_num, upto_succ hok.out HE.out, hA, hB, below_drewN hW.out _⟩
          case measure => simp [intOf]; omega
        · have hne : (f k != g k) = true := by simpa using he
          go_wp2
          go_quiet (fail)
          go_wp2
          go_ret
          exact ⟨Ans.no (fun h => he (h.2 k hlt)), below_drewN hW.out _⟩
      · have hkn : k = la := by omega
        subst hkn
        go_wp2
        go_ret
        exact ⟨Ans.yes ⟨rfl, hok.out⟩, hW.out⟩
  · have hne : ((la : Int) != (lb : Int)) = true := by simp; omega
    clear ha hb
    go_enter Tryd.func14, Tryd.ntmps14
    go_wp2
    go_ret
    exact ⟨Ans.no (fun h => hlen h.1), Below.refl _ _⟩

def pBegun (k : Nat) : Int × Int := if k = 0 then (0, 1) else (1, 2)
def gBegun (k : Nat) : Nat := if k = 0 then 0 else if k = 1 then 1 else 3
end Go.Proofs.YtfbdgdphpdhcpaaDoor
namespace Go.Proofs.YtfbdgdphpdhcpaaDoor
open Go.RowKit

def SameOrders (n n' : Int) (la lb : Nat) (f g : Nat → Int) : Prop := n = n' ∧ SameRows la lb f g
theorem sameOrder_any (n n' : Int) (a b : Option Addr) (la ca lb cb : Nat) (f g : Nat → Int) (w : World) (hl : la ≤ maxLen) (hl2 : lb ≤ maxLen) (ha : Row w a la f) (hb : Row w b lb g) :
    Calls Tryd.prog 17 #[.agg #[.int .i64 n, .slice a la ca], .agg #[.int .i64 n', .slice b lb cb]] w fun e w' => Ans e (SameOrders n n' la lb f g) ∧ Below w.heap.size w w' := by
  have HB2 : Hid (Below w.heap.size w ((w.alloc (.cells #[.int .i64 n, .slice a la ca] 24)).alloc (.cells #[.int .i64 n', .slice b lb cb] 24))) := ((Below.refl _ _).alloc (Nat.le_refl _) _).alloc (by simp) _
  have HA : Hid (Row w a la f) := ha
  have HB : Hid (Row w b lb g) := hb
  clear ha hb
  by_cases hn : n = n'
  · subst hn
    go_enter Tryd.func17, Tryd.ntmps17
    go_wp2_with fail
    refine (same_any a b la ca lb cb f g _ hl hl2 (HA.out.below HB2.out) (HB.out.below HB2.out)).mono ?_
    rintro e w1 ⟨⟨b, rfl, hb⟩, hB⟩
    have HBE : Hid (Below w.heap.size w w1) := Below.then HB2.out hB
    have HY : Hid (b = true ↔ SameRows la lb f g) := hb
    clear hB hb HB2
    go_wp2_with fail
    go_ret
    exact ⟨⟨_, rfl, HY.out.trans ⟨fun h => ⟨rfl, h⟩, fun h => h.2⟩⟩, HBE.out⟩
  · have hd : (n == n') = false := by simpa using hn
    have HN : Hid (¬ n = n') := hn
    clear hn
    go_enter Tryd.func17, Tryd.ntmps17
    go_wp2_with fail
    go_ret
    exact ⟨Ans.no (fun h => HN.out h.1), HB2.out⟩

/-- What a call answers that hands back an order and an errno. -/
def OrdErr (c : Int) (n : Int) (len : Nat) (F : Nat → Int) (x : Value) (w : World) : Prop :=
  (c ≠ 0 ∧ x = noOrder) ∨ (c = 0 ∧ ∃ a cap, x = .agg #[.int .i64 n, .slice a len cap] ∧ Row w a len F)
theorem OrdErr.step {c n : Int} {len : Nat} {F : Nat → Int} {x : Value} {w w' : World} (h : OrdErr c n len F x w) (hb : Below w.heap.size w w') : OrdErr c n len F x w' := by
  rcases h with h | ⟨h0, a, cap, hx, hr⟩
  · exact .inl h
  · exact .inr ⟨h0, a, cap, hx, hr.below hb⟩

end Go.Proofs.YtfbdgdphpdhcpaaDoor
namespace Go.Proofs.YtfbdgdphpdhcpaaDoor
open Go.RowKit

end Go.Proofs.YtfbdgdphpdhcpaaDoor
namespace Go.Proofs.YtfbdgdphpdhcpaaDoor
open Go.RowKit

theorem Chk.good {n : Int} {len : Nat} {f : Nat → Int} (h : Chk n len f 0) : n = (len : Int) ∧ len ≤ 10 ∧ Rng len f ∧ Ord len (nat f) := by
  rcases h with ⟨h, _⟩ | ⟨m, hm, h10, ⟨h, _⟩ | ⟨rfl, ⟨h, _⟩ | ⟨hr, ⟨h, _⟩ | ⟨_, ho⟩⟩⟩⟩
  · cases h
  · cases h
  · cases h
  · cases h
  · exact ⟨hm, h10, hr, ho⟩
theorem Rng.row {w : World} {a : Option Addr} {len : Nat} {f : Nat → Int} (hr : Rng len f) (h : Row w a len f) : Row w a len (fun k => (nat f k : Nat)) := by
  intro j hj
  have := h j hj
  have e : f j = (nat f j : Nat) := by have := hr j hj; unfold nat; omega
  rw [e] at this
  exact this
theorem Rng.small {len : Nat} {f : Nat → Int} (hr : Rng len f) : ∀ k, k < len → nat f k < pw len := fun k hk => by
  have := hr k hk; unfold nat; omega
theorem Rng.small2 {len : Nat} {f : Nat → Int} (hr : Rng len f) (hl : len ≤ 10) : ∀ k, k < len → nat f k < 1024 := fun k hk =>
  Nat.lt_of_lt_of_le (hr.small k hk) (pw_le len hl)

end Go.Proofs.YtfbdgdphpdhcpaaDoor
namespace Go.Proofs.YtfbdgdphpdhcpaaDoor
open Go.RowKit

/-- The part's sets. -/
def prt (g : Nat → Nat) (L : List Nat) (i : Nat) : Nat := setBy (fun k => (g (nth L i)).testBit (nth L k)) L.length
def prtTo (g : Nat → Nat) (L : List Nat) (i k j : Nat) : Nat := if j < i then prt g L j else if j = i then setBy (fun t => (g (nth L i)).testBit (nth L t)) k else 0
theorem prtTo_zero (g : Nat → Nat) (L : List Nat) : prtTo g L 0 0 = fun _ => 0 := by funext j; simp [prtTo, setBy]
theorem prtTo_same (g : Nat → Nat) (L : List Nat) (i k : Nat) : prtTo g L i k i = setBy (fun t => (g (nth L i)).testBit (nth L t)) k := by simp [prtTo]
theorem prtTo_yes {g : Nat → Nat} {L : List Nat} {i k : Nat} (h : (g (nth L i)).testBit (nth L k) = true) : prtTo g L i (k + 1) = upd (prtTo g L i k) i (setBy (fun t => (g (nth L i)).testBit (nth L t)) k ||| pw k) := by
  funext j
  by_cases e : j = i
  · subst e; rw [upd_same, prtTo_same, or_pw_add (setBy_lt _ k)]; exact setBy_yes (P := fun t => (g (nth L j)).testBit (nth L t)) h
  · rw [upd_other _ _ _ _ e]; simp [prtTo, e]
theorem prtTo_no {g : Nat → Nat} {L : List Nat} {i k : Nat} (h : (g (nth L i)).testBit (nth L k) = false) : prtTo g L i (k + 1) = prtTo g L i k := by
  funext j
  by_cases e : j = i
  · subst e; rw [prtTo_same, prtTo_same]; exact setBy_no (P := fun t => (g (nth L j)).testBit (nth L t)) h
  · simp [prtTo, e]
theorem prtTo_next (g : Nat → Nat) (L : List Nat) (i : Nat) : prtTo g L i L.length = prtTo g L (i + 1) 0 := by
  funext j
  by_cases e : j = i
  · subst e; rw [prtTo_same]; simp [prtTo, prt]
  · by_cases e2 : j < i
    · have : j < i + 1 := by omega
      simp [prtTo, e2, this]
    · have : ¬ j < i + 1 := by omega
      simp [prtTo, e, e2, this, setBy]
theorem prtTo_end (g : Nat → Nat) (L : List Nat) (j : Nat) (h : j < L.length) : prtTo g L L.length 0 j = prt g L j := by simp [prtTo, h]
end Go.Proofs.YtfbdgdphpdhcpaaDoor
namespace Go.Proofs.YtfbdgdphpdhcpaaDoor
open Go.RowKit
set_option maxRecDepth 100000

set_option maxHeartbeats 4000000 in
theorem renumbered_any (n : Nat) (a : Option Addr) (cap : Nat) (g : Nat → Nat) (a2 : Option Addr) (cap2 : Nat) (L : List Nat) (w : World) (h10 : n ≤ 10) (hg : ∀ k, k < n → g k < 1024) (hL : L.length = n) (hLn : ∀ k, k < n → nth L k < n)
    (hr : Row w a n (fun k => (g k : Nat))) (hr2 : Row w a2 n (fun k => (nth L k : Nat))) :
    Calls Tryd.prog 34 #[.agg #[.int .i64 (n : Nat), .slice a n cap], .slice a2 n cap2] w fun e w' => (∃ b, e = .returned (.slice (some ⟨b, 0, none⟩) n n) ∧ Own w' b n (prt g L) ∧ w.heap.size ≤ b ∧ b < w'.heap.size ∧ Szd w' b n) ∧ Below w.heap.size w w' := by
  obtain ⟨w2, HW2⟩ : ∃ w2, Hid (w2 = w.alloc (.cells #[.int .i64 (n : Nat), .slice a n cap] 24)) := ⟨_, rfl⟩
  have hb0 : Below w.heap.size w w2 := by rw [HW2.out]; exact (Below.refl _ _).alloc (Nat.le_refl _) _
  have H2 : Hid (Held w2 w.heap.size n a n cap (fun k => (g k : Nat))) := by rw [HW2.out]; exact Held.box hr
  have HB2 : Hid (Below w.heap.size w w2) := hb0
  have HR2 : Hid (Row w2 a2 n (fun k => (nth L k : Nat))) := hr2.below hb0
  have HG2 : Hid (∀ k, k < n → g k < 1024) := hg
  have HLT : Hid (∀ k, k < n → nth L k < n) := hLn
  have HM : Hid (n = L.length) := hL.symm
  have hsz2 : w.heap.size < w2.heap.size := by rw [HW2.out]; simp
  have HSZ2 : Hid (w.heap.size ≤ w2.heap.size) := by show _ ≤ _; omega
  obtain ⟨i0, hi, hz0, hz1, hz2⟩ := info_parts Tryd.info3
  clear hb0 hr hr2 hg hLn hL
  go_enter Tryd.func34, Tryd.ntmps34
  go_wp2_with (at_make; rw [← HW2.out]; refine wpList_make_full _ rfl _ _ 22 rfl w2.heap.size 3 i0 (.int .i64 0) 1 Tryd.underlying22 hi hz0 hz1 .i64 .i64 _ _ n rfl rfl rfl rfl (by rw [hz2]; omega) (by unfold maxLen; omega) (Nat.le_refl _) ?_; intro w3 hown3 hgrow3)
  clear HW2 hsz2
  have HB3 : Hid (Below w2.heap.size w2 w3) := (Below.refl _ _).grown hgrow3 (Nat.le_refl _) (by simp)
  have HO3 : Hid (Own w3 w2.heap.size n (prtTo g L 0 0)) := by rw [prtTo_zero]; exact own_made hown3
  have HLT3 : Hid (w2.heap.size < w3.heap.size ∧ Szd w3 w2.heap.size n) := ⟨(hown3.lt w2.heap.size rfl).2, szd_made hown3⟩
  clear hown3 hgrow3 hi hz0 hz1 hz2
  go_loopw [15] (fun t wx => ∃ i : Nat, i ≤ n ∧ t = .int .i64 i ∧ Own wx w2.heap.size n (prtTo g L i 0) ∧ Hid (Below w2.heap.size w2 wx) ∧ Hid (w2.heap.size < wx.heap.size ∧ Szd wx w2.heap.size n)) (fun t _ => n - (intOf t).toNat)
  case atStart => exact ⟨0, Nat.zero_le _, rfl, HO3.out, HB3.out, HLT3.out⟩
  case round =>
    obtain ⟨i, hi, rfl, hO, hBx, hLx⟩ := hrel
    clear HO3 HB3 HLT3
    by_cases hlt : i < n
    · obtain ⟨b2, o2, rfl, hc2⟩ := (HR2.out.below hBx.out).at hlt
      have hci := hc2 i hlt
      clear hc2
      have hlt' : (i : Int) < (n : Int) := by omega
      go_wp2
      have HO1 : Hid (Own wr w2.heap.size n (prtTo g L i 0)) := hO
      clear hO hci
      go_loopw [22] (fun t wx => ∃ k : Nat, k ≤ n ∧ t = .int .i64 k ∧ Own wx w2.heap.size n (prtTo g L i k) ∧ Hid (Below w2.heap.size w2 wx) ∧ Hid (w2.heap.size < wx.heap.size ∧ Szd wx w2.heap.size n)) (fun t _ => n - (intOf t).toNat)
      case atStart => exact ⟨0, Nat.zero_le _, rfl, HO1.out, hBx.out, hLx.out⟩
      case round =>
        obtain ⟨k, hk, rfl, hO, hBy, hLy⟩ := hrel
        clear HO1
        by_cases hkl : k < n
        · obtain ⟨b2', o2', e2, hc2⟩ := (HR2.out.below hBy.out).at hkl
          simp at e2
          obtain ⟨rfl, rfl⟩ := e2
          have hck := hc2 k hkl
          clear hc2
          have hkl' : (k : Int) < (n : Int) := by omega
          have hHy := H2.out.step hBy.out
          have c0 := hHy.c0
          have c1 := hHy.c1
          have hni := HLT.out i hlt
          have hnk := HLT.out k hkl
          obtain ⟨b3, o3, rfl, hc3⟩ := hHy.row.at hni
          have hcc := hc3 _ hni
          have hgi := HG2.out _ hni
          clear hc3 hHy
          have hni' : ((nth L i : Nat) : Int) < (n : Int) := by omega
          rcases (Bool.eq_false_or_eq_true ((g (nth L i)).testBit (nth L k))).symm with hb | hb
          · have HE : Hid (prtTo g L i (k + 1) = prtTo g L i k) := prtTo_no hb
            go_wp2_with (go_at_call 48; refine (has_any _ _ _ (by omega) (by omega)).mono ?_; rintro e w' ⟨rfl, rfl⟩)
            go_roundw
            case rel => exact ⟨k + 1, by omega, by go_num, by rw [HE.out]; exact hO, hBy, hLy⟩
            case measure => simp [intOf]; omega
          · have HE := prtTo_yes hb
            have HE2 : Hid (prtTo g L i (k + 1) = upd (prtTo g L i k) i (setBy (fun t => (g (nth L i)).testBit (nth L t)) k ||| pw k)) := HE
            have hcO := (hO i hlt).1
            have hfO := (hO i hlt).2
            rw [prtTo_same] at hcO
            have hsh := wrap_pow k (Nat.lt_of_lt_of_le hkl (Nat.le_trans h10 (by decide)))
            have hlt2 : setBy (fun t => (g (nth L i)).testBit (nth L t)) k < pw n := Nat.lt_of_lt_of_le (setBy_lt _ k) (Nat.pow_le_pow_right (by decide) hk)
            have hor := or_pw (b := k) h10 hlt2 hkl
            have HOY : Hid (Own wr w2.heap.size n (prtTo g L i k)) := hO
            clear hO HE hlt2
            generalize setBy (fun t => (g (nth L i)).testBit (nth L t)) k = S at *
            go_wp2_with (go_at_call 48; refine (has_any _ _ _ (by omega) (by omega)).mono ?_; rintro e w' ⟨rfl, rfl⟩)
            go_region
            all_goals go_wp2
            all_goals go_roundw
            case rel => exact ⟨k + 1, by omega, by go_num, by rw [HE2.out]; exact Own.set HOY.out i _ hlt, Below.drew (Below.setCell (p := ⟨w2.heap.size, i, none⟩) hBy.out (Nat.le_refl _) _), (by have := hLy.out; exact ⟨by simpa using this.1, this.2.set _ _⟩)⟩
            case measure => simp [intOf]; omega
        · have hkm : k = n := by omega
          have HNX : Hid (prtTo g L i k = prtTo g L (i + 1) 0) := by rw [hkm, HM.out]; exact prtTo_next g L i
          subst hkm
          go_wp2
          go_roundw
          case rel => exact ⟨i + 1, by omega, by go_num, by rw [← HNX.out]; exact hO, hBy, hLy⟩
          case measure => simp [intOf]; omega
    · have him : i = n := by omega
      have HOE : Hid (Own wr w2.heap.size n (prt g L)) := hO.congr (fun j hj => by rw [him, HM.out]; exact prtTo_end g L j (by rw [← HM.out]; exact hj))
      subst him
      have HBE : Hid (Below w.heap.size w wr) := Below.then HB2.out hBx.out
      clear hO hBx
      go_wp2
      go_ret
      exact ⟨⟨_, rfl, HOE.out, HSZ2.out, hLx.out⟩, HBE.out⟩
end Go.Proofs.YtfbdgdphpdhcpaaDoor
