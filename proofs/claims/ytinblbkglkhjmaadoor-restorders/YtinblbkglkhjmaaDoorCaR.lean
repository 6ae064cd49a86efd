/-
  canon.lists hands back an iterator over all lists of n points, in order. Conditions: at most ten points; the library's table.
  What canon.renumbered answers: what is below each point when the list's points are numbered by their places. Conditions: at most ten points; the list's numbers are points.
-/
import Derived.Laws.EntriesVeiled
import Derived.Test.YtinblbkglkhjmaaDoorCaG
import Derived.Test.YtinblbkglkhjmaaDoorPermM
import Derived.Test.YtinblbkglkhjmaaDoorLayOut
import Derived.Test.YtinblbkglkhjmaaDoorPart
import Derived.Test.YtinblbkglkhjmaaDoorCaM
namespace Go.Proofs.YtinblbkglkhjmaaDoor
open Go.RowKit
set_option maxRecDepth 100000

theorem wp_make0 {o : Oper} {a : Act} {K : Act → World → Prop} {Q : Exit → Act → World → Prop} (base : Nat) (w : World) (l c : Operand) (hop : o.op = Op.makeSlice 22 l c) (n : Nat) (hl : a.eval l = .int .i64 0) (hc : a.eval c = .int .i64 (n : Int)) (hn : n ≤ 1000) (hb : base ≤ w.heap.size)
    (h : ∀ w', w'.ownsRow base 3 1 (.slice (some ⟨w.heap.size, 0, none⟩) 0 n) 0 [] → Below w.heap.size w w' → K (a.put o.dst (.slice (some ⟨w.heap.size, 0, none⟩) 0 n)) w') : o.wp Tryd.prog a w K Q := by
  obtain ⟨j0, hj, hy0, hy1, hy2⟩ := info_parts Tryd.info3
  obtain ⟨w', hrun, r1, r2⟩ := run_make_own (P := Tryd.prog) w base 22 3 j0 (.int .i64 0) 1 Tryd.underlying22 hj hy0 hy1 .i64 .i64 n (by rw [hy2]; omega) (by unfold maxLen; omega) hb
  have hK := h w' r1 ((Below.refl _ _).grown r2 (Nat.le_refl _) (fun k e => by cases e))
  unfold Oper.wp
  simp [execOp, hop, hl, hc, hrun, Result.andThen]
  exact hK
theorem yield_any {m : Nat} (m' : Nat) {P : Program} {l : Nat} {args : Array Value} {W : World} {R : Ending → World → Prop} (h : YieldAt Fence.wide m P l args W R) : YieldAt Fence.wide m' P l args W R := by
  obtain ⟨fn, tmps, assign, body, hy, hR⟩ := h
  exact ⟨fn, tmps, assign, body, hy, hR.1, fun c cs _ => hR.2 c cs (fun d hd => by cases hd)⟩
theorem cellS {w w' : World} {p : Addr} {v : Value} (hb : Below w.heap.size w w') (h : w.cell? p = some v) : w'.cell? p = some v := (hb.cell (World.block_lt_of_cell? _ _ h)).trans h
theorem lists_any (n : Int) (w : World) : Calls Tryd.prog 45 #[.int .i64 n] w fun e w' => e = .returned (.func (.func 56) #[] #[.pointer (some ⟨w.heap.size, 0, none⟩)]) ∧ w' = w.alloc (.cells #[.int .i64 n] 3) := by
  go_enter Tryd.func45, Tryd.ntmps45
  go_wp2
  go_ret
  exact ⟨rfl, rfl⟩
/-- What a round is handed. -/
def encL (n : Nat) (x : Nat × List Nat) : Value := .slice (some ⟨x.1, 0, none⟩) n n
def VL (n K B : Nat) (x : Nat × List Nat) (W : World) : Prop := x.1 = B ∧ K ≤ B ∧ W.ownsRow K 3 1 (encL n x) n (natVals x.2) ∧ x.2 ∈ per n [] (pw n - 1)
theorem VL.loop {n K : Nat} (B : Nat) (x : Nat × List Nat) (A : World) (l : Nat) (r r' : Loop) (h : VL n K B x A) (hl : A.heap[l]? = some (.loop r)) : VL n K B x (A.putObj l (.loop r')) :=
  ⟨h.1, h.2.1, (OthS.loop (fun _ => False) A l r r' hl).owns h.2.2.1 (fun _ _ _ h => h), h.2.2.2⟩
theorem pcAll : ((List.range 11).all fun n => decide (pw n - 1 < 1024) && (pc (pw n - 1) == n)) = true := by decide +kernel
theorem pc_all {n : Nat} (hn : n ≤ 10) : pw n - 1 < 1024 ∧ pc (pw n - 1) = n := by
  have := List.all_eq_true.1 pcAll n (List.mem_range.2 (by omega))
  simpa using this
set_option maxHeartbeats 4000000 in
theorem lists_seq (m n A : Nat) (C : Nat → Prop) (w : World) (hn : n ≤ 10) (hT : Tab w) (nT : ¬ C 1) (hC : ∀ k, C k → k < w.heap.size) (a0 : w.cell? ⟨A, 0, none⟩ = some (.int .i64 (n : Nat))) :
    SeqX Fence.wide m Tryd.prog 56 #[.pointer (some ⟨A, 0, none⟩)] (encL n) (VL n w.heap.size) (OthS C) (fun xs => xs.map Prod.snd = per n [] (pw n - 1)) (per n [] (pw n - 1)).length w := fun l J W hW hJ hY h0 => by
  refine callsIn_wide.2 ?_
  show Calls Tryd.prog 56 #[.func (.yield l) #[] #[], .pointer (some ⟨A, 0, none⟩)] W _
  obtain ⟨X, HXE⟩ : ∃ X, Hid (X = W.alloc (.cells #[.func (.yield l) #[] #[]] 64)) := ⟨_, rfl⟩
  have hX : Below W.heap.size W X := by rw [HXE.out]; exact (Below.refl _ _).alloc (Nat.le_refl _) _
  have hXs : X.heap.size = W.heap.size + 1 := by rw [HXE.out]; simp
  have cY : X.cell? ⟨W.heap.size, 0, none⟩ = some (.func (.yield l) #[] #[]) := by rw [HXE.out]; simp
  obtain ⟨W0, HWE⟩ : ∃ W0, Hid (W0 = X.alloc (.cells #[.func (.func 57) #[] #[.pointer (some ⟨W.heap.size, 0, none⟩), .pointer (some ⟨W.heap.size + 1, 0, none⟩)]] 77)) := ⟨_, rfl⟩
  have hb2 : Below X.heap.size X W0 := by rw [HWE.out]; exact (Below.refl _ _).alloc (Nat.le_refl _) _
  have hWW : Below W.heap.size W W0 := Below.then hX hb2
  have hww : Below w.heap.size w W0 := Below.then hW hWW
  have h0s : W0.heap.size = W.heap.size + 2 := by rw [HWE.out]; simp [hXs]
  have cG : W0.cell? ⟨W.heap.size + 1, 0, none⟩ = some (.func (.func 57) #[] #[.pointer (some ⟨W.heap.size, 0, none⟩), .pointer (some ⟨W.heap.size + 1, 0, none⟩)]) := by rw [HWE.out, ← hXs]; simp
  have hWs := hW.size
  have ht1 : 1 < w.heap.size := World.block_lt_of_cell? _ _ (hT 0 (by decide))
  obtain ⟨M, HM⟩ : ∃ M, Hid (M = pw n - 1) := ⟨_, rfl⟩
  have hM : M + 1 = pw n := by rw [HM.out]; have := pw_pos n; omega
  have hP := pc_all hn
  rw [← HM.out] at hP
  have HGO : Hid (∀ B w5, Below W0.heap.size W0 w5 → w5.ownsRow W0.heap.size 3 1 (.slice (some ⟨B, 0, none⟩) 0 n) 0 [] → Calls Tryd.prog 57 #[.slice (some ⟨B, 0, none⟩) 0 n, .int .i64 (M : Nat), .pointer (some ⟨W.heap.size, 0, none⟩), .pointer (some ⟨W.heap.size + 1, 0, none⟩)] w5 fun e W' =>
      (∃ v, e = .returned (.bool v)) ∧ ∃ B xs, (xs : List (Nat × List Nat)).map Prod.snd = per n [] (pw n - 1) ∧ J B xs W') := fun B w5 h5 hown => by
    have hB : W0.heap.size ≤ B := by
      rcases hown.2 with ⟨h0, _⟩ | ⟨g', cap', cur, h1, h2, _⟩
      · cases h0
      · simp only [Value.slice.injEq, Option.some.injEq, Addr.mk.injEq] at h1
        obtain ⟨⟨rfl, _⟩, _⟩ := h1
        exact h2
    have hG := goOn_in (n := n) (l := l) (Y := W.heap.size) (Gn := W.heap.size + 1) (B := B) (N := (per n [] (pw n - 1)).length) (s0 := W.heap.size) (C := C) (W0 := W0) (Vx := fun x => x ∈ per n [] (pw n - 1)) (J := J B) hn
      (hT.step hww) (by rintro (h | h); exact nT h; omega) (cellS hb2 cY) (by rintro (h | h); have := hC _ h; omega; omega) cG (by rintro (h | h); have := hC _ h; omega; omega)
      (fun k hk => by have := hC k hk; omega) hWW.size hB (hJ B)
      (fun m' pre x X' hj hown hx hlen => yield_any m' (hY B pre (B, x) X' hj ⟨rfl, by omega, by
        refine ⟨hown.1, ?_⟩
        rcases hown.2 with q0 | ⟨g, cap, cur, q1, q2, q3⟩
        · exact .inl q0
        · exact .inr ⟨g, cap, cur, q1, by omega, q3⟩, hx⟩ hlen)) n 0 0 [] [] M w5 (by omega) rfl hP.1 hP.2 (OthS.below _ h5) (by simpa [natVals] using hown) (hJ B _ _ _ (h0 B (by omega)) (Itr.of_below (Below.then hWW h5) (Nat.le_refl _))) (by rw [HM.out]; simp) (fun x hx => by rw [HM.out] at hx; exact hx)
    refine (callsIn_wide.1 hG).mono ?_
    rintro e W' ⟨rfl, hj, _, _⟩
    refine ⟨⟨_, rfl⟩, B, (per n [] M).map (Prod.mk B), ?_, by simpa using hj⟩
    rw [List.map_map, HM.out]; exact List.map_id' _
  have d0 : ∀ w', Below W0.heap.size W0 w' → w'.cell? ⟨A, 0, none⟩ = some (.int .i64 (n : Nat)) := fun w' h => cellS h (cellS hww a0)
  have d1 : ∀ w', Below W0.heap.size W0 w' → w'.cell? ⟨W.heap.size + 1, 0, none⟩ = some (.func (.func 57) #[] #[.pointer (some ⟨W.heap.size, 0, none⟩), .pointer (some ⟨W.heap.size + 1, 0, none⟩)]) := fun w' h => cellS h cG
  clear hY hJ cY cG hb2 hww hWW hX hW h0 hT nT hC a0 h0s hP
  go_enter Tryd.func56, Tryd.ntmps56
  go_wp2_with fail
  rw [← HXE.out, ← HWE.out]
  clear HXE HWE hXs
  refine wp_lates (S := (fun w' => Below W0.heap.size W0 w')) (late := (fun i => i == 5)) (by kernel_rfl) ?_
  have HS : Hid (Below W0.heap.size W0 W0.drew) := (Below.refl _ _).drew
  refine lates_takeM [] (i := 0) (oi := { dst := some 5, op := Go.Op.load 77 (Go.Operand.tmp 3), type := 77, pos := "lists.go:26", after := #[], guard := none }) (v := ?_) rfl (by kernel_rfl) (by kernel_rfl) (by kernel_rfl) (by kernel_rfl) (by kernel_rfl) (fun _ _ _ h => h) (Or.inl ⟨by rfl, ?hy⟩) HS.out ?_
  case hy => (intro w9 hSw; (have e0 := d0 _ hSw); (have e1 := d1 _ hSw); go_simp; try with_reducible rfl)
  try simp only [Act.put, List.setIfInBounds_toArray, List.set_cons_zero, List.set_cons_succ]
  refine lates_takeM [2] (i := 1) (oi := { dst := some 6, op := Go.Op.load 3 (Go.Operand.tmp 1), type := 3, pos := "lists.go:26", after := #[], guard := none }) (v := ?_) rfl (by kernel_rfl) (by kernel_rfl) (by kernel_rfl) (by kernel_rfl) (by kernel_rfl) (fun _ _ _ h => h) (Or.inl ⟨by rfl, ?hy⟩) HS.out ?_
  case hy => (intro w9 hSw; (have e0 := d0 _ hSw); (have e1 := d1 _ hSw); go_simp; try with_reducible rfl)
  try simp only [Act.put, List.setIfInBounds_toArray, List.set_cons_zero, List.set_cons_succ]
  refine lates_takeM [4] (i := 3) (oi := { dst := some 8, op := Go.Op.load 3 (Go.Operand.tmp 1), type := 3, pos := "lists.go:26", after := #[], guard := none }) (v := ?_) rfl (by kernel_rfl) (by kernel_rfl) (by kernel_rfl) (by kernel_rfl) (by kernel_rfl) (fun _ _ _ h => h) (Or.inl ⟨by rfl, ?hy⟩) HS.out ?_
  case hy => (intro w9 hSw; (have e0 := d0 _ hSw); (have e1 := d1 _ hSw); go_simp; try with_reducible rfl)
  try simp only [Act.put, List.setIfInBounds_toArray, List.set_cons_zero, List.set_cons_succ]
  refine lates_ready (rs := [2, 4]) (by kernel_rfl) (by simp) ?_
  refine AllLate.cons (o := { dst := some 7, op := Go.Op.makeSlice 22 (Go.Operand.const (Go.Value.int Go.IntKind.i64 0)) (Go.Operand.tmp 6), type := 22, pos := "lists.go:26", after := #[{ on := 1, ground := Go.Ground.data }], guard := none }) rfl (fun K hK => ?_) ?_
  · rw [if_pos (by rfl)]
    refine wp_make0 W0.heap.size _ _ _ rfl n rfl rfl (by omega) HS.out.size ?_
    intro w5 hown5 hb5
    have HS5 : Hid (Below W0.heap.size W0 w5) := Below.then HS.out hb5
    refine hK.out _ _ (fun _ => ?_) ?_
    · exact HS5.out
    have HS := HS5
    clear hK K
    try simp only [Act.put, List.setIfInBounds_toArray, List.set_cons_zero, List.set_cons_succ]
    refine lates_ready (rs := [4]) (by kernel_rfl) (by simp) ?_
    refine AllLate.cons (o := { dst := some 9, op := Go.Op.call { callee := Go.Callee.value (Go.Operand.func 25), args := #[Go.Operand.tmp 8], argTypes := #[3] }, type := 3, pos := "lists.go:26", after := #[{ on := 3, ground := Go.Ground.data }], guard := none }) rfl (fun K hK => ?_) ?_
    · go_simp
      refine (all_as n _ hn M hM).mono ?_
      rintro e w' ⟨rfl, rfl⟩
      refine hK.out _ _ (fun _ => ?_) ?_
      · exact HS.out
      skip
      clear hK K
      try simp only [Act.put, List.setIfInBounds_toArray, List.set_cons_zero, List.set_cons_succ]
      refine lates_ready (rs := [5]) (by kernel_rfl) (by simp) ?_
      refine AllLate.cons (o := { dst := some 10, op := Go.Op.call { callee := Go.Callee.value (Go.Operand.tmp 5), args := #[Go.Operand.tmp 7, Go.Operand.tmp 9], argTypes := #[22, 3] }, type := 4, pos := "lists.go:26", after := #[{ on := 0, ground := Go.Ground.data }, { on := 2, ground := Go.Ground.data }, { on := 4, ground := Go.Ground.data }, { on := 4, ground := Go.Ground.chain }], guard := none }) rfl (fun K hK => ?_) ?_
      · go_simp
        refine (HGO.out _ w5 HS.out hown5).mono ?_
        rintro e w6 ⟨⟨v, rfl⟩, h6⟩
        refine hK.out _ _ (fun h => by cases h) ?_
        clear hK K
        try simp only [Act.put, List.setIfInBounds_toArray, List.set_cons_zero, List.set_cons_succ]
        refine lates_done (by kernel_rfl) ?_ _
        try simp only [Act.put, List.setIfInBounds_toArray, List.set_cons_zero, List.set_cons_succ]
        go_end0
        exact ⟨⟨_, rfl⟩, h6⟩
      exact AllLate.nil
    exact AllLate.nil
  refine AllLate.cons (o := { dst := some 9, op := Go.Op.call { callee := Go.Callee.value (Go.Operand.func 25), args := #[Go.Operand.tmp 8], argTypes := #[3] }, type := 3, pos := "lists.go:26", after := #[{ on := 3, ground := Go.Ground.data }], guard := none }) rfl (fun K hK => ?_) ?_
  · go_simp
    refine (all_as n _ hn M hM).mono ?_
    rintro e w' ⟨rfl, rfl⟩
    refine hK.out _ _ (fun _ => ?_) ?_
    · exact HS.out
    skip
    clear hK K
    try simp only [Act.put, List.setIfInBounds_toArray, List.set_cons_zero, List.set_cons_succ]
    refine lates_ready (rs := [2]) (by kernel_rfl) (by simp) ?_
    refine AllLate.cons (o := { dst := some 7, op := Go.Op.makeSlice 22 (Go.Operand.const (Go.Value.int Go.IntKind.i64 0)) (Go.Operand.tmp 6), type := 22, pos := "lists.go:26", after := #[{ on := 1, ground := Go.Ground.data }], guard := none }) rfl (fun K hK => ?_) ?_
    · rw [if_pos (by rfl)]
      refine wp_make0 W0.heap.size _ _ _ rfl n rfl rfl (by omega) HS.out.size ?_
      intro w5 hown5 hb5
      have HS5 : Hid (Below W0.heap.size W0 w5) := Below.then HS.out hb5
      refine hK.out _ _ (fun _ => ?_) ?_
      · exact HS5.out
      have HS := HS5
      clear hK K
      try simp only [Act.put, List.setIfInBounds_toArray, List.set_cons_zero, List.set_cons_succ]
      refine lates_ready (rs := [5]) (by kernel_rfl) (by simp) ?_
      refine AllLate.cons (o := { dst := some 10, op := Go.Op.call { callee := Go.Callee.value (Go.Operand.tmp 5), args := #[Go.Operand.tmp 7, Go.Operand.tmp 9], argTypes := #[22, 3] }, type := 4, pos := "lists.go:26", after := #[{ on := 0, ground := Go.Ground.data }, { on := 2, ground := Go.Ground.data }, { on := 4, ground := Go.Ground.data }, { on := 4, ground := Go.Ground.chain }], guard := none }) rfl (fun K hK => ?_) ?_
      · go_simp
        refine (HGO.out _ w5 HS.out hown5).mono ?_
        rintro e w6 ⟨⟨v, rfl⟩, h6⟩
        refine hK.out _ _ (fun h => by cases h) ?_
        clear hK K
        try simp only [Act.put, List.setIfInBounds_toArray, List.set_cons_zero, List.set_cons_succ]
        refine lates_done (by kernel_rfl) ?_ _
        try simp only [Act.put, List.setIfInBounds_toArray, List.set_cons_zero, List.set_cons_succ]
        go_end0
        exact ⟨⟨_, rfl⟩, h6⟩
      exact AllLate.nil
    exact AllLate.nil
  exact AllLate.nil
end Go.Proofs.YtinblbkglkhjmaaDoor
namespace Go.Proofs.YtinblbkglkhjmaaDoor
open Go.RowKit
set_option maxRecDepth 100000

set_option maxHeartbeats 4000000 in
theorem renumbered_any (n : Nat) (a : Option Addr) (cap : Nat) (g : Nat → Nat) (a2 : Option Addr) (cap2 : Nat) (L : List Nat) (w : World) (h10 : n ≤ 10) (hg : ∀ k, k < n → g k < 1024) (hL : L.length = n) (hLn : ∀ k, k < n → nth L k < n)
    (hr : Row w a n (fun k => (g k : Nat))) (hr2 : Row w a2 n (fun k => (nth L k : Nat))) :
    Calls Tryd.prog 46 #[.agg #[.int .i64 (n : Nat), .slice a n cap], .slice a2 n cap2] w fun e w' => (∃ b, e = .returned (.slice (some ⟨b, 0, none⟩) n n) ∧ Own w' b n (prt g L) ∧ w.heap.size ≤ b ∧ b < w'.heap.size) ∧ Below w.heap.size w w' := by
  obtain ⟨w2, HW2⟩ : ∃ w2, Hid (w2 = w.alloc (.cells #[.int .i64 (n : Nat), .slice a n cap] 24)) := ⟨_, rfl⟩
  have hb0 : Below w.heap.size w w2 := by rw [HW2.out]; exact (Below.refl _ _).alloc (Nat.le_refl _) _
  have H2 : Hid (Held w2 w.heap.size n a n cap (fun k => (g k : Nat))) := by rw [HW2.out]; exact Held.box hr
  have HB2 : Hid (Below w.heap.size w w2) := hb0
  have HR2 : Hid (Row w2 a2 n (fun k => (nth L k : Nat))) := hr2.below hb0
  have HG2 : Hid (∀ k, k < n → g k < 1024) := hg
  have HLT : Hid (∀ k, k < n → nth L k < n) := hLn
  have HM : Hid (n = L.length) := hL.symm
  have hsz2 : w.heap.size < w2.heap.size := by rw [HW2.out]; simp
  have HSZ2 : Hid (w.heap.size ≤ w2.heap.size) := by show _ ≤ _; omega
  obtain ⟨i0, hi, hz0, hz1, hz2⟩ := info_parts Tryd.info3
  clear hb0 hr hr2 hg hLn hL
  go_enter Tryd.func46, Tryd.ntmps46
  go_wp2_with (at_make; rw [← HW2.out]; refine wpList_make_full _ rfl _ _ 22 rfl w2.heap.size 3 i0 (.int .i64 0) 1 Tryd.underlying22 hi hz0 hz1 .i64 .i64 _ _ n rfl rfl rfl rfl (by rw [hz2]; omega) (by unfold maxLen; omega) (Nat.le_refl _) ?_; intro w3 hown3 hgrow3)
  clear HW2 hsz2
  have HB3 : Hid (Below w2.heap.size w2 w3) := (Below.refl _ _).grown hgrow3 (Nat.le_refl _) (by simp)
  have HO3 : Hid (Own w3 w2.heap.size n (prtTo g L 0 0)) := by rw [prtTo_zero]; exact own_made hown3
  have HLT3 : Hid (w2.heap.size < w3.heap.size) := (hown3.lt w2.heap.size rfl).2
  clear hown3 hgrow3 hi hz0 hz1 hz2
  go_loopw [15] (fun t wx => ∃ i : Nat, i ≤ n ∧ t = .int .i64 i ∧ Own wx w2.heap.size n (prtTo g L i 0) ∧ Hid (Below w2.heap.size w2 wx) ∧ Hid (w2.heap.size < wx.heap.size)) (fun t _ => n - (intOf t).toNat)
  case atStart => exact ⟨0, Nat.zero_le _, rfl, HO3.out, HB3.out, HLT3.out⟩
  case round =>
    obtain ⟨i, hi, rfl, hO, hBx, hLx⟩ := hrel
    clear HO3 HB3 HLT3
    by_cases hlt : i < n
    · obtain ⟨b2, o2, rfl, hc2⟩ := (HR2.out.below hBx.out).at hlt
      have hci := hc2 i hlt
      clear hc2
      have hlt' : (i : Int) < (n : Int) := by omega
      go_wp2
      have HO1 : Hid (Own wr w2.heap.size n (prtTo g L i 0)) := hO
      clear hO hci
      go_loopw [22] (fun t wx => ∃ k : Nat, k ≤ n ∧ t = .int .i64 k ∧ Own wx w2.heap.size n (prtTo g L i k) ∧ Hid (Below w2.heap.size w2 wx) ∧ Hid (w2.heap.size < wx.heap.size)) (fun t _ => n - (intOf t).toNat)
      case atStart => exact ⟨0, Nat.zero_le _, rfl, HO1.out, hBx.out, hLx.out⟩
      case round =>
        obtain ⟨k, hk, rfl, hO, hBy, hLy⟩ := hrel
        clear HO1
        by_cases hkl : k < n
        · obtain ⟨b2', o2', e2, hc2⟩ := (HR2.out.below hBy.out).at hkl
          simp at e2
          obtain ⟨rfl, rfl⟩ := e2
          have hck := hc2 k hkl
          clear hc2
          have hkl' : (k : Int) < (n : Int) := by omega
          have hHy := H2.out.step hBy.out
          have c0 := hHy.c0
          have c1 := hHy.c1
          have hni := HLT.out i hlt
          have hnk := HLT.out k hkl
          obtain ⟨b3, o3, rfl, hc3⟩ := hHy.row.at hni
          have hcc := hc3 _ hni
          have hgi := HG2.out _ hni
          clear hc3 hHy
          have hni' : ((nth L i : Nat) : Int) < (n : Int) := by omega
          rcases (Bool.eq_false_or_eq_true ((g (nth L i)).testBit (nth L k))).symm with hb | hb
          · have HE : Hid (prtTo g L i (k + 1) = prtTo g L i k) := prtTo_no hb
            go_wp2_with (go_at_call 22; refine (has_any _ _ _ (by omega) (by omega)).mono ?_; rintro e w' ⟨rfl, rfl⟩)
            go_roundw
            case rel => exact ⟨k + 1, by omega, by go_num, by rw [HE.out]; exact hO, hBy, hLy⟩
            case measure => simp [intOf]; omega
          · have HE := prtTo_yes hb
            have HE2 : Hid (prtTo g L i (k + 1) = upd (prtTo g L i k) i (setBy (fun t => (g (nth L i)).testBit (nth L t)) k ||| pw k)) := HE
            have hcO := (hO i hlt).1
            have hfO := (hO i hlt).2
            rw [prtTo_same] at hcO
            have hsh := wrap_pow k (Nat.lt_of_lt_of_le hkl (Nat.le_trans h10 (by decide)))
            have hlt2 : setBy (fun t => (g (nth L i)).testBit (nth L t)) k < pw n := Nat.lt_of_lt_of_le (setBy_lt _ k) (Nat.pow_le_pow_right (by decide) hk)
            have hor := or_pw (b := k) h10 hlt2 hkl
            have HOY : Hid (Own wr w2.heap.size n (prtTo g L i k)) := hO
            clear hO HE hlt2
            generalize setBy (fun t => (g (nth L i)).testBit (nth L t)) k = S at *
            go_wp2_with (go_at_call 22; refine (has_any _ _ _ (by omega) (by omega)).mono ?_; rintro e w' ⟨rfl, rfl⟩)
            go_region
            all_goals go_wp2
            all_goals go_roundw
            case rel => exact ⟨k + 1, by omega, by go_num, by rw [HE2.out]; exact Own.set HOY.out i _ hlt, Below.drew (Below.setCell (p := ⟨w2.heap.size, i, none⟩) hBy.out (Nat.le_refl _) _), (by have := hLy.out; show _ < _; simpa using this)⟩
            case measure => simp [intOf]; omega
        · have hkm : k = n := by omega
          have HNX : Hid (prtTo g L i k = prtTo g L (i + 1) 0) := by rw [hkm, HM.out]; exact prtTo_next g L i
          subst hkm
          go_wp2
          go_roundw
          case rel => exact ⟨i + 1, by omega, by go_num, by rw [← HNX.out]; exact hO, hBy, hLy⟩
          case measure => simp [intOf]; omega
    · have him : i = n := by omega
      have HOE : Hid (Own wr w2.heap.size n (prt g L)) := hO.congr (fun j hj => by rw [him, HM.out]; exact prtTo_end g L j (by rw [← HM.out]; exact hj))
      subst him
      have HBE : Hid (Below w.heap.size w wr) := Below.then HB2.out hBx.out
      clear hO hBx
      go_wp2
      go_ret
      exact ⟨⟨_, rfl, HOE.out, HSZ2.out, hLx.out⟩, HBE.out⟩
end Go.Proofs.YtinblbkglkhjmaaDoor
