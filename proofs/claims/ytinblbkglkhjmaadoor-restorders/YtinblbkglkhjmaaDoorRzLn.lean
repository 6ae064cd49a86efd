/-
  What realize.lay answers: all rows of an order, each with its pairs. Conditions: an order of at most seven points that lies in a slice of numbers.
-/
import Derived.Test.YtinblbkglkhjmaaDoorRzLay
import Derived.Test.YtinblbkglkhjmaaDoorPermM
import Derived.Test.YtinblbkglkhjmaaDoorUndec
import Derived.Test.YtinblbkglkhjmaaDoorRzR
namespace Go.Proofs.YtinblbkglkhjmaaDoor
open Go.RowKit
attribute [local go_sem] Oper.semAt_some

theorem infoL : (Tryd.prog.info? 73).map (fun i => (i.zero, i.size, i.bytes)) = some (some (.agg #[.slice none 0 0, .int .u64 0]), 2, 32) := by kernel_rfl
theorem underL : Tryd.prog.underlying 57 = some (.slice 73) := by kernel_rfl
/-- The pairs of a row. -/
def hasK (g : Nat → Nat) (n k : Nat) : Nat := pkd (bf (fun j => (nP g n k j : Nat)) n n) n
/-- Lines, as they lie. -/
def lnVals (g : Nat → Nat) (n : Nat) (xs : List (Option Addr × Nat × Nat)) : List Value := xs.flatMap fun x => [encR n x, .int .u64 (hasK g n x.2.2 : Nat)]
theorem lnVals_snoc (g : Nat → Nat) (n : Nat) (xs : List (Option Addr × Nat × Nat)) (x : Option Addr × Nat × Nat) : lnVals g n (xs ++ [x]) = lnVals g n xs ++ [encR n x, .int .u64 (hasK g n x.2.2 : Nat)] := by
  simp [lnVals]
/-- Lines and their rows. -/
structure Lin (W : World) (Z : Nat) (v : Value) (g : Nat → Nat) (n : Nat) (xs : List (Option Addr × Nat × Nat)) : Prop where
  own : W.ownsRow Z 73 2 v xs.length (lnVals g n xs)
  row : ∀ x, x ∈ xs → x.2.2 < ways g n 0 ∧ W.ownsRow Z 3 1 (encR n x) n (rowVals (nP g n x.2.2) n)
theorem line_apart {w : World} {b1 b2 s1 s2 n k : Nat} {v cv : Value} {xs ys : List Value} (h : w.ownsRow b1 3 s1 v n xs) (h' : w.ownsRow b2 73 s2 cv k ys) : v.ownBlock = none ∨ v.ownBlock ≠ cv.ownBlock := by
  rcases h.2 with ⟨rfl, _⟩ | ⟨g, cap, cur, rfl, _, hg, _⟩
  · exact .inl rfl
  · refine .inr ?_
    rcases h'.2 with ⟨rfl, _⟩ | ⟨g', cap', cur', rfl, _, hg', _⟩
    · simp [Value.ownBlock]
    · intro e
      simp only [Value.ownBlock, Option.some.injEq] at e
      subst e
      rw [hg] at hg'
      simp at hg'
/-- What lies in cells is kept where another block turns that is no cells. -/
theorem nc_owns {W W' : World} {row : Option Nat} {base size n : Nat} {e : TypeId} {v : Value} {xs : List Value} (h : W.ownsRow base e size v n xs) (hg : W.grownBy W' row) (hr : ∀ r, row = some r → ∃ o : Obj, W.heap[r]? = some o ∧ o.isCells = false) : W'.ownsRow base e size v n xs := by
  refine h.kept hg ?_
  rcases h.2 with ⟨rfl, _⟩ | ⟨g, cap, cur, rfl, _, hgg, _⟩
  · exact .inl rfl
  · refine .inr fun e => ?_
    obtain ⟨o, ho, hc⟩ := hr g e.symm
    rw [hgg] at ho
    cases ho; cases hc
theorem nc_cell {W W' : World} {row : Option Nat} {p : Addr} {v : Value} (h : W.cell? p = some v) (hg : W.grownBy W' row) (hr : ∀ r, row = some r → ∃ o : Obj, W.heap[r]? = some o ∧ o.isCells = false) : W'.cell? p = some v ∧ W'.frozen? p = W.frozen? p := by
  obtain ⟨o, ho, hc⟩ := cells_of_cell h
  have hb : W'.heap[p.block]? = W.heap[p.block]? := hg.block _ (World.block_lt_of_cell? _ _ h) fun e => by
    obtain ⟨o', ho', hc'⟩ := hr _ e.symm
    rw [ho] at ho'; cases ho'; rw [hc] at hc'; cases hc'
  refine ⟨by rw [← h]; exact World.cell?_of_block (w := W) hb, ?_⟩
  unfold World.frozen?
  rw [hb]

theorem round_lates {l n : Nat} {P : Program} {ops : Array Oper} {Q : Exit → Act → World → Prop} {S : World → Prop} {late : Nat → Bool} {id : Nat} {a : Act} {w : World} (hd : ∀ (i : Nat) (o : Oper) c, ops[i]? = some o → o.op ≠ .defer c) (hL : ¬ LetsOut Q)
    (hm : P.follows .mixedOrders = true) (h : Lates P ops Q S late ops.size (Array.replicate ops.size false) a w.drew) : (Code.region id ops true).wpIn (Fence.wide.inRound l) n P Q a w :=
  wpIn_region_any hm (any_round hd hL _ _ _ _ (Lates.any _ _ _ _ h))
theorem no_defer {ops : Array Oper} (h : (ops.all fun o => match o.op with | .defer _ => false | _ => true) = true) : ∀ (i : Nat) (o : Oper) c, ops[i]? = some o → o.op ≠ .defer c := fun i o c ho e => by
  obtain ⟨hlt, he⟩ := Array.getElem?_eq_some_iff.1 ho
  have := Array.all_eq_true.1 h i hlt
  rw [he, e] at this
  cases this
/-- A line more. -/
theorem wp_line {o : Oper} {a : Act} {K : Act → World → Prop} {Q : Exit → Act → World → Prop} (w : World) (s x : Operand)
    (ho : o.op = .call { callee := .builtin .append, args := #[s, x], argTypes := #[57, 57] }) (base : Nat) (v : Value) (n : Nat) (xs : List Value) (hs : a.eval s = v) (hown : w.ownsRow base 73 2 v n xs)
    (b : Nat) (p q : Value) (hx : a.eval x = .slice (some ⟨b, 0, none⟩) 1 1) (hc0 : w.cell? ⟨b, 0, none⟩ = some p) (hc1 : w.cell? ⟨b, 1, none⟩ = some q) (hp : p.oneCell' = true) (hq : q.oneCell' = true) (hlen : n ≤ 10000000000) (hbase : base ≤ w.heap.size)
    (h : ∀ v' w', w'.ownsRow base 73 2 v' (n + 1) (xs ++ [p, q]) → w.grownBy w' v.ownBlock → K (a.put o.dst v') w') : o.wp Tryd.prog a w K Q := by
  obtain ⟨i0, hi, hz0, hz1, hz2⟩ := info_parts infoL
  refine wp_append_own (P := Tryd.prog) (w := w) s x 57 ho base 73 i0 _ 2 32 underL hi hz0 hz1 hz2 rfl (by decide) v n xs hs hown ⟨b, 0, none⟩ 1 1 [p, q] hx rfl ?_ ?_ (by unfold maxLen; omega) (by omega) hbase (fun v' w' h1 h2 _ => h v' w' h1 h2)
  · intro j u hj
    match j, hj with
    | 0, hj => simp at hj; subst hj; simpa [Addr.add] using hc0
    | 1, hj => simp at hj; subst hj; simpa [Addr.add] using hc1
  · intro u hu
    simp at hu
    rcases hu with rfl | rfl
    · exact hp
    · exact hq
def LayI (w : World) (C : Nat) (g : Nat → Nat) (n Z : Nat) (xs : List (Option Addr × Nat × Nat)) (W : World) : Prop :=
  ∃ v, W.cell? ⟨C, 0, none⟩ = some v ∧ W.frozen? ⟨C, 0, none⟩ = false ∧ Lin W Z v g n xs ∧ Below w.heap.size w W ∧ Z ≤ W.heap.size
theorem layI_own {w : World} {C : Nat} {g : Nat → Nat} {n Z B : Nat} (hB : w.heap.size ≤ B) : OwnFrom B (LayI w C g n Z) := by
  rintro xs W W' row ⟨v, h1, h2, h3, h4, h5⟩ hg hr
  have hr2 : ∀ r, row = some r → ∃ o : Obj, W.heap[r]? = some o ∧ o.isCells = false := fun r e => (hr r e).2
  obtain ⟨c1, c2⟩ := nc_cell h1 hg hr2
  refine ⟨v, c1, by rw [c2]; exact h2, ⟨nc_owns h3.own hg hr2, fun x hx => ⟨(h3.row x hx).1, nc_owns (h3.row x hx).2 hg hr2⟩⟩, h4.grown hg h4.size (fun k e => by have := (hr k e).1; omega), Nat.le_trans h5 hg.size⟩

/-- The cell of the variable is as it was behind an append to what it holds. -/
theorem lay_c {W W' : World} {C Z k : Nat} {v : Value} {xs : List Value} (h : W.cell? ⟨C, 0, none⟩ = some v) (h2 : W.frozen? ⟨C, 0, none⟩ = false) (ho : W.ownsRow Z 73 2 v k xs) (hg : W.grownBy W' v.ownBlock) (hC : C < Z) :
    W'.cell? ⟨C, 0, none⟩ = some v ∧ W'.frozen? ⟨C, 0, none⟩ = false := by
  have hb : W'.heap[C]? = W.heap[C]? := hg.block _ (World.block_lt_of_cell? _ _ h) fun e => by
    have := owns_block ho C e.symm; omega
  refine ⟨by rw [← h]; exact World.cell?_of_block (w := W) hb, ?_⟩
  rw [← h2]
  unfold World.frozen?
  rw [hb]
/-- A round's end. -/
theorem lay_end {w W w6 w7 w2 : World} {g : Nat → Nat} {n : Nat} {pre : List (Option Addr × Nat × Nat)} {xa : Option Addr} {xc xk : Nat} {v v7 : Value} {Ix : Code → List (Option Addr × Nat × Nat) → World → Prop} {aa : Act} (hI : LayI w (w.heap.size + 1) g n w2.heap.size pre W) (hcv : W.cell? ⟨w.heap.size + 1, 0, none⟩ = some v) (c70 : w7.cell? ⟨w.heap.size + 1, 0, none⟩ = some v) (c71 : w7.frozen? ⟨w.heap.size + 1, 0, none⟩ = false)
    (hX : xk < ways g n 0 ∧ W.ownsRow w2.heap.size 3 1 (.slice xa n xc) n (rowVals (nP g n xk) n)) (h6 : Below W.heap.size W w6) (h7 : w7.ownsRow w2.heap.size 73 2 v7 (pre.length + 1) (lnVals g n pre ++ [.slice xa n xc, .int .u64 (hasK g n xk : Nat)])) (hg : w6.grownBy w7 v.ownBlock) (hz : w2.heap.size = w.heap.size + 3) (hZ : w2.heap.size ≤ W.heap.size) :
    Exit.inBlock 1 (ownPostG w2.heap.size (Oth (w.heap.size + 1) w2.heap.size) (LayI w (w.heap.size + 1) g n w2.heap.size) Ix (pre ++ [(xa, xc, xk)]) W) .normal aa (w7.setCell ⟨w.heap.size + 1, 0, none⟩ v7) := by
  obtain ⟨v', i1, i2, i3, i4, i5⟩ := hI
  obtain rfl : v' = v := Option.some.inj (i1.symm.trans hcv)
  have own6 := owns_below i3.own h6
  have hblk : ∀ k, v'.ownBlock = some k → w2.heap.size ≤ k := fun k e => owns_block own6 k e
  -- a cell of the call's own is no other object
  have hcell : ∀ k o, v'.ownBlock = some k → w6.heap[k]? = some o → o.isCells = true := fun k o e ho => by
    rcases own6.2 with ⟨rfl, _⟩ | ⟨g', c', cur, rfl, _, hgg, _⟩
    · cases e
    · simp only [Value.ownBlock, Option.some.injEq] at e
      subst e
      rw [hgg] at ho; cases ho; rfl
  have hsz : W.heap.size ≤ w7.heap.size := Nat.le_trans h6.size hg.size
  have hset := grown_set w7 (w.heap.size + 1) 0 v7
  have far : ∀ {k : Nat}, k ≠ w.heap.size + 1 → (w7.setCell ⟨w.heap.size + 1, 0, none⟩ v7).heap[k]? = w7.heap[k]? := fun h => Below.heap_setCell _ _ _ _ h
  have lift : ∀ {e : TypeId} {sz m : Nat} {y : Value} {ys : List Value}, w7.ownsRow w2.heap.size e sz y m ys → (w7.setCell ⟨w.heap.size + 1, 0, none⟩ v7).ownsRow w2.heap.size e sz y m ys := fun h => h.kept hset (by
    rcases hh : Value.ownBlock _ with _ | k
    · exact .inl rfl
    · right
      have := owns_block h k hh
      intro e2; cases e2; omega)
  refine ⟨⟨?_, fun k o hB hk ho => ?_⟩, ⟨?_, fun k o hB hkc hk ho => ?_⟩, v7, ?_, ?_, ⟨?_, fun x hx => ?_⟩, ?_, ?_⟩
  · simpa [World.setCell] using hsz
  · have hlt : k < W.heap.size := (Array.getElem?_eq_some_iff.1 hk).1
    have e6 : w6.heap[k]? = some o := (h6.block k hlt).trans hk
    rw [far (by omega), hg.block k (by have := h6.size; omega) (fun e2 => by
      have := hcell k o e2.symm e6
      rw [ho] at this; cases this)]
    exact e6
  · simpa [World.setCell] using hsz
  · have hlt : k < W.heap.size := (Array.getElem?_eq_some_iff.1 hk).1
    have e6 : w6.heap[k]? = some o := (h6.block k hlt).trans hk
    rw [far hkc, hg.block k (by have := h6.size; omega) (fun e2 => by have := hblk k e2.symm; omega)]
    exact e6
  · exact World.cell?_setCell_same _ _ _ c70
  · rw [World.frozen?_setCell]; exact c71
  · rw [List.length_append, lnVals_snoc]
    exact lift h7
  · rcases List.mem_append.1 hx with hx | hx
    · refine ⟨(i3.row x hx).1, lift ?_⟩
      have h8 := owns_below (i3.row x hx).2 h6
      exact h8.kept hg (line_apart h8 own6)
    · rcases List.mem_singleton.1 hx with rfl
      refine ⟨hX.1, lift ?_⟩
      have h8 := owns_below hX.2 h6
      exact h8.kept hg (line_apart h8 own6)
  · have hb6 : Below w.heap.size w w6 := i4.trans (h6.mono i4.size)
    exact (hb6.grown hg hb6.size (fun k e => by have := hblk k e; omega)).setCell (p := ⟨w.heap.size + 1, 0, none⟩) (Nat.le_succ _) _
  · have : w2.heap.size ≤ w7.heap.size := Nat.le_trans hZ hsz
    simpa [World.setCell] using this

set_option maxRecDepth 100000 in
set_option maxHeartbeats 4000000 in
theorem lay_any (len : Nat) (a : Option Addr) (cap : Nat) (f : Nat → Int) (w : World) (h7 : len ≤ 7) (hc : Chk (len : Nat) len f 0) (hr : Row w a len f) :
    Calls Tryd.prog 32 #[.agg #[.int .i64 (len : Nat), .slice a len cap]] w fun e w' => (∃ v xs, e = .returned v ∧ xs.map (fun x => x.2.2) = List.range (ways (nat f) len 0) ∧ Lin w' w.heap.size v (nat f) len xs) ∧ Below w.heap.size w w' := by
  have HCK : Hid (Chk (len : Nat) len f 0) := hc
  obtain ⟨_, h10, hrng, hord⟩ := hc.good
  have hws := ways_small (u := nat f) h10 (pw_pos len)
  -- the two boxes
  obtain ⟨w1, HW1⟩ : ∃ w1, Hid (w1 = (w.alloc (.cells #[.int .i64 (len : Nat), .slice a len cap] 24)).alloc (.cells #[.slice none 0 0] 57)) := ⟨_, rfl⟩
  have hb1 : Below w.heap.size w w1 := by rw [HW1.out]; exact ((Below.refl _ _).alloc (Nat.le_refl _) _).alloc (by simp) _
  have hs1 : w1.heap.size = w.heap.size + 2 := by rw [HW1.out]; simp
  have l0 : w1.cell? ⟨w.heap.size, 0, none⟩ = some (.int .i64 (len : Nat)) := by rw [HW1.out]; simp
  have l1 : w1.cell? ⟨w.heap.size, 1, none⟩ = some (.slice a len cap) := by rw [HW1.out]; simp
  have cc : w1.cell? ⟨w.heap.size + 1, 0, none⟩ = some (.slice none 0 0) := by rw [HW1.out]; simp
  have cf : w1.frozen? ⟨w.heap.size + 1, 0, none⟩ = false := by rw [HW1.out]; exact World.frozen?_alloc_at _ _ _ _ (by simp)
  have hr1 : Row w1 a len f := hr.below hb1
  have hca : ∀ b off, 0 < len → a = some ⟨b, off, none⟩ → b ≠ w.heap.size + 1 := fun b off hl e => by
    obtain ⟨b', off', e', hv⟩ := hr 0 hl
    rw [e] at e'; cases e'
    have := World.block_lt_of_cell? _ _ hv
    simp only at this
    omega
  refine (callsIn_wide (n := 3)).1 ?_
  refine callsIn_of_wp_marks Tryd.func32 rfl trivial ?_ rfl
  simp only [Tryd.ntmps32, List.size_toArray, List.length_cons, List.length_nil, Nat.reduceAdd, Nat.reduceSub, Array.replicate_succ, Array.replicate_zero, List.push_toArray, List.append_toArray, List.nil_append, List.cons_append]
  gi_wp2
  rw [← HW1.out]
  refine ⟨trivial, (callsIn_wide.2 (allRows_any (len : Nat) a len cap w1)).mono ?_⟩
  rintro e w2 ⟨rfl, hw2⟩
  have hb2 : Below w1.heap.size w1 w2 := by rw [hw2]; exact (Below.refl _ _).alloc (Nat.le_refl _) _
  have hs2 : w2.heap.size = w1.heap.size + 1 := by rw [hw2]; simp
  have m0 : w2.cell? ⟨w1.heap.size, 0, none⟩ = some (.int .i64 (len : Nat)) := by rw [hw2]; simp
  have m1 : w2.cell? ⟨w1.heap.size, 1, none⟩ = some (.slice a len cap) := by rw [hw2]; simp
  have cc2 : w2.cell? ⟨w.heap.size + 1, 0, none⟩ = some (.slice none 0 0) := (hb2.cell (p := ⟨w.heap.size + 1, 0, none⟩) (by show w.heap.size + 1 < w1.heap.size; omega)).trans cc
  have cf2 : w2.frozen? ⟨w.heap.size + 1, 0, none⟩ = false := (hb2.frozen (p := ⟨w.heap.size + 1, 0, none⟩) (by show w.heap.size + 1 < w1.heap.size; omega)).trans cf
  have HSEQ := (show Hid _ from rows_seq (w.heap.size + 1) (3 - 1) w1.heap.size len a cap f w2 (by unfold maxLen; omega) HCK.out m0 m1 (hr1.below hb2) (by omega) hca)
  have HB2 : Hid (Below w.heap.size w w2) := Below.then hb1 hb2
  have HI0 : Hid (LayI w (w.heap.size + 1) (nat f) len w2.heap.size [] w2) := ⟨_, cc2, cf2, ⟨⟨rfl, .inl ⟨rfl, rfl⟩⟩, fun x hx => by cases hx⟩, HB2.out, Nat.le_refl _⟩
  have HSZ : Hid (w2.heap.size = w.heap.size + 3) := by
    show w2.heap.size = w.heap.size + 3
    omega
  clear hw2 hb2 hs2 m0 m1 cc2 cf2 hb1 hs1 l0 l1 cc cf hr1 hca HW1 hr hc hrng hord
  gi_wp2
  refine range_w (n := 3) rfl (by omega) (gf := 59) (lb := #[.pointer (some ⟨w1.heap.size, 0, none⟩)]) rfl trivial (fun _ _ => rfl) HSEQ.out (Below.refl _ _) (fun h k => h.trans k) (Oth.loop _ _) ?hV
    (LayI w (w.heap.size + 1) (nat f) len w2.heap.size) (layI_own HB2.out.size) HI0.out (fun x => { tmps := #[.agg #[.int .i64 (len : Nat), .slice a len cap], .pointer (some ⟨w.heap.size, 0, none⟩), .slice none 0 0, .pointer (some ⟨w.heap.size + 1, 0, none⟩), encR len x, .agg #[.int .i64 (len : Nat), .slice a len cap], .func (.func 59) #[] #[.pointer (some ⟨w1.heap.size, 0, none⟩)], encR len x, undef, undef, undef, undef, undef, undef, undef, undef, undef], defers := [] }) ?ha ?hbody ?hdone
  case hV =>
    intro x s W W' row hv hg hr'
    exact ⟨hv.1, nc_owns hv.2 hg fun r e => (hr' r e).2⟩
  case ha =>
    intro l x W K hK
    gi_wp2
    exact hK
  case hbody =>
    rintro l pre ⟨xa, xc, xk⟩ W ⟨v, i1, i2, i3, i4, i5⟩ hv hlen
    have hown : W.ownsRow w2.heap.size 3 1 (.slice xa len xc) len (rowVals (nP (nat f) len xk) len) := hv.2
    have hrow : Row W xa len (fun j => (nP (nat f) len xk j : Nat)) := by
      obtain ⟨a', c', e, hr'⟩ := owns_row hown
      cases e; exact hr'
    have HON : Hid (Once (fun j => ((nP (nat f) len xk j : Nat) : Int)) len len) := nP_once hv.1
    have HRX : Hid (∀ w', Below W.heap.size W w' → Row w' xa len (fun j => (nP (nat f) len xk j : Nat))) := fun w' h => hrow.below h
    have HX : Hid (xk < ways (nat f) len 0 ∧ W.ownsRow w2.heap.size 3 1 (.slice xa len xc) len (rowVals (nP (nat f) len xk) len)) := ⟨hv.1, hown⟩
    have HI : Hid (LayI w (w.heap.size + 1) (nat f) len w2.heap.size pre W) := ⟨v, i1, i2, i3, i4, i5⟩
    have HL3 : Hid (Lin W w2.heap.size v (nat f) len pre) := i3
    have HPL : Hid (pre.length < ways (nat f) len 0) := hlen
    have HI5 : Hid (w2.heap.size ≤ W.heap.size) := i5
    have HCW : Hid (w.heap.size + 1 < W.heap.size) := World.block_lt_of_cell? _ _ i1
    have d0 : ∀ w', Below W.heap.size W w' → w'.cell? ⟨w.heap.size + 1, 0, none⟩ = some v := fun w' h => (h.cell (p := ⟨w.heap.size + 1, 0, none⟩) HCW.out).trans i1
    have D1 : Hid (∀ w', Below W.heap.size W w' → w'.frozen? ⟨w.heap.size + 1, 0, none⟩ = false) := fun w' h => (h.frozen (p := ⟨w.heap.size + 1, 0, none⟩) HCW.out).trans i2
    have HBF : Hid (∀ j, bf (fun j => ((nP (nat f) len xk j : Nat) : Int)) len len j < 128) := fun j => Nat.lt_of_lt_of_le (bf_lt len j) (Nat.le_trans (Nat.pow_le_pow_right (by decide) h7) (by decide))
    clear hown hrow hv hlen i1 i2 i3 i4 i5
    refine wpIn_block ?_
    show Code.wpIn (Fence.wide.inRound l) 1 Tryd.prog _ _ { tmps := #[.agg #[.int .i64 (len : Nat), .slice a len cap], .pointer (some ⟨w.heap.size, 0, none⟩), .slice none 0 0, .pointer (some ⟨w.heap.size + 1, 0, none⟩), .slice xa len xc, .agg #[.int .i64 (len : Nat), .slice a len cap], .func (.func 59) #[] #[.pointer (some ⟨w1.heap.size, 0, none⟩)], .slice xa len xc, undef, undef, undef, undef, undef, undef, undef, undef, undef], defers := [] } W
    refine round_lates (no_defer (by kernel_rfl)) (fun ⟨_, _, h⟩ => h) (S := (fun w' => Below W.heap.size W w')) (late := (fun i => i == 7 || i == 8)) (by kernel_rfl) ?_
    have HS : Hid (Below W.heap.size W W.drew) := (Below.refl _ _).drew
    refine lates_take (i := 0) (oi := { dst := some 8, op := Go.Op.load 57 (Go.Operand.tmp 3), type := 57, pos := "lines.go:37", after := #[], guard := none }) (v := ?_) rfl (by kernel_rfl) (by kernel_rfl) (by kernel_rfl) ⟨rfl, by kernel_rfl⟩ (fun _ _ _ h => h) (Or.inl ⟨by rfl, ?hy⟩) HS.out ?_
    case hy => (intro w9 hSw; (have e0 := d0 _ hSw); go_simp; try with_reducible rfl)
    try simp only [Act.put, List.setIfInBounds_toArray, List.set_cons_zero, List.set_cons_succ]
    refine lates_takeM [5, 6] (i := 1) (oi := { dst := some 9, op := Go.Op.move (Go.Operand.tmp 4), type := 22, pos := "lines.go:37", after := #[], guard := none }) (v := ?_) rfl (by kernel_rfl) (by kernel_rfl) (by kernel_rfl) (by kernel_rfl) (by kernel_rfl) (fun _ _ _ h => h) (Or.inl ⟨by rfl, ?hy⟩) HS.out ?_
    case hy => (intro w9 hSw; (have e0 := d0 _ hSw); go_simp; try with_reducible rfl)
    try simp only [Act.put, List.setIfInBounds_toArray, List.set_cons_zero, List.set_cons_succ]
    refine lates_takeM [3, 4, 5, 6] (i := 2) (oi := { dst := some 10, op := Go.Op.move (Go.Operand.tmp 4), type := 22, pos := "lines.go:37", after := #[], guard := none }) (v := ?_) rfl (by kernel_rfl) (by kernel_rfl) (by kernel_rfl) (by kernel_rfl) (by kernel_rfl) (fun _ _ _ h => h) (Or.inl ⟨by rfl, ?hy⟩) HS.out ?_
    case hy => (intro w9 hSw; (have e0 := d0 _ hSw); go_simp; try with_reducible rfl)
    try simp only [Act.put, List.setIfInBounds_toArray, List.set_cons_zero, List.set_cons_succ]
    refine lates_ready (rs := [3]) (by kernel_rfl) (by simp) ?_
    refine AllLate.cons (o := { dst := some 11, op := Go.Op.call { callee := Go.Callee.value (Go.Operand.func 50), args := #[Go.Operand.tmp 10], argTypes := #[22] }, type := 22, pos := "lines.go:37", after := #[{ on := 2, ground := Go.Ground.data }], guard := none }) rfl (fun K hK => ?_) ?_
    · go_simp
      refine (ahead_any xa len xc (fun j => ((nP (nat f) len xk j : Nat) : Int)) _ h10 HON.out (HRX.out _ HS.out)).mono ?_
      rintro e w3 ⟨rfl, hO3, hb3⟩
      have HS3 : Hid (Below W.heap.size W w3) := Below.then HS.out hb3
      have HR3 : Hid (Row w3 (some ⟨W.heap.size, 0, none⟩) len (fun j => (bf (fun j => ((nP (nat f) len xk j : Nat) : Int)) len len j : Nat))) := hO3.row
      clear hO3 hb3
      refine hK.out _ _ (fun _ => ?_) ?_
      · exact HS3.out
      have HS := HS3
      clear hK K
      try simp only [Act.put, List.setIfInBounds_toArray, List.set_cons_zero, List.set_cons_succ]
      refine lates_ready (rs := [4]) (by kernel_rfl) (by simp) ?_
      refine AllLate.cons (o := { dst := some 12, op := Go.Op.call { callee := Go.Callee.value (Go.Operand.func 49), args := #[Go.Operand.tmp 11], argTypes := #[22] }, type := 60, pos := "lines.go:37", after := #[{ on := 3, ground := Go.Ground.data }, { on := 3, ground := Go.Ground.chain }], guard := none }) rfl (fun K hK => ?_) ?_
      · go_simp
        refine (packed_any (some ⟨W.heap.size, 0, none⟩) len len (bf (fun j => ((nP (nat f) len xk j : Nat) : Int)) len len) _ h7 HBF.out HR3.out).mono ?_
        rintro e w4 ⟨rfl, rfl⟩
        refine hK.out _ _ (fun _ => ?_) ?_
        · exact HS.out

        clear hK K
        try simp only [Act.put, List.setIfInBounds_toArray, List.set_cons_zero, List.set_cons_succ]
        refine lates_takeM [6] (i := 5) (oi := { dst := some 13, op := Go.Op.build 73 #[(0, Go.Operand.tmp 9), (1, Go.Operand.tmp 12)], type := 73, pos := "lines.go:37", after := #[{ on := 1, ground := Go.Ground.data }, { on := 4, ground := Go.Ground.data }], guard := none }) (v := ?_) rfl (by kernel_rfl) (by kernel_rfl) (by kernel_rfl) (by kernel_rfl) (by kernel_rfl) (fun _ _ _ h => h) (Or.inl ⟨by rfl, ?hy⟩) HS.out ?_
        case hy => (intro w9 hSw; (have e0 := d0 _ hSw); go_simp; try with_reducible rfl)
        try simp only [Act.put, List.setIfInBounds_toArray, List.set_cons_zero, List.set_cons_succ]
        refine lates_ready (rs := [6]) (by kernel_rfl) (by simp) ?_
        refine AllLate.cons (o := { dst := some 14, op := Go.Op.buildSlice 57 1 #[(0, Go.Operand.tmp 13)], type := 57, pos := "lines.go:37", after := #[{ on := 5, ground := Go.Ground.data }], guard := none }) rfl (fun K hK => ?_) ?_
        · go_simp
          obtain ⟨w6, HW6⟩ : ∃ w6, Hid (w6 = w4.alloc (.cells #[.slice xa len xc, .int .u64 (hasK (nat f) len xk : Nat)] 73)) := ⟨_, rfl⟩
          have HS6 : Hid (Below W.heap.size W w6) := by rw [HW6.out]; exact HS.out.alloc HS.out.size _
          have c60 : w6.cell? ⟨w4.heap.size, 0, none⟩ = some (.slice xa len xc) := by rw [HW6.out]; simp
          have c61 : w6.cell? ⟨w4.heap.size, 1, none⟩ = some (.int .u64 (hasK (nat f) len xk : Nat)) := by rw [HW6.out]; simp
          have C60 : Hid (w6.cell? ⟨w4.heap.size, 0, none⟩ = some (.slice xa len xc)) := c60
          have C61 : Hid (w6.cell? ⟨w4.heap.size, 1, none⟩ = some (.int .u64 (hasK (nat f) len xk : Nat))) := c61
          clear c60 c61
          rw [show pkd (bf (fun j => ((nP (nat f) len xk j : Nat) : Int)) len len) len = hasK (nat f) len xk from rfl, ← HW6.out]
          refine hK.out _ _ (fun _ => ?_) ?_
          · exact HS6.out
          have HS := HS6
          clear hK K
          try simp only [Act.put, List.setIfInBounds_toArray, List.set_cons_zero, List.set_cons_succ]
          refine lates_ready (rs := [7]) (by kernel_rfl) (by simp) ?_
          refine AllLate.cons (o := { dst := some 15, op := Go.Op.call { callee := Go.Callee.builtin Go.Builtin.append, args := #[Go.Operand.tmp 8, Go.Operand.tmp 14], argTypes := #[57, 57] }, type := 57, pos := "lines.go:37", after := #[{ on := 0, ground := Go.Ground.data }, { on := 6, ground := Go.Ground.data }, { on := 4, ground := Go.Ground.chain }], guard := none }) rfl (fun K hK => ?_) ?_
          · rw [if_pos (by rfl)]
            refine wp_line w6 _ _ rfl w2.heap.size v pre.length (lnVals (nat f) len pre) rfl (owns_below HL3.out.own HS6.out) w4.heap.size _ _ rfl C60.out C61.out rfl rfl (by have := HPL.out; omega) (Nat.le_trans HI5.out HS6.out.size) ?_
            intro v7 w7 hown7 hg7
            obtain ⟨g7, cap7, hv7⟩ := owns_form hown7 (by omega)
            have HO7 : Hid (w7.ownsRow w2.heap.size 73 2 v7 (pre.length + 1) (lnVals (nat f) len pre ++ [.slice xa len xc, .int .u64 (hasK (nat f) len xk : Nat)])) := hown7
            have HG7 : Hid (w6.grownBy w7 v.ownBlock) := hg7
            clear hown7 hg7
            have c7 : w7.cell? ⟨w.heap.size + 1, 0, none⟩ = some v ∧ w7.frozen? ⟨w.heap.size + 1, 0, none⟩ = false := lay_c (d0 _ HS6.out) (D1.out _ HS6.out) (owns_below HL3.out.own HS6.out) HG7.out (by have := HSZ.out; omega)
            obtain ⟨c70, c71⟩ := c7
            rw [hv7] at HO7 ⊢
            clear hv7
            refine hK.out _ _ (fun h => by cases h) ?_
            clear hK K
            try simp only [Act.put, List.setIfInBounds_toArray, List.set_cons_zero, List.set_cons_succ]
            refine lates_ready (rs := [8]) (by kernel_rfl) (by simp) ?_
            refine AllLate.cons (o := { dst := none, op := Go.Op.store 57 (Go.Operand.tmp 3) (Go.Operand.tmp 15), type := 0, pos := "lines.go:37", after := #[{ on := 7, ground := Go.Ground.data }, { on := 7, ground := Go.Ground.chain }, { on := 0, ground := Go.Ground.phase }, { on := 1, ground := Go.Ground.phase }, { on := 2, ground := Go.Ground.phase }, { on := 3, ground := Go.Ground.phase }, { on := 4, ground := Go.Ground.phase }, { on := 5, ground := Go.Ground.phase }, { on := 6, ground := Go.Ground.phase }, { on := 7, ground := Go.Ground.phase }], guard := none }) rfl (fun K hK => ?_) ?_
            · go_simp
              skip
              refine hK.out _ _ (fun h => by cases h) ?_
              clear hK K
              try simp only [Act.put, List.setIfInBounds_toArray, List.set_cons_zero, List.set_cons_succ]
              refine lates_done (by kernel_rfl) ?_ _
              try simp only [Act.put, List.setIfInBounds_toArray, List.set_cons_zero, List.set_cons_succ]
              exact lay_end HI.out (d0 _ (Below.refl _ _)) c70 c71 HX.out HS6.out HO7.out HG7.out HSZ.out HI5.out
            exact AllLate.nil
          exact AllLate.nil
        exact AllLate.nil
      exact AllLate.nil
    exact AllLate.nil
  case hdone =>
    rintro D xs W hD hS ⟨v, i1, i2, i3, i4, i5⟩ hK
    have HL : Hid (Lin W w.heap.size v (nat f) len xs) := ⟨owns_mono i3.own (by have := HSZ.out; omega), fun y hy => ⟨(i3.row y hy).1, owns_mono (i3.row y hy).2 (by have := HSZ.out; omega)⟩⟩
    have HI4 : Hid (Below w.heap.size w W) := i4
    clear i3 i4 i5
    gi_wp2
    refine ⟨by simp, .inl ⟨_, _, rfl, run_takeDeferred hK, ?_⟩⟩
    refine ⟨_, results_tmp rfl _ _ _, ⟨v, xs, rfl, hS, ?_⟩, ?_⟩
    · have hgr := grownBy_putObj' W D (.deferred none)
      have hnc : ∀ r, some D = some r → ∃ o : Obj, W.heap[r]? = some o ∧ o.isCells = false := fun r e => by cases e; exact ⟨_, hK, rfl⟩
      exact ⟨nc_owns HL.out.own hgr hnc, fun y hy => ⟨(HL.out.row y hy).1, nc_owns (HL.out.row y hy).2 hgr hnc⟩⟩
    · exact HI4.out.trans (belowK_b (w := w) (Nat.le_refl _) W D _ _ (by have := HB2.out.size; omega) hK rfl rfl)
end Go.Proofs.YtinblbkglkhjmaaDoor
