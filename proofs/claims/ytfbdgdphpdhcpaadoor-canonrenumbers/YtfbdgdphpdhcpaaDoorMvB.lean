/-
  What canon.Moves answers. Conditions: the slice reads as a slice of numbers; the library's table.
-/
import Derived.Maps.AppendAt
import Derived.Test.YtfbdgdphpdhcpaaDoorMvG
namespace Go.Proofs.YtfbdgdphpdhcpaaDoor
open Go.RowKit Go.Shelf
set_option maxRecDepth 100000
attribute [local go_sem] Oper.semAt_some

/-- A list that leaves an order as it is. -/
def isMv (g : Nat → Nat) (n : Nat) (x : List Nat) : Bool := (List.range n).all fun k => prt g x k == g k
def mvL (g : Nat → Nat) (n : Nat) (l : List (List Nat)) : List (List Nat) := l.filter (isMv g n)
theorem mvL_snoc (g : Nat → Nat) (n : Nat) (l : List (List Nat)) (x : List Nat) : mvL g n (l ++ [x]) = mvL g n l ++ (if isMv g n x then [x] else []) := by
  unfold mvL
  rw [List.filter_append]
  congr 1
  by_cases h : isMv g n x <;> simp [h]
theorem isMv_iff {g : Nat → Nat} {n : Nat} {x : List Nat} : isMv g n x = true ↔ SameRows n n (fun k => (prt g x k : Nat)) (fun k => (g k : Nat)) := by
  unfold isMv SameRows
  simp only [List.all_eq_true, List.mem_range, beq_iff_eq, true_and, Int.natCast_inj]
/-- A row of lists of the call's own. -/
def MLst (W : World) (B : Nat) (z : Value) (ys : List (List Nat)) : Prop :=
  ∃ vs, W.ownsRow B 22 1 z ys.length vs ∧ ∀ (k : Nat) y, ys[k]? = some y → ∃ v, vs[k]? = some v ∧ W.ownsRow B 3 1 v y.length (natVals y)
/-- How it stands behind some lists. -/
structure FrM (w : World) (b1 C Z n : Nat) (a : Option Addr) (cap : Nat) (g : Nat → Nat) (B : Nat) (pre : List (Nat × List Nat)) (W : World) : Prop where
  held : Held W b1 n a n cap (fun k => (g k : Nat))
  bel : Below w.heap.size w W
  siz : Z ≤ W.heap.size ∧ Z ≤ B
  vals : ∃ z vs, (W.cell? ⟨C, 0, none⟩ = some z ∧ W.frozen? ⟨C, 0, none⟩ = false) ∧ z.ownBlock ≠ some B ∧ W.ownsRow Z 22 1 z (mvL g n (pre.map Prod.snd)).length vs ∧ ∀ (k : Nat) y, (mvL g n (pre.map Prod.snd))[k]? = some y → ∃ v, vs[k]? = some v ∧ v.ownBlock ≠ some B ∧ W.ownsRow Z 3 1 v y.length (natVals y)
theorem FrM.itr {w : World} {b1 C Z n : Nat} {a : Option Addr} {cap : Nat} {g : Nat → Nat} (h1 : b1 < Z) (hC : C < Z) (hw : w.heap.size ≤ Z) {B : Nat} {s : List (Nat × List Nat)} {A A' : World} (hr : Row w a n (fun k => (g k : Nat))) (h : FrM w b1 C Z n a cap g B s A) (hi : Itr Z B A A') : FrM w b1 C Z n a cap g B s A' := by
  have hc : ∀ (p : Addr) v, p.block < Z → A.cell? p = some v → A'.cell? p = some v := fun p v hp hv => (hi.1.cell hp).trans hv
  have hf : ∀ (p : Addr), p.block < Z → A'.frozen? p = A.frozen? p := fun p hp => hi.1.frozen hp
  have hbel : Below w.heap.size w A' := h.bel.trans (hi.1.mono hw)
  obtain ⟨z, vs, ⟨k1, k2⟩, k3, k4, k5⟩ := h.vals
  refine ⟨⟨hc _ _ h1 h.held.c0, hc _ _ h1 h.held.c1, hr.below hbel⟩, hbel, ⟨Nat.le_trans h.siz.1 hi.2.size, h.siz.2⟩, z, vs, ⟨hc _ _ hC k1, (hf _ hC).trans k2⟩, k3, hi.2.owns k4 (fun k _ e hk => k3 (by rw [e, hk])), fun k y hy => ?_⟩
  obtain ⟨v, q1, q2, q3⟩ := k5 k y hy
  exact ⟨v, q1, q2, hi.2.owns q3 (fun k _ e hk => q2 (by rw [e, hk]))⟩
/-- A round that lays nothing down. -/
theorem FrM.keep {w : World} {b1 C Z n : Nat} {a : Option Addr} {cap : Nat} {g : Nat → Nat} {B : Nat} {pre : List (Nat × List Nat)} {W W' : World} {x : List Nat} (hb : Below W.heap.size W W') (h : FrM w b1 C Z n a cap g B pre W) (hx : isMv g n x = false) : FrM w b1 C Z n a cap g B (pre ++ [(B, x)]) W' := by
  obtain ⟨z, vs, ⟨k1, k2⟩, k3, k4, k5⟩ := h.vals
  have e : mvL g n ((pre ++ [(B, x)]).map Prod.snd) = mvL g n (pre.map Prod.snd) := by
    rw [List.map_append]
    exact (mvL_snoc g n _ x).trans (by rw [hx]; simp)
  have l1 := World.block_lt_of_cell? _ _ k1
  refine ⟨h.held.step hb, Below.then h.bel hb, ⟨Nat.le_trans h.siz.1 hb.size, h.siz.2⟩, z, vs, ⟨(hb.cell l1).trans k1, (hb.frozen l1).trans k2⟩, k3, ?_, fun k y hy => ?_⟩
  · rw [e]; exact owns_below k4 hb
  · rw [e] at hy
    obtain ⟨v, q1, q2, q3⟩ := k5 k y hy
    exact ⟨v, q1, q2, owns_below q3 hb⟩
theorem mvL_len (g : Nat → Nat) (n : Nat) (l : List (Nat × List Nat)) : (mvL g n (l.map Prod.snd)).length ≤ l.length := by
  unfold mvL
  exact Nat.le_trans (List.length_filter_le _ _) (by simp)
theorem per_bound {n : Nat} (h : n ≤ 6) : (per n [] (pw n - 1)).length ≤ 1000 := by
  have hc : (List.range 7).all (fun n => decide ((per n [] (pw n - 1)).length ≤ 1000)) = true := by decide +kernel
  exact of_decide_eq_true (List.all_eq_true.1 hc n (List.mem_range.2 (by omega)))
theorem info_row : ∃ i0, Tryd.prog.info? 22 = some i0 ∧ i0.zero = some (.slice none 0 0) ∧ i0.size = 1 ∧ i0.bytes = 24 := by
  have h : (Tryd.prog.info? 22).map (fun i => (i.zero, i.size, i.bytes)) = some (some (.slice none 0 0), 1, 24) := by kernel_rfl
  obtain ⟨i, hi, hz⟩ := Option.map_eq_some_iff.1 h
  simp only [Prod.mk.injEq] at hz
  exact ⟨i, hi, hz.1, hz.2.1, hz.2.2⟩
/-- A list more. -/
theorem wp_list {o : Oper} {a : Act} {K : Act → World → Prop} {Q : Exit → Act → World → Prop} (w : World) (s x : Operand)
    (ho : o.op = .call { callee := .builtin .append, args := #[s, x], argTypes := #[40, 40] }) (base : Nat) (v : Value) (n : Nat) (xs : List Value) (hs : a.eval s = v) (hown : w.ownsRow base 22 1 v n xs)
    (b : Nat) (p : Value) (hx : a.eval x = .slice (some ⟨b, 0, none⟩) 1 1) (hc0 : w.cell? ⟨b, 0, none⟩ = some p) (hp : p.oneCell' = true) (hlen : n ≤ 1000) (hbase : base ≤ w.heap.size)
    (h : ∀ v' w', w'.ownsRow base 22 1 v' (n + 1) (xs ++ [p]) → w.grownBy w' v.ownBlock → K (a.put o.dst v') w') : o.wp Tryd.prog a w K Q := by
  obtain ⟨i0, hi, hz0, hz1, hz2⟩ := info_row
  refine wp_append_own (P := Tryd.prog) (w := w) s x 40 ho base 22 i0 _ 1 24 Tryd.underlying40 hi hz0 hz1 hz2 rfl (by decide) v n xs hs hown ⟨b, 0, none⟩ 1 1 [p] hx rfl ?_ ?_ (by unfold maxLen; omega) (by omega) hbase (fun v' w' h1 h2 _ => h v' w' h1 h2)
  · intro j u hj
    match j, hj with
    | 0, hj => simp at hj; subst hj; simpa [Addr.add] using hc0
  · intro u hu
    simp at hu
    subst hu
    exact hp
theorem mv_c {W W' : World} {C Z k : Nat} {v : Value} {xs : List Value} (h : W.cell? ⟨C, 0, none⟩ = some v) (h2 : W.frozen? ⟨C, 0, none⟩ = false) (ho : W.ownsRow Z 22 1 v k xs) (hg : W.grownBy W' v.ownBlock) (hC : C < Z) : W'.cell? ⟨C, 0, none⟩ = some v ∧ W'.frozen? ⟨C, 0, none⟩ = false := by
  have hb : W'.heap[C]? = W.heap[C]? := hg.block _ (World.block_lt_of_cell? _ _ h) fun e => by
    have := owns_block ho C e.symm; omega
  refine ⟨by rw [← h]; exact World.cell?_of_block (w := W) hb, ?_⟩
  rw [← h2]
  unfold World.frozen?
  rw [hb]
/-- A round's end, where a list is laid down. -/
theorem mv_end {w W w7 w8 : World} {b1 C Z n : Nat} {a : Option Addr} {cap : Nat} {g : Nat → Nat} {B : Nat} {pre : List (Nat × List Nat)} {x : List Nat} {z v8 v : Value} {vs : List Value} (hI : FrM w b1 C Z n a cap g B pre W) (hr : Row w a n (fun k => (g k : Nat))) (h1 : b1 < C) (hC : C < Z) (hwC : w.heap.size ≤ C) (h7 : Below W.heap.size W w7)
    (hz : W.ownsRow Z 22 1 z (mvL g n (pre.map Prod.snd)).length vs) (hz5 : ∀ (k : Nat) y, (mvL g n (pre.map Prod.snd))[k]? = some y → ∃ v, vs[k]? = some v ∧ v.ownBlock ≠ some B ∧ W.ownsRow Z 3 1 v y.length (natVals y)) (hzB : z.ownBlock ≠ some B)
    (hv : w7.ownsRow W.heap.size 3 1 v n (natVals x)) (hxl : x.length = n) (h8 : w8.ownsRow Z 22 1 v8 ((mvL g n (pre.map Prod.snd)).length + 1) (vs ++ [v])) (hg : w7.grownBy w8 z.ownBlock) (c80 : w8.cell? ⟨C, 0, none⟩ = some z) (c81 : w8.frozen? ⟨C, 0, none⟩ = false) (hm : isMv g n x = true)
    (hX : W.ownsRow Z 3 1 (.slice (some ⟨B, 0, none⟩) n n) n (natVals x)) : KeepsFrom Z W (w8.setCell ⟨C, 0, none⟩ v8) ∧ OthU Z (fun k => k = C) W (w8.setCell ⟨C, 0, none⟩ v8) ∧ FrM w b1 C Z n a cap g B (pre ++ [(B, x)]) (w8.setCell ⟨C, 0, none⟩ v8) := by
  have hZW := hI.siz.1
  have hblk : ∀ k, z.ownBlock = some k → Z ≤ k ∧ k < W.heap.size := fun k e => hz.lt k e
  have hzc : ∀ k o, z.ownBlock = some k → W.heap[k]? = some o → ∃ c fr, o = .cells c 22 fr := fun k o e ho => by
    rcases hz.2 with ⟨rfl, _⟩ | ⟨g', c', cur, rfl, _, hgg, _⟩
    · cases e
    · simp only [Value.ownBlock, Option.some.injEq] at e
      subst e
      rw [hgg] at ho; cases ho
      exact ⟨_, _, rfl⟩
  have hBw : B < W.heap.size := (hX.lt B rfl).2
  have hsz : W.heap.size ≤ w8.heap.size := Nat.le_trans h7.size hg.size
  have far : ∀ {k : Nat}, k ≠ C → (w8.setCell ⟨C, 0, none⟩ v8).heap[k]? = w8.heap[k]? := fun h => Below.heap_setCell _ _ _ _ h
  have old : ∀ {k : Nat}, k < W.heap.size → some k ≠ z.ownBlock → k ≠ C → (w8.setCell ⟨C, 0, none⟩ v8).heap[k]? = W.heap[k]? := fun {k} hk hne hkc => by
    rw [far hkc, hg.block k (Nat.lt_of_lt_of_le hk h7.size) hne]
    exact h7.block k hk
  have low : ∀ {k : Nat}, k < Z → k ≠ C → (w8.setCell ⟨C, 0, none⟩ v8).heap[k]? = W.heap[k]? := fun {k} hk hkc => old (by omega) (fun e => by have := (hblk k e.symm).1; omega) hkc
  -- rows of numbers
  have lift : ∀ {base m : Nat} {y : Value} {ys : List Value}, Z ≤ base → w7.ownsRow base 3 1 y m ys → (w8.setCell ⟨C, 0, none⟩ v8).ownsRow base 3 1 y m ys := fun {base m y ys} hb h => by
    refine ⟨h.1, h.2.imp id fun ⟨q, cap', cur, e1, e2, e3, e4⟩ => ⟨q, cap', cur, e1, e2, ?_, e4⟩⟩
    have hq := (Array.getElem?_eq_some_iff.1 e3).1
    rw [far (by omega), hg.block q hq (fun e => by
      have hq2 := hblk q e.symm
      have e5 := (h7.block q hq2.2).symm.trans e3
      obtain ⟨c, fr, e6⟩ := hzc q _ e.symm e5
      cases e6)]
    exact e3
  have em : mvL g n ((pre ++ [(B, x)]).map Prod.snd) = mvL g n (pre.map Prod.snd) ++ [x] := by
    rw [List.map_append]
    exact (mvL_snoc g n _ x).trans (by rw [hm]; rfl)
  have hbel : Below w.heap.size w (w8.setCell ⟨C, 0, none⟩ v8) := ((Below.then hI.bel h7).grown hg (Below.then hI.bel h7).size (fun k e => by have := (hblk k e).1; omega)).setCell (p := ⟨C, 0, none⟩) hwC _
  refine ⟨⟨by simpa using hsz, fun k o hB hk ho => ?_⟩, ⟨by simpa using hsz, fun k c t fr hkc ht hk => ?_⟩, ⟨⟨?_, ?_, hr.below hbel⟩, hbel, ⟨by simpa using Nat.le_trans hZW hsz, hI.siz.2⟩, v8, vs ++ [v], ⟨World.cell?_setCell_same _ _ _ c80, by rw [World.frozen?_setCell]; exact c81⟩, fun e => ?_, ?_, fun k y hy => ?_⟩⟩
  · have hlt : k < W.heap.size := (Array.getElem?_eq_some_iff.1 hk).1
    rw [old hlt (fun e => by
      obtain ⟨c, fr, rfl⟩ := hzc k o e.symm hk
      cases ho) (by omega)]
    exact hk
  · have hlt : k < W.heap.size := (Array.getElem?_eq_some_iff.1 hk).1
    rw [old hlt (fun e => by
      obtain ⟨c', fr', e6⟩ := hzc k _ e.symm hk
      have := (hblk k e.symm).1
      rcases ht with ht | ht
      · omega
      · cases e6; exact ht rfl) hkc]
    exact hk
  · rw [← hI.held.c0]
    exact World.cell?_of_block (w := W) (low (by show b1 < Z; omega) (by show b1 ≠ C; omega))
  · rw [← hI.held.c1]
    exact World.cell?_of_block (w := W) (low (by show b1 < Z; omega) (by show b1 ≠ C; omega))
  · rcases h8.2 with ⟨rfl, _⟩ | ⟨q, cap', cur, rfl, e2, e3, _⟩
    · cases e
    · simp only [Value.ownBlock, Option.some.injEq] at e
      subst e
      have e4 : w8.heap[q]? = W.heap[q]? := (hg.block q (Nat.lt_of_lt_of_le hBw h7.size) (fun e => hzB e.symm)).trans (h7.block q hBw)
      rw [e3] at e4
      rcases hX.2 with ⟨e5, _⟩ | ⟨q', cap2, cur2, e5, _, e6, _⟩
      · cases e5
      · simp only [Value.slice.injEq, Option.some.injEq, Addr.mk.injEq] at e5
        obtain ⟨⟨rfl, _⟩, _⟩ := e5
        rw [e6] at e4
        cases e4
  · rw [em, List.length_append]
    refine ⟨h8.1, h8.2.imp id fun ⟨q, cap', cur, e1, e2, e3, e4⟩ => ⟨q, cap', cur, e1, e2, ?_, e4⟩⟩
    rw [far (by omega)]
    exact e3
  · rw [em] at hy
    have hvl : vs.length = (mvL g n (pre.map Prod.snd)).length := by have := hz.1; omega
    rcases Nat.lt_or_ge k (mvL g n (pre.map Prod.snd)).length with hk | hk
    · rw [List.getElem?_append_left hk] at hy
      obtain ⟨u, q1, q2, q3⟩ := hz5 k y hy
      exact ⟨u, by rw [List.getElem?_append_left (by omega)]; exact q1, q2, lift (Nat.le_refl _) (owns_below q3 h7)⟩
    · rw [List.getElem?_append_right hk] at hy
      obtain ⟨h5, rfl⟩ := List.getElem?_eq_some_iff.1 hy
      have ek : k = (mvL g n (pre.map Prod.snd)).length := by simp at h5; omega
      subst ek
      simp only [Nat.sub_self, List.getElem_cons_zero]
      refine ⟨v, by rw [List.getElem?_append_right (by omega), hvl, Nat.sub_self]; rfl, fun e => ?_, ?_⟩
      · have := (hv.lt B e).1; omega
      · rw [hxl]; exact owns_mono (lift hZW hv) hZW
def MPost (K : Nat) (n : Int) (len : Nat) (f : Nat → Int) (e : Ending) (w' : World) : Prop :=
  ∃ c, FCk n len f c ∧ ((c ≠ 0 ∧ e = .returned (.tuple #[.slice none 0 0, .int .i64 c])) ∨ (c = 0 ∧ ∃ z, e = .returned (.tuple #[z, .int .i64 0]) ∧ MLst w' K z (mvL (nat f) len (per len [] (pw len - 1)))))
set_option maxHeartbeats 4000000 in
theorem moves_any (n : Int) (a : Option Addr) (len cap : Nat) (f : Nat → Int) (w : World) (hl : len ≤ maxLen) (hr : Row w a len f) (hT : Tab w) :
    Calls Tryd.prog 19 #[.agg #[.int .i64 n, .slice a len cap]] w fun e w' => MPost w.heap.size n len f e w' ∧ Below w.heap.size w w' := by
  have HR : Hid (Row w a len f) := hr
  have HT : Hid (Tab w) := hT
  obtain ⟨X1, hX1⟩ : ∃ X1, X1 = w.alloc (.cells #[.int .i64 n, .slice a len cap] 24) := ⟨_, rfl⟩
  obtain ⟨X2, HX2⟩ : ∃ X2, Hid (X2 = X1.alloc (.cells #[.int .i64 n, .slice a len cap] 24)) := ⟨_, rfl⟩
  have s1 : X1.heap.size = w.heap.size + 1 := by rw [hX1]; simp
  have b1 : Below w.heap.size w X1 := by rw [hX1]; exact (Below.refl _ _).alloc (Nat.le_refl _) _
  have b2 : Below X1.heap.size X1 X2 := by rw [HX2.out]; exact (Below.refl _ _).alloc (Nat.le_refl _) _
  have hH : Held X2 w.heap.size n a len cap f := by
    have h : Held X1 w.heap.size n a len cap f := by rw [hX1]; exact Held.box hr
    exact h.step b2
  have e0 : X2.cell? ⟨w.heap.size + 1, 0, none⟩ = some (.int .i64 n) := by rw [HX2.out, ← s1]; simp
  have e1 : X2.cell? ⟨w.heap.size + 1, 1, none⟩ = some (.slice a len cap) := by rw [HX2.out, ← s1]; simp
  have HB2 : Hid (Below w.heap.size w X2) := Below.then b1 b2
  have HX1 : Hid (X1 = w.alloc (.cells #[.int .i64 n, .slice a len cap] 24)) := hX1
  have HS1 : Hid (X1.heap.size = w.heap.size + 1) := s1
  have HE : Hid (X2.cell? ⟨w.heap.size + 1, 0, none⟩ = some (.int .i64 n) ∧ X2.cell? ⟨w.heap.size + 1, 1, none⟩ = some (.slice a len cap)) := ⟨e0, e1⟩
  have HH2 : Hid (∀ w', Below X2.heap.size X2 w' → Held w' w.heap.size n a len cap f) := fun w' hb => hH.step hb
  have x0 : X1.cell? ⟨w.heap.size, 0, none⟩ = some (.int .i64 n) := by rw [hX1]; exact (Held.box hr).c0
  have x1 : X1.cell? ⟨w.heap.size, 1, none⟩ = some (.slice a len cap) := by rw [hX1]; exact (Held.box hr).c1
  have hsz2 : w.heap.size + 2 = X2.heap.size := by rw [HX2.out]; simp [s1]
  have HSZ2 : Hid (w.heap.size + 2 = X2.heap.size) := hsz2
  clear hX1 s1 b1 b2 hH e0 e1 hr hT hsz2
  refine (callsIn_wide (n := 3)).1 ?_
  refine callsIn_of_wp_marks Tryd.func19 rfl trivial ?_ rfl
  simp only [Tryd.ntmps19, List.size_toArray, List.length_cons, List.length_nil, Nat.reduceAdd, Nat.reduceSub, Array.replicate_succ, Array.replicate_zero, List.push_toArray, List.append_toArray, List.nil_append, List.cons_append]
  gi_wp2
  rw [← HX1.out, ← HX2.out]
  refine ⟨trivial, (callsIn_wide.2 (check1_any n a len cap f (w.heap.size + 1) X2 hl (HR.out.below HB2.out) HE.out.1 HE.out.2)).mono ?_⟩
  rintro e w1 ⟨⟨c, rfl, hc⟩, hb1⟩
  have HB1 : Hid (Below w.heap.size w w1) := Below.then HB2.out hb1
  have HC : Hid (FCk n len f c) := hc
  have hH1 := HH2.out _ hb1
  have hs1 : w.heap.size + 2 ≤ w1.heap.size := by rw [HSZ2.out]; exact hb1.size
  have HH1 : Hid (Held w1 w.heap.size n a len cap f) := hH1
  clear hb1 hc HE HH2 x0 x1 HX1 HX2 HS1 HSZ2 HB2
  have c0 := hH1.c0
  have c1 := hH1.c1
  clear hH1
  by_cases e0 : c = 0
  · subst e0
    obtain ⟨rfl, h6, hck⟩ := HC.out.good
    obtain ⟨_, h10, hrng, hord⟩ := hck.good
    have HG : Hid (∀ k, k < len → nat f k < 1024) := hrng.small2 h10
    have HRW : Hid (Row w a len (fun k => (nat f k : Nat))) := hrng.row HR.out
    have hHg : Held w1 w.heap.size len a len cap (fun k => (nat f k : Nat)) := ⟨c0, c1, HRW.out.below HB1.out⟩
    obtain ⟨w2, HW2⟩ : ∃ w2, Hid (w2 = w1.alloc (.cells #[.slice none 0 0] 40)) := ⟨_, rfl⟩
    have hb2 : Below w1.heap.size w1 w2 := by rw [HW2.out]; exact (Below.refl _ _).alloc (Nat.le_refl _) _
    have d0 : w2.cell? ⟨w1.heap.size, 0, none⟩ = some (.slice none 0 0) := by rw [HW2.out]; simp
    have d1 : w2.frozen? ⟨w1.heap.size, 0, none⟩ = false := by rw [HW2.out]; exact World.frozen?_alloc_at _ _ _ _ (by simp)
    have hs2 : w2.heap.size = w1.heap.size + 1 := by rw [HW2.out]; simp
    have k0 : (w1.alloc (.cells #[.slice none 0 0] 40)).cell? ⟨w.heap.size, 0, none⟩ = some (.int .i64 (len : Nat)) := by rw [← HW2.out]; exact (hb2.cell (World.block_lt_of_cell? _ _ c0)).trans c0
    clear hck hrng hord c0 c1
    gi_wp2
    rw [← HW2.out]
    refine ⟨trivial, (callsIn_wide.2 (lists_any (len : Nat) w2)).mono ?_⟩
    rintro e w3 ⟨rfl, hw3⟩
    have hb3 : Below w2.heap.size w2 w3 := by rw [hw3]; exact (Below.refl _ _).alloc (Nat.le_refl _) _
    have m0 : w3.cell? ⟨w2.heap.size, 0, none⟩ = some (.int .i64 (len : Nat)) := by rw [hw3]; simp
    have hs3 : w3.heap.size = w1.heap.size + 2 := by rw [hw3]; simp [hs2]
    have hww : Below w.heap.size w w3 := Below.then HB1.out (Below.then hb2 hb3)
    have ht1 : 1 < w.heap.size := World.block_lt_of_cell? _ _ (HT.out 0 (by decide))
    have HSEQ := (show Hid _ from lists_u (3 - 1) len w2.heap.size (fun k => k = w1.heap.size) w3 h10 (HT.out.step hww) (by intro h; omega) (by intro k h; omega) m0)
    have HI0 : Hid (∀ B, w3.heap.size ≤ B → FrM w w.heap.size w1.heap.size w3.heap.size len a cap (nat f) B [] w3) := fun B hB =>
      ⟨(hHg.step hb2).step hb3, hww, ⟨Nat.le_refl _, hB⟩, _, [], ⟨(hb3.cell (World.block_lt_of_cell? _ _ d0)).trans d0, (hb3.frozen (World.block_lt_of_cell? _ _ d0)).trans d1⟩, (fun e => by cases e), World.ownsRow_nil _ _ _ _, fun k y hk => by simp [mvL] at hk⟩
    have HSZ : Hid (w3.heap.size = w1.heap.size + 2 ∧ w.heap.size + 2 ≤ w1.heap.size) := ⟨hs3, hs1⟩
    clear hw3 hb2 hb3 hs2 hs3 m0 hHg d0 d1 k0 HW2 hww ht1 hs1 HH1
    gi_wp2
    try simp only [Nat.add_assoc, Nat.reduceAdd]
    refine range_x (n := 3) rfl (by omega) (gf := 44) (lb := #[.pointer (some ⟨w2.heap.size, 0, none⟩)]) rfl trivial (fun _ _ => rfl) HSEQ.out (fun h k => h.trans k) (OthU.loop _ _) (Below.refl _ _) VL.loop
      (FrM w w.heap.size w1.heap.size w3.heap.size len a cap (nat f)) ?hI HI0.out ?a1 ?hassign ?hbody ?hdone
    case hI =>
      intro B s A A' h hi
      exact h.itr (by have := HSZ.out; omega) (by have := HSZ.out; omega) (by have := HSZ.out; omega) HRW.out hi
    case hassign =>
      intro l x W' K hK
      gi_wp2
      exact hK
    case hbody =>
      rintro l B pre ⟨xb, x⟩ W hI hv hlen
      obtain ⟨hxb, hKB, hown, hmem⟩ := hv
      have hxb' : B = xb := hxb.symm
      subst hxb'
      clear hxb
      obtain ⟨hxl, hxn, _⟩ := per_good h10 hmem
      have HOX : Hid (W.ownsRow w3.heap.size 3 1 (.slice (some ⟨B, 0, none⟩) len len) len (natVals x)) := hown
      have HRX : Hid (∀ w', Below W.heap.size W w' → Row w' (some ⟨B, 0, none⟩) len (fun k => (nth x k : Nat))) := fun w' hb => Row.below (fun i hi' => ⟨B, 0, rfl, by
        rw [Nat.zero_add, HOX.out.cellAt i (by omega)]; exact natVals_at _ _ (by have : x.length = len := hxl; omega)⟩) hb
      have HBW : Hid (B < W.heap.size) := (HOX.out.lt B rfl).2
      have HI : Hid (FrM w w.heap.size w1.heap.size w3.heap.size len a cap (nat f) B pre W) := hI
      have HXL : Hid (x.length = len) := hxl
      have HXN : Hid (∀ k, k < len → nth x k < len) := hxn
      have HPL : Hid (pre.length < (per len [] (pw len - 1)).length) := hlen
      have HRA : Hid (∀ w', Below W.heap.size W w' → Row w' a len (fun k => (nat f k : Nat))) := fun w' hb => HI.out.held.row.below hb
      have HPB : Hid ((per len [] (pw len - 1)).length ≤ 1000) := per_bound h6
      obtain ⟨z, vs, ⟨k1, k2⟩, k3, k4, k5⟩ := hI.vals
      have HBX : Hid (w3.heap.size ≤ B) := hI.siz.2
      have d0 : ∀ w', Below W.heap.size W w' → w'.cell? ⟨w1.heap.size, 0, none⟩ = some z := fun w' hb => (hb.cell (World.block_lt_of_cell? _ _ k1)).trans k1
      have D1 : Hid (∀ w', Below W.heap.size W w' → w'.frozen? ⟨w1.heap.size, 0, none⟩ = false) := fun w' hb => (hb.frozen (World.block_lt_of_cell? _ _ k1)).trans k2
      have HZ3 : Hid (z.ownBlock ≠ some B) := k3
      have HZ4 : Hid (W.ownsRow w3.heap.size 22 1 z (mvL (nat f) len (pre.map Prod.snd)).length vs) := k4
      have HZ5 : Hid (∀ (k : Nat) y, (mvL (nat f) len (pre.map Prod.snd))[k]? = some y → ∃ v, vs[k]? = some v ∧ v.ownBlock ≠ some B ∧ W.ownsRow w3.heap.size 3 1 v y.length (natVals y)) := k5
      have d1 : ∀ w', Below W.heap.size W w' → w'.cell? ⟨w.heap.size, 0, none⟩ = some (.int .i64 (len : Nat)) := fun w' hb => (hb.cell (World.block_lt_of_cell? _ _ HI.out.held.c0)).trans HI.out.held.c0
      have d2 : ∀ w', Below W.heap.size W w' → w'.cell? ⟨w.heap.size, 1, none⟩ = some (.slice a len cap) := fun w' hb => (hb.cell (World.block_lt_of_cell? _ _ HI.out.held.c1)).trans HI.out.held.c1
      clear hI hown hmem hxl hxn hlen hKB k1 k2 k3 k4 k5
      refine wpIn_block ?_
      show Code.wpIn (Fence.wide.inRound l) 1 Tryd.prog _ _ _ _
      gi_wp2
      simp only [encL]
      refine round_lates (no_defer (by kernel_rfl)) (fun ⟨_, _, h⟩ => h) (S := (fun w' => Below W.heap.size W w')) (late := (fun _ => false)) (by kernel_rfl) ?_
      have HS : Hid (Below W.heap.size W W.drew) := (Below.refl _ _).drew
      refine lates_take (i := 0) (oi := { dst := some 17, op := Go.Op.load 24 (Go.Operand.tmp 1), type := 24, pos := "canon.go:40", after := #[], guard := none }) (v := ?_) rfl (by kernel_rfl) (by kernel_rfl) (by kernel_rfl) ⟨rfl, by kernel_rfl⟩ (fun _ _ _ h => h) (Or.inl ⟨by rfl, ?hy⟩) HS.out ?_
      case hy => (intro w9 hSw; (have e1 := d1 _ hSw); (have e2 := d2 _ hSw); go_simp; try with_reducible rfl)
      try simp only [Act.put, List.setIfInBounds_toArray, List.set_cons_zero, List.set_cons_succ]
      refine lates_take (i := 1) (oi := { dst := some 18, op := Go.Op.move (Go.Operand.tmp 6), type := 22, pos := "canon.go:40", after := #[], guard := none }) (v := ?_) rfl (by kernel_rfl) (by kernel_rfl) (by kernel_rfl) ⟨rfl, by kernel_rfl⟩ (fun _ _ _ h => h) (Or.inl ⟨by rfl, ?hy⟩) HS.out ?_
      case hy => (intro w9 hSw; (have e1 := d1 _ hSw); (have e2 := d2 _ hSw); go_simp; try with_reducible rfl)
      try simp only [Act.put, List.setIfInBounds_toArray, List.set_cons_zero, List.set_cons_succ]
      refine lates_take (i := 3) (oi := { dst := some 20, op := Go.Op.fieldAddr 24 (Go.Operand.tmp 1) 1, type := 0, pos := "canon.go:40", after := #[], guard := none }) (v := ?_) rfl (by kernel_rfl) (by kernel_rfl) (by kernel_rfl) ⟨rfl, by kernel_rfl⟩ (fun _ _ _ h => h) (Or.inl ⟨by rfl, ?hy⟩) HS.out ?_
      case hy => (intro w9 hSw; (have e1 := d1 _ hSw); (have e2 := d2 _ hSw); go_simp; try with_reducible rfl)
      try simp only [Act.put, List.setIfInBounds_toArray, List.set_cons_zero, List.set_cons_succ]
      refine lates_take (i := 4) (oi := { dst := some 21, op := Go.Op.load 22 (Go.Operand.tmp 20), type := 22, pos := "canon.go:40", after := #[{ on := 3, ground := Go.Ground.data }], guard := none }) (v := ?_) rfl (by kernel_rfl) (by kernel_rfl) (by kernel_rfl) ⟨rfl, by kernel_rfl⟩ (fun _ _ _ h => h) (Or.inl ⟨by rfl, ?hy⟩) HS.out ?_
      case hy => (intro w9 hSw; (have e1 := d1 _ hSw); (have e2 := d2 _ hSw); go_simp; try with_reducible rfl)
      try simp only [Act.put, List.setIfInBounds_toArray, List.set_cons_zero, List.set_cons_succ]
      refine lates_ready (rs := [2]) (by kernel_rfl) (by simp) ?_
      refine AllLate.cons (o := { dst := some 19, op := Go.Op.call { callee := Go.Callee.value (Go.Operand.func 34), args := #[Go.Operand.tmp 17, Go.Operand.tmp 18], argTypes := #[24, 22] }, type := 22, pos := "canon.go:40", after := #[{ on := 0, ground := Go.Ground.data }, { on := 1, ground := Go.Ground.data }], guard := none }) rfl (fun K hK => ?_) ?_
      · go_simp
        refine (renumbered_any len a cap (nat f) (some ⟨B, 0, none⟩) len x _ h10 HG.out HXL.out HXN.out (HRA.out _ HS.out) (HRX.out _ HS.out)).mono ?_
        rintro e w4 ⟨⟨bl, rfl, hO, hbl1, hbl2⟩, hb4⟩
        have HS4 : Hid (Below W.heap.size W w4) := Below.then HS.out hb4
        have HO4 : Hid (Own w4 bl len (prt (nat f) x)) := hO
        clear hO hbl1 hbl2 hb4
        refine hK.out _ _ (fun _ => ?_) ?_
        · exact HS4.out
        have HS := HS4
        clear hK K
        try simp only [Act.put, List.setIfInBounds_toArray, List.set_cons_zero, List.set_cons_succ]
        refine lates_ready (rs := [5]) (by kernel_rfl) (by simp) ?_
        refine AllLate.cons (o := { dst := some 22, op := Go.Op.call { callee := Go.Callee.value (Go.Operand.func 32), args := #[Go.Operand.tmp 19, Go.Operand.tmp 21], argTypes := #[22, 22] }, type := 4, pos := "canon.go:40", after := #[{ on := 2, ground := Go.Ground.data }, { on := 4, ground := Go.Ground.data }, { on := 2, ground := Go.Ground.chain }], guard := none }) rfl (fun K hK => ?_) ?_
        · go_simp
          refine (equal_any (some ⟨bl, 0, none⟩) a len len len cap (fun k => (prt (nat f) x k : Nat)) (fun k => (nat f k : Nat)) _ hl hl (Own.row HO4.out) (HRA.out _ HS.out)).mono ?_
          rintro e w5 ⟨⟨b, rfl, hbi⟩, hb5⟩
          have HS5 : Hid (Below W.heap.size W w5) := Below.then HS.out hb5
          have HBI : Hid (b = true ↔ SameRows len len (fun k => (prt (nat f) x k : Nat)) (fun k => (nat f k : Nat))) := hbi
          clear hbi hb5
          refine hK.out _ _ (fun _ => ?_) ?_
          · exact HS5.out
          have HS := HS5
          clear hK K
          try simp only [Act.put, List.setIfInBounds_toArray, List.set_cons_zero, List.set_cons_succ]
          refine lates_done (by kernel_rfl) ?_ _
          try simp only [Act.put, List.setIfInBounds_toArray, List.set_cons_zero, List.set_cons_succ]
          clear d1 d2
          cases b with
          | false =>
            have HM : Hid (isMv (nat f) len x = false) := by
              show _ = _
              cases h : isMv (nat f) len x with
              | false => rfl
              | true => exact absurd (HBI.out.2 (isMv_iff.1 h)) (by simp)
            gi_wp2
            exact ⟨(keeps_below HS5.out).from _, OthU.below _ _ HS5.out, HI.out.keep HS5.out HM.out⟩
          | true =>
            have HM : Hid (isMv (nat f) len x = true) := isMv_iff.2 (HBI.out.1 rfl)
            gi_wp2
            refine round_lates (no_defer (by kernel_rfl)) (fun ⟨_, _, h⟩ => h) (S := (fun w' => Below W.heap.size W w')) (late := (fun i => i == 4 || i == 5)) (by kernel_rfl) ?_
            have HS : Hid (Below W.heap.size W w5.drew) := HS5.out.drew
            refine lates_take (i := 0) (oi := { dst := some 23, op := Go.Op.load 40 (Go.Operand.tmp 5), type := 40, pos := "canon.go:41", after := #[], guard := none }) (v := ?_) rfl (by kernel_rfl) (by kernel_rfl) (by kernel_rfl) ⟨rfl, by kernel_rfl⟩ (fun _ _ _ h => h) (Or.inl ⟨by rfl, ?hy⟩) HS.out ?_
            case hy => (intro w9 hSw; (have e0 := d0 _ hSw); go_simp; try with_reducible rfl)
            try simp only [Act.put, List.setIfInBounds_toArray, List.set_cons_zero, List.set_cons_succ]
            refine lates_takeM [2, 3] (i := 1) (oi := { dst := some 24, op := Go.Op.move (Go.Operand.tmp 6), type := 22, pos := "canon.go:41", after := #[], guard := none }) (v := ?_) rfl (by kernel_rfl) (by kernel_rfl) (by kernel_rfl) (by kernel_rfl) (by kernel_rfl) (fun _ _ _ h => h) (Or.inl ⟨by rfl, ?hy⟩) HS.out ?_
            case hy => (intro w9 hSw; (have e0 := d0 _ hSw); go_simp; try with_reducible rfl)
            try simp only [Act.put, List.setIfInBounds_toArray, List.set_cons_zero, List.set_cons_succ]
            refine lates_ready (rs := [2]) (by kernel_rfl) (by simp) ?_
            refine AllLate.cons (o := { dst := some 25, op := Go.Op.call { callee := Go.Callee.value (Go.Operand.func 35), args := #[Go.Operand.tmp 24], argTypes := #[22] }, type := 22, pos := "canon.go:41", after := #[{ on := 1, ground := Go.Ground.data }], guard := none }) rfl (fun K hK => ?_) ?_
            · go_simp
              refine (clone_any len (some ⟨B, 0, none⟩) len (nth x) _ h10 (HRX.out _ HS.out)).mono ?_
              rintro e w6 ⟨⟨v, rfl, hv6⟩, hb6⟩
              have HS6 : Hid (Below W.heap.size W w6) := Below.then HS.out hb6
              have HV6 : Hid (w6.ownsRow W.heap.size 3 1 v len (natVals x)) := by
                rw [← HXL.out, rowVals_nat, HXL.out] at hv6
                exact owns_mono hv6 HS.out.size
              obtain ⟨va, vn, vc, rfl⟩ : ∃ va vn vc, v = .slice va vn vc := by
                rcases hv6.2 with ⟨q0, _⟩ | ⟨q, cap', cur, q1, _⟩
                · exact ⟨_, _, _, q0⟩
                · exact ⟨_, _, _, q1⟩
              clear hv6 hb6
              refine hK.out _ _ (fun _ => ?_) ?_
              · exact HS6.out
              have HS := HS6
              clear hK K
              try simp only [Act.put, List.setIfInBounds_toArray, List.set_cons_zero, List.set_cons_succ]
              refine lates_ready (rs := [3]) (by kernel_rfl) (by simp) ?_
              refine AllLate.cons (o := { dst := some 26, op := Go.Op.buildSlice 40 1 #[(0, Go.Operand.tmp 25)], type := 40, pos := "canon.go:41", after := #[{ on := 2, ground := Go.Ground.data }], guard := none }) rfl (fun K hK => ?_) ?_
              · go_simp
                obtain ⟨w7, HW7⟩ : ∃ w7, Hid (w7 = w6.alloc (.cells #[.slice va vn vc] 22)) := ⟨_, rfl⟩
                have HS7 : Hid (Below W.heap.size W w7) := by rw [HW7.out]; exact HS.out.alloc HS.out.size _
                have C70 : Hid (w7.cell? ⟨w6.heap.size, 0, none⟩ = some (.slice va vn vc)) := by show _ = _; rw [HW7.out]; simp
                have HV7 : Hid (w7.ownsRow W.heap.size 3 1 (.slice va vn vc) len (natVals x)) := by rw [HW7.out]; exact HV6.out.alloc _
                rw [← HW7.out]
                refine hK.out _ _ (fun _ => ?_) ?_
                · exact HS7.out
                have HS := HS7
                clear hK K
                try simp only [Act.put, List.setIfInBounds_toArray, List.set_cons_zero, List.set_cons_succ]
                refine lates_ready (rs := [4]) (by kernel_rfl) (by simp) ?_
                refine AllLate.cons (o := { dst := some 27, op := Go.Op.call { callee := Go.Callee.builtin Go.Builtin.append, args := #[Go.Operand.tmp 23, Go.Operand.tmp 26], argTypes := #[40, 40] }, type := 40, pos := "canon.go:41", after := #[{ on := 0, ground := Go.Ground.data }, { on := 3, ground := Go.Ground.data }, { on := 2, ground := Go.Ground.chain }], guard := none }) rfl (fun K hK => ?_) ?_
                · rw [if_pos (by rfl)]
                  refine wp_list w7 _ _ rfl w3.heap.size z (mvL (nat f) len (pre.map Prod.snd)).length vs rfl (owns_below HZ4.out HS7.out) w6.heap.size _ rfl C70.out rfl (Nat.le_trans (Nat.le_trans (mvL_len _ _ _) (Nat.le_of_lt HPL.out)) HPB.out) (Nat.le_trans HI.out.siz.1 HS7.out.size) ?_
                  intro v8 w8 hown8 hg8
                  obtain ⟨g8, cap8, hv8⟩ := owns_form hown8 (by omega)
                  have HO8 : Hid (w8.ownsRow w3.heap.size 22 1 v8 ((mvL (nat f) len (pre.map Prod.snd)).length + 1) (vs ++ [.slice va vn vc])) := hown8
                  have HG8 : Hid (w7.grownBy w8 z.ownBlock) := hg8
                  clear hown8 hg8
                  have c8 : w8.cell? ⟨w1.heap.size, 0, none⟩ = some z ∧ w8.frozen? ⟨w1.heap.size, 0, none⟩ = false := mv_c (d0 _ HS7.out) (D1.out _ HS7.out) (owns_below HZ4.out HS7.out) HG8.out (by have := HSZ.out; omega)
                  obtain ⟨c80, c81⟩ := c8
                  rw [hv8] at HO8 ⊢
                  clear hv8
                  refine hK.out _ _ (fun h => by cases h) ?_
                  clear hK K
                  try simp only [Act.put, List.setIfInBounds_toArray, List.set_cons_zero, List.set_cons_succ]
                  refine lates_ready (rs := [5]) (by kernel_rfl) (by simp) ?_
                  refine AllLate.cons (o := { dst := none, op := Go.Op.store 40 (Go.Operand.tmp 5) (Go.Operand.tmp 27), type := 0, pos := "canon.go:41", after := #[{ on := 4, ground := Go.Ground.data }, { on := 4, ground := Go.Ground.chain }, { on := 0, ground := Go.Ground.phase }, { on := 1, ground := Go.Ground.phase }, { on := 2, ground := Go.Ground.phase }, { on := 3, ground := Go.Ground.phase }, { on := 4, ground := Go.Ground.phase }], guard := none }) rfl (fun K hK => ?_) ?_
                  · go_simp
                    skip
                    refine hK.out _ _ (fun h => by cases h) ?_
                    clear hK K
                    try simp only [Act.put, List.setIfInBounds_toArray, List.set_cons_zero, List.set_cons_succ]
                    refine lates_done (by kernel_rfl) ?_ _
                    try simp only [Act.put, List.setIfInBounds_toArray, List.set_cons_zero, List.set_cons_succ]
                    gi_wp2
                    exact mv_end HI.out HRW.out (by have := HSZ.out; omega) (by have := HSZ.out; omega) (by have := HSZ.out; omega) HS7.out HZ4.out HZ5.out HZ3.out HV7.out HXL.out HO8.out HG8.out c80 c81 HM.out HOX.out
                  exact AllLate.nil
                exact AllLate.nil
              exact AllLate.nil
            exact AllLate.nil
        exact AllLate.nil
      exact AllLate.nil
    case hdone =>
      rintro D B xs W hD hS hI hK
      obtain ⟨z, vs, ⟨k1, k2⟩, k3, k4, k5⟩ := hI.vals
      rw [hS] at k4 k5
      have HML : Hid (MLst W w.heap.size z (mvL (nat f) len (per len [] (pw len - 1)))) := ⟨vs, owns_mono k4 (by have := HSZ.out; omega), fun k y hy => by
        obtain ⟨v, q1, _, q3⟩ := k5 k y hy
        exact ⟨v, q1, owns_mono q3 (by have := HSZ.out; omega)⟩⟩
      obtain ⟨va, vn, vc, rfl⟩ : ∃ va vn vc, z = .slice va vn vc := by
        rcases k4.2 with ⟨q0, _⟩ | ⟨q, cap', cur, q1, _⟩
        · exact ⟨_, _, _, q0⟩
        · exact ⟨_, _, _, q1⟩
      have HIB : Hid (Below w.heap.size w W) := hI.bel
      have HKD : Hid (W.heap[D]? = some (.deferred (some []))) := hK
      have HD : Hid (w3.heap.size ≤ D) := hD
      clear hI hS k2 k3 k4 k5 hK hD
      gi_wp2
      have hgr := grownBy_putObj' W D (.deferred none)
      have hnc : ∀ r, some D = some r → ∃ o : Obj, W.heap[r]? = some o ∧ o.isCells = false := fun r e => by cases e; exact ⟨_, HKD.out, rfl⟩
      refine ⟨by simp, .inl ⟨_, _, rfl, run_takeDeferred HKD.out, ?_⟩⟩
      refine ⟨.tuple #[.slice va vn vc, .int .i64 0], by simp [results, Tryd.results19, go_sem], ⟨0, HC.out, .inr ⟨rfl, _, rfl, ?_⟩⟩, ?_⟩
      · obtain ⟨vs, q1, q2⟩ := HML.out
        exact ⟨vs, nc_owns q1 hgr hnc, fun k y hy => by
          obtain ⟨v, q3, q4⟩ := q2 k y hy
          exact ⟨v, q3, nc_owns q4 hgr hnc⟩⟩
      · exact HIB.out.trans (belowK_b (w := w) (Nat.le_refl _) W D _ _ (by have := HSZ.out; have := HD.out; omega) HKD.out rfl rfl)
  · have hne : (c != 0) = true := by simpa using e0
    gi_wp2
    exact ⟨.tuple #[.slice none 0 0, .int .i64 c], by simp [results, Tryd.results19, go_sem], ⟨c, HC.out, .inl ⟨e0, rfl⟩⟩, HB1.out⟩
end Go.Proofs.YtfbdgdphpdhcpaaDoor
