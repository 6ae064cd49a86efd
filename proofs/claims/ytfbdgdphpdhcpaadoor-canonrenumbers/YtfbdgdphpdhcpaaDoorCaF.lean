/-
  What canon.formOf answers: the least order by all lists, and the first list by which it is that. Conditions: an order of at most ten points; the library's table.
-/
import Derived.Lib.LazyBuf
import Derived.Test.YtfbdgdphpdhcpaaDoorCaR
namespace Go.Proofs.YtfbdgdphpdhcpaaDoor
open Go.RowKit Go.Shelf
set_option maxRecDepth 100000
attribute [local go_sem] Oper.semAt_some

theorem run_eql_sn (w : World) (a : Option Addr) (l c : Nat) : (binOp .eql 22 (.slice a l c) (.slice none 0 0)).run Tryd.prog w = .ok (.bool a.isNone) w := run_eql_slice_nil w 22 3 a l c Tryd.underlying22
/-- The first of the lists by which the order is least. -/
def bstS (g : Nat → Nat) (n : Nat) (acc : Option (List Nat)) (x : List Nat) : Option (List Nat) :=
  match acc with
  | none => some x
  | some y => if cmpF (prt g x) (prt g y) n 0 < 0 then some x else some y
def bst (g : Nat → Nat) (n : Nat) (l : List (List Nat)) : Option (List Nat) := l.foldl (bstS g n) none
theorem bst_snoc (g : Nat → Nat) (n : Nat) (l : List (List Nat)) (x : List Nat) : bst g n (l ++ [x]) = bstS g n (bst g n l) x := by simp [bst]
theorem bst_mem {g : Nat → Nat} {n : Nat} {l : List (List Nat)} {y : List Nat} : bst g n l = some y → y ∈ l := by
  have gen : ∀ (l : List (List Nat)) (acc : Option (List Nat)), l.foldl (bstS g n) acc = some y → acc = some y ∨ y ∈ l := by
    intro l
    induction l with
    | nil => intro acc h; exact .inl h
    | cons x l ih =>
      intro acc h
      rw [List.foldl_cons] at h
      rcases ih _ h with h1 | h1
      · unfold bstS at h1
        cases acc with
        | none => simp at h1; subst h1; exact .inr (List.mem_cons_self ..)
        | some z =>
          simp only at h1
          split at h1
          · cases h1; exact .inr (List.mem_cons_self ..)
          · exact .inl h1
      · exact .inr (List.mem_cons_of_mem _ h1)
  intro h
  rcases gen l none h with h | h
  · cases h
  · exact h
theorem per_ne : ∀ (d : Nat) (p : List Nat) (s : Nat), s < 1024 → pc s = d → per d p s ≠ []
  | 0, p, s, _, _ => by simp [per]
  | d + 1, p, s, hs, hd => by
    have h0 : s ≠ 0 := fun e => by rw [e, (pc_zero (by decide)).2 rfl] at hd; omega
    have hm : lo s ∈ pts s 10 := by rw [pts_lo hs h0]; exact List.mem_cons_self ..
    obtain ⟨h1, h2⟩ := lack_pc hs (pts_lt s 10 _ hm) (pts_bit 10 _ hm)
    intro e
    have ih := per_ne d (p ++ [lo s]) (lack s (pw (lo s))) h1 (by omega)
    obtain ⟨y, hy⟩ := List.exists_mem_of_ne_nil _ ih
    have := per_sub hm hy
    rw [e] at this
    cases this
theorem rowVals_nat (x : List Nat) : rowVals (nth x) x.length = natVals x := by
  refine List.ext_getElem? fun k => ?_
  by_cases h : k < x.length
  · rw [rowVals_at _ _ _ h, natVals_at _ _ h]
  · rw [List.getElem?_eq_none (by simp [rowVals]; omega), List.getElem?_eq_none (by simp [natVals]; omega)]
/-- What a list of all points is. -/
theorem per_is : ∀ (d : Nat) (p : List Nat) (s : Nat), s < 1024 → ∀ y, y ∈ per d p s → ∃ q, y = p ++ q ∧ q.length = d ∧ (∀ x, x ∈ q → s.testBit x = true) ∧ q.Nodup
  | 0, p, s, _, y, h => by
    simp [per] at h
    exact ⟨[], by simp [h], rfl, (fun x hx => by cases hx), List.nodup_nil⟩
  | d + 1, p, s, hs, y, h => by
    rw [per, List.mem_flatMap] at h
    obtain ⟨x, hx, hy⟩ := h
    have hb := pts_bit 10 x hx
    have hx10 := pts_lt s 10 x hx
    obtain ⟨hl, _⟩ := lack_pc hs hx10 hb
    obtain ⟨q, e, hq, hm, hn⟩ := per_is d (p ++ [x]) _ hl y hy
    have hpx := pw_small x (by omega)
    have hbit : ∀ z, (lack s (pw x)).testBit z = (s.testBit z && !(pw x).testBit z) := fun z => lack_bit s (pw x) z (by omega) (by omega)
    refine ⟨x :: q, by rw [e]; simp, by simp [hq], fun z hz => ?_, List.nodup_cons.2 ⟨fun hxq => ?_, hn⟩⟩
    · rcases List.mem_cons.1 hz with rfl | h1
      · exact hb
      · have := hm z h1
        rw [hbit] at this
        simp at this
        exact this.1
    · have := hm x hxq
      rw [hbit, pw_bit] at this
      simp at this
theorem per_good {n : Nat} (hn : n ≤ 10) {y : List Nat} (h : y ∈ per n [] (pw n - 1)) : y.length = n ∧ (∀ k, k < n → nth y k < n) ∧ y.Nodup := by
  obtain ⟨q, e, hq, hm, hd⟩ := per_is n [] _ (pc_all hn).1 y h
  simp at e
  subst e
  refine ⟨hq, fun k hk => ?_, hd⟩
  have h1 := hm _ (nth_mem' (L := y) (j := k) (by omega))
  have hpn := pw_pos n
  exact bit_of_lt (show pw n - 1 < pw n by omega) h1
theorem keeps_below {W W' : World} (hb : Below W.heap.size W W') : KeepsOthers W W' := ⟨hb.size, fun k _ hk _ => (hb.block k (Array.getElem?_eq_some_iff.1 hk).1).trans hk⟩
theorem Own.oth {C : Nat → Prop} {W W' : World} {b n : Nat} {F : Nat → Nat} (h : Own W b n F) (ho : OthS C W W') (hb : ¬ C b) : Own W' b n F := fun k hk => by
  obtain ⟨h1, h2⟩ := h k hk
  exact ⟨ho.cell h1 hb, (ho.frozen h1 hb).trans h2⟩
theorem Szd.oth {C : Nat → Prop} {W W' : World} {b n : Nat} (h : Szd W b n) (ho : OthS C W W') (hb : ¬ C b) : Szd W' b n := by
  obtain ⟨cs, h1, h2⟩ := h
  exact ⟨cs, ho.same b _ hb h1 rfl, h2⟩
/-- How it stands behind some lists. -/
structure FrI (w : World) (Z n : Nat) (a : Option Addr) (cap : Nat) (g : Nat → Nat) (B : Nat) (pre : List (Nat × List Nat)) (W : World) : Prop where
  held : Held W w.heap.size n a n cap (fun k => (g k : Nat))
  zb : ZBox W (w.heap.size + 1)
  bel : Below w.heap.size w W
  siz : Z ≤ W.heap.size ∧ Z ≤ B
  vals : ∃ lv bv, (W.cell? ⟨w.heap.size + 2, 0, none⟩ = some lv ∧ W.frozen? ⟨w.heap.size + 2, 0, none⟩ = false) ∧ (W.cell? ⟨w.heap.size + 3, 0, none⟩ = some bv ∧ W.frozen? ⟨w.heap.size + 3, 0, none⟩ = false) ∧
    ((pre = [] ∧ lv = .slice none 0 0 ∧ bv = .slice none 0 0) ∨
     ∃ x bl, bst g n (pre.map Prod.snd) = some x ∧ x ∈ pre.map Prod.snd ∧ lv = .slice (some ⟨bl, 0, none⟩) n n ∧ Own W bl n (prt g x) ∧ Z ≤ bl ∧ bl ≠ B ∧ (bl < W.heap.size ∧ Szd W bl n) ∧ W.ownsRow Z 3 1 bv n (natVals x) ∧ bv.ownBlock ≠ some B)
theorem FrI.itr {w : World} {Z n : Nat} {a : Option Addr} {cap : Nat} {g : Nat → Nat} (hZ : w.heap.size + 4 ≤ Z) {B : Nat} {s : List (Nat × List Nat)} {A A' : World} (hr : Row w a n (fun k => (g k : Nat))) (h : FrI w Z n a cap g B s A) (hi : Itr Z B A A') : FrI w Z n a cap g B s A' := by
  have hA := h.siz.1
  have hB := h.siz.2
  have hc : ∀ (p : Addr) v, p.block < Z → A.cell? p = some v → A'.cell? p = some v := fun p v hp hv => (hi.1.cell hp).trans hv
  have hf : ∀ (p : Addr), p.block < Z → A'.frozen? p = A.frozen? p := fun p hp => hi.1.frozen hp
  obtain ⟨z0, z1, z2, z3⟩ := h.zb
  have hbel : Below w.heap.size w A' := h.bel.trans (hi.1.mono (by omega))
  refine ⟨⟨hc _ _ (by show w.heap.size < Z; omega) h.held.c0, hc _ _ (by show w.heap.size < Z; omega) h.held.c1, hr.below hbel⟩,
    ⟨hc _ _ (by show w.heap.size + 1 < Z; omega) z0, hc _ _ (by show w.heap.size + 1 < Z; omega) z1, (hf _ (by show w.heap.size + 1 < Z; omega)).trans z2, (hf _ (by show w.heap.size + 1 < Z; omega)).trans z3⟩, hbel, ⟨Nat.le_trans hA hi.2.size, hB⟩, ?_⟩
  obtain ⟨lv, bv, ⟨k1, k2⟩, ⟨k3, k4⟩, hv⟩ := h.vals
  refine ⟨lv, bv, ⟨hc _ _ (by show w.heap.size + 2 < Z; omega) k1, (hf _ (by show w.heap.size + 2 < Z; omega)).trans k2⟩, ⟨hc _ _ (by show w.heap.size + 3 < Z; omega) k3, (hf _ (by show w.heap.size + 3 < Z; omega)).trans k4⟩, ?_⟩
  rcases hv with hv | ⟨x, bl, v1, v2, v3, v4, v5, v6, v7, v8, v9⟩
  · exact .inl hv
  · exact .inr ⟨x, bl, v1, v2, v3, v4.oth hi.2 v6, v5, v6, ⟨Nat.lt_of_lt_of_le v7.1 hi.2.size, v7.2.oth hi.2 v6⟩, hi.2.owns v8 (fun k _ e hk => v9 (by rw [e, hk])), v9⟩
/-- A round that changes nothing. -/
theorem FrI.keep {w : World} {Z n : Nat} {a : Option Addr} {cap : Nat} {g : Nat → Nat} {B : Nat} {pre : List (Nat × List Nat)} {W W' : World} {x : List Nat} (hb : Below W.heap.size W W') (h : FrI w Z n a cap g B pre W) {y : List Nat} (hy : bst g n (pre.map Prod.snd) = some y) (hs : bst g n ((pre ++ [(B, x)]).map Prod.snd) = some y) : FrI w Z n a cap g B (pre ++ [(B, x)]) W' := by
  obtain ⟨z0, z1, z2, z3⟩ := h.zb.step hb
  refine ⟨h.held.step hb, ⟨z0, z1, z2, z3⟩, Below.then h.bel hb, ⟨Nat.le_trans h.siz.1 hb.size, h.siz.2⟩, ?_⟩
  obtain ⟨lv, bv, ⟨k1, k2⟩, ⟨k3, k4⟩, hv⟩ := h.vals
  have l1 := World.block_lt_of_cell? _ _ k1
  have l3 := World.block_lt_of_cell? _ _ k3
  refine ⟨lv, bv, ⟨(hb.cell l1).trans k1, (hb.frozen l1).trans k2⟩, ⟨(hb.cell l3).trans k3, (hb.frozen l3).trans k4⟩, ?_⟩
  rcases hv with ⟨rfl, _⟩ | ⟨x', bl, v1, v2, v3, v4, v5, v6, v7, v8, v9⟩
  · cases hy
  · rw [v1] at hy
    cases hy
    exact .inr ⟨_, bl, hs, by rw [List.map_append]; exact List.mem_append_left _ v2, v3, v4.oth (OthS.below (fun _ => False) hb) id, v5, v6, ⟨Nat.lt_of_lt_of_le v7.1 hb.size, v7.2.below hb v7.1⟩, owns_below v8 hb, v9⟩
/-- A round that lays a new least one. -/
theorem FrI.put {w : World} {Z n : Nat} {a : Option Addr} {cap : Nat} {g : Nat → Nat} (hZ : w.heap.size + 4 ≤ Z) (hr : Row w a n (fun k => (g k : Nat))) {B : Nat} {pre : List (Nat × List Nat)} {W W' : World} {x : List Nat} {bl : Nat} {bv : Value} (hb : Below W.heap.size W W') (h : FrI w Z n a cap g B pre W)
    (hO : Own W' bl n (prt g x)) (h1 : W.heap.size ≤ bl) (h2 : bl < W'.heap.size ∧ Szd W' bl n) (hv : W'.ownsRow W.heap.size 3 1 bv n (natVals x)) (hB : B < W.heap.size) (hs : bst g n ((pre ++ [(B, x)]).map Prod.snd) = some x) :
    KeepsOthers W ((W'.setCell ⟨w.heap.size + 2, 0, none⟩ (.slice (some ⟨bl, 0, none⟩) n n)).setCell ⟨w.heap.size + 3, 0, none⟩ bv) ∧
    OthS (fun k => k = w.heap.size + 2 ∨ k = w.heap.size + 3) W ((W'.setCell ⟨w.heap.size + 2, 0, none⟩ (.slice (some ⟨bl, 0, none⟩) n n)).setCell ⟨w.heap.size + 3, 0, none⟩ bv) ∧
    FrI w Z n a cap g B (pre ++ [(B, x)]) ((W'.setCell ⟨w.heap.size + 2, 0, none⟩ (.slice (some ⟨bl, 0, none⟩) n n)).setCell ⟨w.heap.size + 3, 0, none⟩ bv) := by
  have hA := h.siz.1
  obtain ⟨z0, z1, z2, z3⟩ := h.zb.step hb
  have hH := h.held.step hb
  obtain ⟨lv, bv', ⟨k1, k2⟩, ⟨k3, k4⟩, _⟩ := h.vals
  have l1 := World.block_lt_of_cell? _ _ k1
  have l3 := World.block_lt_of_cell? _ _ k3
  have j1 := (hb.cell l1).trans k1
  have j2 := (hb.frozen l1).trans k2
  have j3 := (hb.cell l3).trans k3
  have j4 := (hb.frozen l3).trans k4
  have hoth : ∀ (p : Addr), p.block ≠ w.heap.size + 2 → p.block ≠ w.heap.size + 3 → ((W'.setCell ⟨w.heap.size + 2, 0, none⟩ (.slice (some ⟨bl, 0, none⟩) n n)).setCell ⟨w.heap.size + 3, 0, none⟩ bv).cell? p = W'.cell? p := fun p h1 h2 => by
    rw [World.cell?_setCell_other _ _ _ _ (fun e => h2 (by rw [← e])), World.cell?_setCell_other _ _ _ _ (fun e => h1 (by rw [← e]))]
  have hfr : ∀ p, ((W'.setCell ⟨w.heap.size + 2, 0, none⟩ (.slice (some ⟨bl, 0, none⟩) n n)).setCell ⟨w.heap.size + 3, 0, none⟩ bv).frozen? p = W'.frozen? p := fun p => by rw [World.frozen?_setCell, World.frozen?_setCell]
  have hblk : ∀ k, k ≠ w.heap.size + 2 → k ≠ w.heap.size + 3 → ((W'.setCell ⟨w.heap.size + 2, 0, none⟩ (.slice (some ⟨bl, 0, none⟩) n n)).setCell ⟨w.heap.size + 3, 0, none⟩ bv).heap[k]? = W'.heap[k]? := fun k h1 h2 => by
    rw [Below.heap_setCell _ _ _ _ (fun e => h2 e), Below.heap_setCell _ _ _ _ (fun e => h1 e)]
  have hbel : Below w.heap.size w ((W'.setCell ⟨w.heap.size + 2, 0, none⟩ (.slice (some ⟨bl, 0, none⟩) n n)).setCell ⟨w.heap.size + 3, 0, none⟩ bv) :=
    ((Below.then h.bel hb).setCell (p := ⟨w.heap.size + 2, 0, none⟩) (by show _ ≤ w.heap.size + 2; omega) _).setCell (p := ⟨w.heap.size + 3, 0, none⟩) (by show _ ≤ w.heap.size + 3; omega) _
  refine ⟨(keeps_below hb).trans ((KeepsOthers.setCell _ _ _).trans (KeepsOthers.setCell _ _ _)), ⟨by simpa using hb.size, fun k o hk h0 _ => ?_⟩, ⟨⟨?_, ?_, hr.below hbel⟩, ⟨?_, ?_, ?_, ?_⟩, hbel, ⟨by simpa using Nat.le_trans hA hb.size, h.siz.2⟩, ?_⟩⟩
  · rw [hblk k (fun e => hk (.inl e)) (fun e => hk (.inr e))]
    exact (hb.block k (Array.getElem?_eq_some_iff.1 h0).1).trans h0
  · rw [hoth _ (by show w.heap.size ≠ _; omega) (by show w.heap.size ≠ _; omega)]; exact hH.c0
  · rw [hoth _ (by show w.heap.size ≠ _; omega) (by show w.heap.size ≠ _; omega)]; exact hH.c1
  · rw [hoth _ (by show w.heap.size + 1 ≠ _; omega) (by show w.heap.size + 1 ≠ _; omega)]; exact z0
  · rw [hoth _ (by show w.heap.size + 1 ≠ _; omega) (by show w.heap.size + 1 ≠ _; omega)]; exact z1
  · rw [hfr]; exact z2
  · rw [hfr]; exact z3
  · refine ⟨_, bv, ⟨?_, by rw [hfr]; exact j2⟩, ⟨?_, by rw [hfr]; exact j4⟩, .inr ⟨x, bl, hs, by simp, rfl, fun k hk => ?_, Nat.le_trans hA h1, by omega, ⟨by simpa using h2.1, (h2.2.set _ _).set _ _⟩, ?_, ?_⟩⟩
    · rw [World.cell?_setCell_other _ _ _ _ (fun e => by injection e with e1; omega)]
      exact World.cell?_setCell_same _ _ _ j1
    · exact World.cell?_setCell_same _ _ _ ((World.cell?_setCell_other _ _ _ _ (fun e => by injection e with e1; omega)).trans j3)
    · obtain ⟨q1, q2⟩ := hO k hk
      exact ⟨(hoth _ (by show bl ≠ _; omega) (by show bl ≠ _; omega)).trans q1, (hfr _).trans q2⟩
    · refine ⟨hv.1, ?_⟩
      rcases hv.2 with q0 | ⟨q, cap', cur, q1, q2, q3, q4⟩
      · exact .inl q0
      · exact .inr ⟨q, cap', cur, q1, by omega, (hblk q (by omega) (by omega)).trans q3, q4⟩
    · intro e
      rcases hv.2 with ⟨q0, _⟩ | ⟨q, cap', cur, q1, q2, _⟩
      · rw [q0] at e; cases e
      · rw [q1] at e
        have : q = B := by injection e
        omega
set_option maxHeartbeats 4000000 in
theorem formOf_any (n : Nat) (a : Option Addr) (cap : Nat) (g : Nat → Nat) (w : World) (hn : n ≤ 10) (hg : ∀ k, k < n → g k < 1024) (hr : Row w a n (fun k => (g k : Nat))) (hT : Tab w) :
    Calls Tryd.prog 30 #[.agg #[.int .i64 (n : Nat), .slice a n cap]] w fun e w' => (∃ x bl bv, bst g n (per n [] (pw n - 1)) = some x ∧ e = .returned (.tuple #[.agg #[.int .i64 (n : Nat), .slice (some ⟨bl, 0, none⟩) n n], bv]) ∧ Own w' bl n (prt g x) ∧ w.heap.size + 4 ≤ bl ∧ (bl < w'.heap.size ∧ Szd w' bl n) ∧ w'.ownsRow w.heap.size 3 1 bv n (natVals x)) ∧ Below w.heap.size w w' := by
  have HR0 : Hid (Row w a n (fun k => (g k : Nat))) := hr
  have HG : Hid (∀ k, k < n → g k < 1024) := hg
  obtain ⟨w1, HW1⟩ : ∃ w1, Hid (w1 = (((w.alloc (.cells #[.int .i64 (n : Nat), .slice a n cap] 24)).alloc (.cells #[.int .i64 0, .slice none 0 0] 24)).alloc (.cells #[.slice none 0 0] 22)).alloc (.cells #[.slice none 0 0] 22)) := ⟨_, rfl⟩
  have hb1 : Below w.heap.size w w1 := by rw [HW1.out]; exact ((((Below.refl _ _).alloc (Nat.le_refl _) _).alloc (by simp) _).alloc (by simp; omega) _).alloc (by simp; omega) _
  have hs1 : w1.heap.size = w.heap.size + 4 := by rw [HW1.out]; simp
  obtain ⟨X1, hX1⟩ : ∃ X1, X1 = w.alloc (.cells #[.int .i64 (n : Nat), .slice a n cap] 24) := ⟨_, rfl⟩
  obtain ⟨X2, hX2⟩ : ∃ X2, X2 = X1.alloc (.cells #[.int .i64 0, .slice none 0 0] 24) := ⟨_, rfl⟩
  obtain ⟨X3, hX3⟩ : ∃ X3, X3 = X2.alloc (.cells #[.slice none 0 0] 22) := ⟨_, rfl⟩
  have hX4 : w1 = X3.alloc (.cells #[.slice none 0 0] 22) := by rw [hX3, hX2, hX1]; exact HW1.out
  have s1 : X1.heap.size = w.heap.size + 1 := by rw [hX1]; simp
  have s2 : X2.heap.size = w.heap.size + 2 := by rw [hX2]; simp [s1]
  have s3 : X3.heap.size = w.heap.size + 3 := by rw [hX3]; simp [s2]
  have b2 : Below X1.heap.size X1 X2 := by rw [hX2]; exact (Below.refl _ _).alloc (Nat.le_refl _) _
  have b3 : Below X2.heap.size X2 X3 := by rw [hX3]; exact (Below.refl _ _).alloc (Nat.le_refl _) _
  have b4 : Below X3.heap.size X3 w1 := by rw [hX4]; exact (Below.refl _ _).alloc (Nat.le_refl _) _
  have hH1 : Held w1 w.heap.size n a n cap (fun k => (g k : Nat)) := by
    have h : Held X1 w.heap.size n a n cap (fun k => (g k : Nat)) := by rw [hX1]; exact Held.box hr
    exact ((h.step b2).step b3).step b4
  have hZ1 : ZBox w1 (w.heap.size + 1) := by
    have h : ZBox X2 (w.heap.size + 1) := by rw [hX2, ← s1]; exact ZBox.new X1
    exact (h.step b3).step b4
  have l2 : w1.cell? ⟨w.heap.size + 2, 0, none⟩ = some (.slice none 0 0) ∧ w1.frozen? ⟨w.heap.size + 2, 0, none⟩ = false := by
    have h1 : X3.cell? ⟨w.heap.size + 2, 0, none⟩ = some (.slice none 0 0) := by rw [hX3, ← s2]; simp
    have h2 : X3.frozen? ⟨w.heap.size + 2, 0, none⟩ = false := by rw [hX3, ← s2]; exact World.frozen?_alloc_at _ _ _ _ (by simp)
    exact ⟨(b4.cell (World.block_lt_of_cell? _ _ h1)).trans h1, (b4.frozen (World.block_lt_of_cell? _ _ h1)).trans h2⟩
  have l3 : w1.cell? ⟨w.heap.size + 3, 0, none⟩ = some (.slice none 0 0) ∧ w1.frozen? ⟨w.heap.size + 3, 0, none⟩ = false := by
    have h1 : w1.cell? ⟨w.heap.size + 3, 0, none⟩ = some (.slice none 0 0) := by rw [hX4, ← s3]; simp
    have h2 : w1.frozen? ⟨w.heap.size + 3, 0, none⟩ = false := by rw [hX4, ← s3]; exact World.frozen?_alloc_at _ _ _ _ (by simp)
    exact ⟨h1, h2⟩
  clear hX1 hX2 hX3 hX4 s1 s2 s3 b2 b3 b4
  have c0 := hH1.c0
  have c1 := hH1.c1
  refine (callsIn_wide (n := 3)).1 ?_
  refine callsIn_of_wp_marks Tryd.func30 rfl trivial ?_ rfl
  simp only [Tryd.ntmps30, List.size_toArray, List.length_cons, List.length_nil, Nat.reduceAdd, Nat.reduceSub, Array.replicate_succ, Array.replicate_zero, List.push_toArray, List.append_toArray, List.nil_append, List.cons_append]
  gi_wp2
  rw [← HW1.out]
  refine ⟨trivial, (callsIn_wide.2 (lists_any (n : Nat) w1)).mono ?_⟩
  rintro e w2 ⟨rfl, hw2⟩
  have hb2 : Below w1.heap.size w1 w2 := by rw [hw2]; exact (Below.refl _ _).alloc (Nat.le_refl _) _
  have hs2 : w2.heap.size = w.heap.size + 5 := by rw [hw2]; simp [hs1]
  have m0 : w2.cell? ⟨w1.heap.size, 0, none⟩ = some (.int .i64 (n : Nat)) := by rw [hw2]; simp
  have hww : Below w.heap.size w w2 := Below.then hb1 hb2
  have ht1 : 1 < w.heap.size := World.block_lt_of_cell? _ _ (hT 0 (by decide))
  have HSEQ := (show Hid _ from lists_seq (3 - 1) n w1.heap.size (fun k => k = w.heap.size + 2 ∨ k = w.heap.size + 3) w2 hn (hT.step hww) (by rintro (h | h) <;> omega) (by rintro k (h | h) <;> omega) m0)
  have HI0 : Hid (∀ B, w2.heap.size ≤ B → FrI w w2.heap.size n a cap g B [] w2) := fun B hB =>
    ⟨hH1.step hb2, hZ1.step hb2, hww, ⟨Nat.le_refl _, hB⟩, _, _, ⟨(hb2.cell (World.block_lt_of_cell? _ _ l2.1)).trans l2.1, (hb2.frozen (World.block_lt_of_cell? _ _ l2.1)).trans l2.2⟩, ⟨(hb2.cell (World.block_lt_of_cell? _ _ l3.1)).trans l3.1, (hb2.frozen (World.block_lt_of_cell? _ _ l3.1)).trans l3.2⟩, .inl ⟨rfl, rfl, rfl⟩⟩
  have HSZ : Hid (w2.heap.size = w.heap.size + 5) := hs2
  have HNE : Hid (per n [] (pw n - 1) ≠ []) := by
    exact per_ne n [] _ (pc_all hn).1 (pc_all hn).2
  clear hw2 hb2 hs2 m0 hb1 hs1 hH1 hZ1 l2 l3 c0 c1 HW1 hr hg hww ht1 hT
  gi_wp2
  simp only [Nat.add_assoc, Nat.reduceAdd]
  refine range_x (n := 3) rfl (by omega) (gf := 44) (lb := #[.pointer (some ⟨w1.heap.size, 0, none⟩)]) rfl trivial (fun _ _ => rfl) HSEQ.out (fun h k => h.trans k) (OthS.loop _) (Below.refl _ _) VL.loop
    (FrI w w2.heap.size n a cap g) ?hI HI0.out ?a1 ?hassign ?hbody ?hdone
  case hI =>
    intro B s A A' h hi
    exact h.itr (by have := HSZ.out; omega) HR0.out hi
  case hassign =>
    intro l x W' K hK
    gi_wp2
    exact hK
  case hbody =>
    rintro l B pre ⟨xb, x⟩ W hI hv hlen
    obtain ⟨hxb, hKB, hown, hmem⟩ := hv
    have hxb' : B = xb := hxb.symm
    subst hxb'
    clear hxb
    obtain ⟨hxl, hxn, _⟩ := per_good hn hmem
    have HOX : Hid (W.ownsRow w2.heap.size 3 1 (.slice (some ⟨B, 0, none⟩) n n) n (natVals x)) := hown
    have HRX : Hid (∀ w', Below W.heap.size W w' → Row w' (some ⟨B, 0, none⟩) n (fun k => (nth x k : Nat))) := fun w' hb => Row.below (fun i hi' => ⟨B, 0, rfl, by
      rw [Nat.zero_add, HOX.out.cellAt i (by omega)]; exact natVals_at _ _ (by have : x.length = n := hxl; omega)⟩) hb
    have HBW : Hid (B < W.heap.size) := (HOX.out.lt B rfl).2
    have HI : Hid (FrI w w2.heap.size n a cap g B pre W) := hI
    have HXL : Hid (x.length = n) := hxl
    have HXN : Hid (∀ k, k < n → nth x k < n) := hxn
    have HST : Hid (bst g n ((pre ++ [(B, x)]).map Prod.snd) = bstS g n (bst g n (pre.map Prod.snd)) x) := by
      show bst g n ((pre ++ [(B, x)]).map Prod.snd) = _
      rw [List.map_append]; exact bst_snoc _ _ _ _
    have HPL : Hid (pre.length < (per n [] (pw n - 1)).length) := hlen
    have c0 := hI.held.c0
    have c1 := hI.held.c1
    clear hI hown hmem hxl hxn hlen hKB
    show (Code.block 1 _).wpIn _ _ _ _ _ _
    gi_wp2
    refine ⟨trivial, (CallsIn.inRound l (callsIn_wide.2 (renumbered_any n a cap g (some ⟨B, 0, none⟩) n x W hn HG.out HXL.out HXN.out HI.out.held.row (HRX.out _ (Below.refl _ _))))).mono ?_⟩
    rintro e W1 ⟨⟨bl, rfl, hO, hbl1, hbl2⟩, hb1⟩
    have HO1 : Hid (Own W1 bl n (prt g x)) := hO
    have HBL : Hid (W.heap.size ≤ bl ∧ bl < W1.heap.size ∧ Szd W1 bl n) := ⟨hbl1, hbl2⟩
    have HB1 : Hid (Below W.heap.size W W1) := hb1
    clear hO hbl1 hbl2 hb1 c0 c1
    have HI1 := HI.out
    obtain ⟨lv, bv, ⟨k1, k2⟩, ⟨k3, k4⟩, hvv⟩ := HI1.vals
    have l1 := World.block_lt_of_cell? _ _ k1
    have l3 := World.block_lt_of_cell? _ _ k3
    have e1 := (HB1.out.cell l1).trans k1
    have e3 := (HB1.out.cell l3).trans k3
    have HF1 : Hid (W1.frozen? ⟨w.heap.size + 2, 0, none⟩ = false ∧ W1.frozen? ⟨w.heap.size + 3, 0, none⟩ = false) := ⟨(HB1.out.frozen l1).trans k2, (HB1.out.frozen l3).trans k4⟩
    have HLAY : Hid (bst g n ((pre ++ [(B, x)]).map Prod.snd) = some x → ∀ (W2 : World) (v : Value), Below W1.heap.size W1 W2 → W2.ownsRow W1.heap.size 3 1 v n (rowVals (nth x) n) →
        KeepsOthers W ((W2.setCell ⟨w.heap.size + 2, 0, none⟩ (.slice (some ⟨bl, 0, none⟩) n n)).setCell ⟨w.heap.size + 3, 0, none⟩ v) ∧
        OthS (fun k => k = w.heap.size + 2 ∨ k = w.heap.size + 3) W ((W2.setCell ⟨w.heap.size + 2, 0, none⟩ (.slice (some ⟨bl, 0, none⟩) n n)).setCell ⟨w.heap.size + 3, 0, none⟩ v) ∧
        FrI w w2.heap.size n a cap g B (pre ++ [(B, x)]) ((W2.setCell ⟨w.heap.size + 2, 0, none⟩ (.slice (some ⟨bl, 0, none⟩) n n)).setCell ⟨w.heap.size + 3, 0, none⟩ v)) := fun hs W2 v hb2 hv2 => by
      refine HI.out.put (by have := HSZ.out; omega) HR0.out (Below.then HB1.out hb2) (HO1.out.oth (OthS.below (fun _ => False) hb2) id) HBL.out.1 ⟨Nat.lt_of_lt_of_le HBL.out.2.1 hb2.size, HBL.out.2.2.below hb2 HBL.out.2.1⟩ ?_ HBW.out hs
      rw [← HXL.out, rowVals_nat, HXL.out] at hv2
      exact owns_mono hv2 HB1.out.size
    clear k1 k2 k3 k4 l1 l3 HI1
    rcases hvv with ⟨hpe, rfl, rfl⟩ | ⟨y, bl', v1, v2, rfl, v4, v5, v6, v7, v8, v9⟩
    · have HS : Hid (bst g n ((pre ++ [(B, x)]).map Prod.snd) = some x) := by
        show bst g n ((pre ++ [(B, x)]).map Prod.snd) = _
        rw [HST.out, hpe]; rfl
      clear hpe
      obtain ⟨f1, f3⟩ := HF1.out
      gi_wp2
      rw [run_eql_sn _ none 0 0]
      simp only [Option.isNone_none]
      gi_wp2
      refine ⟨trivial, ?_⟩
      gi_wp2
      refine ⟨trivial, (CallsIn.inRound l (callsIn_wide.2 (clone_any n (some ⟨B, 0, none⟩) n (nth x) W1 hn (HRX.out _ HB1.out)))).mono ?_⟩
      rintro e W2 ⟨⟨v, rfl, hv2⟩, hb2⟩
      have HB2 : Hid (Below W1.heap.size W1 W2) := hb2
      have HV2 : Hid (W2.ownsRow W1.heap.size 3 1 v n (rowVals (nth x) n)) := hv2
      have g1 := (hb2.cell (World.block_lt_of_cell? _ _ e1)).trans e1
      have g3 := (hb2.cell (World.block_lt_of_cell? _ _ e3)).trans e3
      have q1 := (hb2.frozen (World.block_lt_of_cell? _ _ e1)).trans f1
      have q3 := (hb2.frozen (World.block_lt_of_cell? _ _ e3)).trans f3
      obtain ⟨va, vn, vc, rfl⟩ : ∃ va vn vc, v = .slice va vn vc := by
        rcases hv2.2 with ⟨q0, _⟩ | ⟨q, cap', cur, q1, _⟩
        · exact ⟨_, _, _, q0⟩
        · exact ⟨_, _, _, q1⟩
      clear hb2 hv2 e1 e3 f1 f3
      gi_wp2
      obtain ⟨r1, r2, r3⟩ := HLAY.out HS.out W2 _ HB2.out HV2.out
      exact ⟨r1.from _, r2, r3⟩
    · have hn1 : 0 < n := by
        rcases Nat.eq_zero_or_pos n with h | h
        · subst h
          have h1 := HPL.out
          have : (per 0 [] (pw 0 - 1)).length = 1 := rfl
          rw [this] at h1
          have : pre = [] := List.eq_nil_of_length_eq_zero (by omega)
          rw [this] at v2
          cases v2
        · exact h
      obtain ⟨bb, bc, rfl⟩ : ∃ bb bc, bv = .slice (some ⟨bb, 0, none⟩) n bc := by
        rcases v8.2 with ⟨q0, q1⟩ | ⟨q, cap', cur, q1, _⟩
        · omega
        · exact ⟨q, cap', q1⟩
      have HY : Hid (bst g n (pre.map Prod.snd) = some y) := v1
      have HRY : Hid (Row W1 (some ⟨bl', 0, none⟩) n (fun k => (prt g y k : Nat))) := Own.row (v4.oth (OthS.below (fun _ => False) HB1.out) id)
      have HRB : Hid (Row W1 (some ⟨bl, 0, none⟩) n (fun k => (prt g x k : Nat))) := Own.row HO1.out
      obtain ⟨f1, f3⟩ := HF1.out
      have HFN : Hid (W1.frozen? ⟨w.heap.size + 2, 0, none⟩ = false ∧ W1.frozen? ⟨w.heap.size + 3, 0, none⟩ = false) := ⟨f1, f3⟩
      clear v1 v2 v4 v5 v6 v7 v8 v9
      gi_wp2
      rw [run_eql_sn _ (some ⟨bb, 0, none⟩) n bc]
      simp only [Option.isNone_some]
      gi_wp2
      refine ⟨trivial, (CallsIn.inRound l (callsIn_wide.2 (compare_any n (some ⟨bl, 0, none⟩) (some ⟨bl', 0, none⟩) n n (prt g x) (prt g y) W1 (by omega) HRB.out HRY.out))).mono ?_⟩
      rintro e W2 ⟨rfl, hw2⟩
      have hw2' := hw2.symm
      subst hw2'
      clear hw2
      by_cases hlt : cmpF (prt g x) (prt g y) n 0 < 0
      · have HS : Hid (bst g n ((pre ++ [(B, x)]).map Prod.snd) = some x) := by
          show bst g n ((pre ++ [(B, x)]).map Prod.snd) = _
          rw [HST.out, HY.out]; unfold bstS; simp only; rw [if_pos hlt]
        generalize cmpF (prt g x) (prt g y) n 0 = Z at *
        gi_wp2
        refine ⟨trivial, (CallsIn.inRound l (callsIn_wide.2 (clone_any n (some ⟨B, 0, none⟩) n (nth x) W2 hn (HRX.out _ HB1.out)))).mono ?_⟩
        rintro e W3 ⟨⟨v, rfl, hv2⟩, hb2⟩
        have HB2 : Hid (Below W2.heap.size W2 W3) := hb2
        have HV2 : Hid (W3.ownsRow W2.heap.size 3 1 v n (rowVals (nth x) n)) := hv2
        have g1 := (hb2.cell (World.block_lt_of_cell? _ _ e1)).trans e1
        have g3 := (hb2.cell (World.block_lt_of_cell? _ _ e3)).trans e3
        have q1 := (hb2.frozen (World.block_lt_of_cell? _ _ e1)).trans f1
        have q3 := (hb2.frozen (World.block_lt_of_cell? _ _ e3)).trans f3
        obtain ⟨va, vn, vc, rfl⟩ : ∃ va vn vc, v = .slice va vn vc := by
          rcases hv2.2 with ⟨q0, _⟩ | ⟨q, cap', cur, q1, _⟩
          · exact ⟨_, _, _, q0⟩
          · exact ⟨_, _, _, q1⟩
        clear hb2 hv2 e1 e3 f1 f3
        gi_wp2
        obtain ⟨r1, r2, r3⟩ := HLAY.out HS.out W3 _ HB2.out HV2.out
        exact ⟨r1.from _, r2, r3⟩
      · have HS : Hid (bst g n ((pre ++ [(B, x)]).map Prod.snd) = some y) := by
          show bst g n ((pre ++ [(B, x)]).map Prod.snd) = _
          rw [HST.out, HY.out]; unfold bstS; simp only; rw [if_neg hlt]
        generalize cmpF (prt g x) (prt g y) n 0 = Z at *
        gi_wp2
        exact ⟨(keeps_below HB1.out).from _, OthS.below _ HB1.out, FrI.keep HB1.out HI.out HY.out HS.out⟩
  case hdone =>
    rintro D B xs W hD hS hI hK
    have HIW : Hid (FrI w w2.heap.size n a cap g B xs W) := hI
    have HK : Hid (W.heap[D]? = some (.deferred (some []))) := hK
    have HD : Hid (w2.heap.size ≤ D) := hD
    obtain ⟨lv, bv, ⟨k1, k2⟩, ⟨k3, k4⟩, hvv⟩ := hI.vals
    rcases hvv with ⟨hpe, _⟩ | ⟨y, bl, v1, v2, rfl, v4, v5, v6, v7, v8, v9⟩
    · rw [hpe] at hS
      exact absurd hS.symm HNE.out
    have HY : Hid (bst g n (per n [] (pw n - 1)) = some y) := by rw [hS] at v1; exact v1
    have HO : Hid (Own W bl n (prt g y)) := v4
    have HBL : Hid (w2.heap.size ≤ bl ∧ bl < W.heap.size ∧ Szd W bl n) := ⟨v5, v7⟩
    have HBV : Hid (W.ownsRow w2.heap.size 3 1 bv n (natVals y)) := v8
    obtain ⟨va, vn, vc, rfl⟩ : ∃ va vn vc, bv = .slice va vn vc := by
      rcases v8.2 with ⟨q0, _⟩ | ⟨q, cap', cur, q1, _⟩
      · exact ⟨_, _, _, q0⟩
      · exact ⟨_, _, _, q1⟩
    have c0 := hI.held.c0
    obtain ⟨z0, z1, z2, z3⟩ := hI.zb
    clear hS hI hK hD v1 v2 v4 v5 v6 v7 v8 v9 k2 k4
    gi_wp2
    refine wpIn_wide.2 ?_
    go_region
    all_goals gi_wp2
    obtain ⟨WZ, HWZ⟩ : ∃ WZ, Hid (WZ = ((W.setCell ⟨w.heap.size + 1, 0, none⟩ (.int .i64 (n : Nat))).setCell ⟨w.heap.size + 1, 1, none⟩ (.slice (some ⟨bl, 0, none⟩) n n)).drew) := ⟨_, rfl⟩
    have hoth : OthS (fun k => k = w.heap.size + 1) W WZ := by
      rw [HWZ.out]
      refine ⟨by simp, fun k o hk h0 _ => ?_⟩
      show ((W.setCell ⟨w.heap.size + 1, 0, none⟩ (.int .i64 (n : Nat))).setCell ⟨w.heap.size + 1, 1, none⟩ (.slice (some ⟨bl, 0, none⟩) n n)).heap[k]? = some o
      rw [Below.heap_setCell _ _ _ _ hk, Below.heap_setCell _ _ _ _ hk]; exact h0
    have hz : WZ.cell? ⟨w.heap.size + 1, 0, none⟩ = some (.int .i64 (n : Nat)) ∧ WZ.cell? ⟨w.heap.size + 1, 1, none⟩ = some (.slice (some ⟨bl, 0, none⟩) n n) := by
      rw [HWZ.out]
      refine ⟨?_, ?_⟩
      · show ((W.setCell ⟨w.heap.size + 1, 0, none⟩ (.int .i64 (n : Nat))).setCell ⟨w.heap.size + 1, 1, none⟩ (.slice (some ⟨bl, 0, none⟩) n n)).cell? ⟨w.heap.size + 1, 0, none⟩ = _
        rw [World.cell?_setCell_other _ _ _ _ (fun e => by injection e with _ e2; cases e2)]
        exact World.cell?_setCell_same _ _ _ z0
      · show ((W.setCell ⟨w.heap.size + 1, 0, none⟩ (.int .i64 (n : Nat))).setCell ⟨w.heap.size + 1, 1, none⟩ (.slice (some ⟨bl, 0, none⟩) n n)).cell? ⟨w.heap.size + 1, 1, none⟩ = _
        exact World.cell?_setCell_same _ _ _ ((World.cell?_setCell_other _ _ _ _ (fun e => by injection e with _ e2; cases e2)).trans z1)
    have hbz : Below w.heap.size w WZ := by
      rw [HWZ.out]
      exact ((HIW.out.bel.setCell (p := ⟨w.heap.size + 1, 0, none⟩) (Nat.le_add_right _ _) _).setCell (p := ⟨w.heap.size + 1, 1, none⟩) (Nat.le_add_right _ _) _).drew
    have hkz : WZ.heap[D]? = some (.deferred (some [])) := by
      rw [HWZ.out]
      exact ((KeepsOthers.setCell _ _ _).trans (KeepsOthers.setCell _ _ _)).same _ _ HK.out rfl
    rw [← HWZ.out]
    have h5 := HSZ.out
    have hbl := HBL.out
    refine ⟨by simp, .inl ⟨_, _, rfl, run_takeDeferred hkz, ?_⟩⟩
    have hbK := belowK_b (w := w2) (Nat.le_refl _) _ D _ (.deferred none) HD.out hkz rfl rfl
    have hgr := grownBy_putObj' WZ D (.deferred none)
    have hnc : ∀ r, some D = some r → ∃ o : Obj, WZ.heap[r]? = some o ∧ o.isCells = false := fun r e => by cases e; exact ⟨_, hkz, rfl⟩
    have y0 := (hbK.cell (p := ⟨w.heap.size + 1, 0, none⟩) (by show w.heap.size + 1 < _; omega)).trans hz.1
    have y1 := (hbK.cell (p := ⟨w.heap.size + 1, 1, none⟩) (by show w.heap.size + 1 < _; omega)).trans hz.2
    refine ⟨_, (by simp [results, Tryd.results30, go_sem, y0, y1]), ⟨y, bl, .slice va vn vc, HY.out, rfl, fun k hk => ?_, by omega, ?_, ?_⟩, hbz.trans (hbK.mono (by omega))⟩
    · obtain ⟨q1, q2⟩ := HO.out k hk
      have hne : ¬ (bl = w.heap.size + 1) := by omega
      obtain ⟨r1, r2⟩ := nc_cell (hoth.cell q1 hne) hgr hnc
      exact ⟨r1, r2.trans ((hoth.frozen q1 hne).trans q2)⟩
    · have := hgr.size
      have h2 := hoth.size
      exact ⟨by omega, (hbl.2.2.oth hoth (by omega)).nc hgr hnc⟩
    · refine nc_owns ?_ hgr hnc
      exact owns_mono (hoth.owns HBV.out (fun k hk _ e => by omega)) (by omega)
end Go.Proofs.YtfbdgdphpdhcpaaDoor
