/-
  A shelf: lists of classes, each once, and a map that tells which are known. Conditions: as each theorem says.
-/
import Derived.Test.YthhnngmfbbljaaaGreatShkM
import Derived.Test.YthhnngmfbbljaaaGreatTogM
import Derived.Maps.AppendAt
namespace Go.Proofs.YthhnngmfbbljaaaGreat
open Go.RowKit Go.Maps Go.WideMaps
set_option maxRecDepth 100000

/-- Rows as values. -/
def slv (r : Nat → Nat) (Wn n : Nat) : List Value := (List.range n).map fun j => .slice (some ⟨r j, 0, none⟩) Wn Wn
theorem slv_len (r : Nat → Nat) (Wn n : Nat) : (slv r Wn n).length = n := by simp [slv]
theorem slv_snoc (r : Nat → Nat) (Wn n R : Nat) : slv (fun j => if j = n then R else r j) Wn (n + 1) = slv r Wn n ++ [.slice (some ⟨R, 0, none⟩) Wn Wn] := by
  unfold slv
  rw [List.range_succ, List.map_append]
  congr 1
  · apply List.map_congr_left
    intro j hj
    have := List.mem_range.1 hj
    simp [show ¬ j = n by omega]
  · simp
theorem owns_apart {w w' : World} {base e size n : Nat} {v : Value} {xs : List Value} {row : Option Nat} (h : w.ownsRow base e size v n xs) (hg : w.grownBy w' row) (hv : ∀ k, row = some k → v.ownBlock ≠ some k) : w'.ownsRow base e size v n xs := by
  refine ⟨h.1, ?_⟩
  rcases h.2 with h0 | ⟨g, cap, cur, h1, h2, h3, h4⟩
  · exact .inl h0
  · exact .inr ⟨g, cap, cur, h1, h2, (hg.block g (Array.getElem?_eq_some_iff.1 h3).1 (fun e => hv g e.symm (by rw [h1]; rfl))).trans h3, h4⟩
/-- A row of rows that is the call's own and grows. -/
structure CR (w : World) (base : Nat) (v : Value) (r : Nat → Nat) (n Wn : Nat) (G : Nat → Nat → Nat) : Prop where
  own : w.ownsRow base 22 1 v n (slv r Wn n)
  rows : ∀ j, j < n → Own w (r j) Wn (G j)
  lt : ∀ j, j < n → base ≤ r j ∧ r j < w.heap.size ∧ some (r j) ≠ v.ownBlock
theorem CR.step {w w' : World} {base : Nat} {v : Value} {r : Nat → Nat} {n Wn : Nat} {G : Nat → Nat → Nat} (h : CR w base v r n Wn G) (hb : Below w.heap.size w w') : CR w' base v r n Wn G where
  own := owns_below h.own hb
  rows j hj := (h.rows j hj).keep hb (h.lt j hj).2.1
  lt j hj := ⟨(h.lt j hj).1, Nat.lt_of_lt_of_le (h.lt j hj).2.1 hb.size, (h.lt j hj).2.2⟩
theorem CR.far {w w' : World} {base : Nat} {v : Value} {r : Nat → Nat} {n Wn : Nat} {G : Nat → Nat → Nat} {row : Option Nat} (h : CR w base v r n Wn G) (hg : w.grownBy w' row) (hv : ∀ k, row = some k → v.ownBlock ≠ some k) (hr : ∀ j, j < n → some (r j) ≠ row) : CR w' base v r n Wn G where
  own := owns_apart h.own hg hv
  rows j hj := (h.rows j hj).far hg (hr j hj)
  lt j hj := ⟨(h.lt j hj).1, Nat.lt_of_lt_of_le (h.lt j hj).2.1 hg.size, (h.lt j hj).2.2⟩
theorem CR.app {w w1 : World} {base : Nat} {v v' x : Value} {r : Nat → Nat} {n Wn R : Nat} {G : Nat → Nat → Nat} {t : TypeId} (h : CR w base v r n Wn G) (hR : base ≤ R ∧ R < w.heap.size) (hRv : some R ≠ v.ownBlock) (hO : Own w R Wn (G n))
    (hown : w1.ownsRow base 22 1 v' (n + 1) (slv r Wn n ++ [.slice (some ⟨R, 0, none⟩) Wn Wn])) (hg : (w.alloc (.cells #[x] t)).grownBy w1 v.ownBlock) (hat : v'.ownBlock = v.ownBlock ∨ v'.ownBlock = some (w.heap.size + 1)) :
    CR w1 base v' (fun j => if j = n then R else r j) (n + 1) Wn G where
  own := by rw [slv_snoc]; exact hown
  rows j hj := by
    have key : ∀ b, b < w.heap.size → some b ≠ v.ownBlock → ∀ g, Own w b Wn g → Own w1 b Wn g := fun b hb hne g hO q hq => by
      have e1 : w1.heap[b]? = (w.alloc (.cells #[x] t)).heap[b]? := hg.block b (by simp; omega) hne
      have e2 : (w.alloc (.cells #[x] t)).heap[b]? = w.heap[b]? := ((Below.refl w.heap.size w).alloc (Nat.le_refl _) _).block b hb
      have e3 : w1.heap[b]? = w.heap[b]? := e1.trans e2
      exact ⟨(World.cell?_of_block (a := ⟨b, q, none⟩) e3).trans (hO q hq).1, (World.frozen?_of_block (a := ⟨b, q, none⟩) e3).trans (hO q hq).2⟩
    by_cases e : j = n
    · subst e; simp only [if_true]; exact key R hR.2 hRv _ hO
    · simp only [e, if_false]
      have hl := h.lt j (by omega)
      exact key (r j) hl.2.1 hl.2.2 _ (h.rows j (by omega))
  lt j hj := by
    have hs : w.heap.size + 1 ≤ w1.heap.size := by have := hg.size; simpa using this
    have key : ∀ b, b < w.heap.size → some b ≠ v.ownBlock → some b ≠ v'.ownBlock := fun b hb hne => by
      rcases hat with e | e
      · rw [e]; exact hne
      · rw [e]; intro x; injection x with x; omega
    by_cases e : j = n
    · subst e; simp only [if_true]; exact ⟨hR.1, by omega, key R hR.2 hRv⟩
    · simp only [e, if_false]
      have hl := h.lt j (by omega)
      exact ⟨hl.1, by omega, key (r j) hl.2.1 hl.2.2⟩
/-- A list of q numbers, with noughts behind it. -/
def pad (q : Nat) (g : Nat → Nat) : Nat → Nat := fun i => if i < q then g i else 0
theorem pad_le {q : Nat} {g : Nat → Nat} (h : ∀ i, i < q → g i ≤ 1000) (i : Nat) : pad q g i ≤ 1000 := by
  unfold pad; split
  · exact h i (by assumption)
  · omega
theorem pad_key {q : Nat} {g h : Nat → Nat} (h40 : q ≤ 40) (hg : ∀ i, i < q → g i ≤ 1000) (hh : ∀ i, i < q → h i ≤ 1000) : kQ (pad q g) = kQ (pad q h) ↔ ∀ i, i < q → g i = h i := by
  constructor
  · intro e i hi
    have := kQ_inj (fun i _ => pad_le hg i) (fun i _ => pad_le hh i) e i (by omega)
    simpa [pad, hi] using this
  · intro e
    apply kQ_congr
    intro i _
    unfold pad; split
    · exact e i (by assumption)
    · rfl
theorem keyI_some {n : Nat} (h : n ≤ 1000) : plainElem (H := Unit) Tryz.prog 3 (.int .i64 (n : Nat)) = some (.lit (.int .i64 (n : Nat)), []) := plainElem_int Tryz.underlying3 (small_wf h)
/-- A shelf at S: its map, its lists. -/
structure SB (w : World) (base S : Nat) (m : Option Nat) (D : DataW Unit) (v : Value) (r : Nat → Nat) (n q : Nat) (G : Nat → Nat → Nat) : Prop where
  c0 : w.cell? ⟨S, 0, none⟩ = some (.map m)
  f0 : w.frozen? ⟨S, 0, none⟩ = false
  c1 : w.cell? ⟨S, 1, none⟩ = some v
  f1 : w.frozen? ⟨S, 1, none⟩ = false
  rows : CR w base v r n q G
  map : ∀ Bm, m = some Bm → w.ownsMap Tryz.prog 112 (plainElem Tryz.prog 3) Bm n D ∧ base ≤ Bm
  nil : m = none → n = 0 ∧ D = .map []
  has : ∀ g : Nat → Nat, Maps.has D (kQ g) = true ↔ ∃ j, j < n ∧ kQ (pad q (G j)) = kQ g
  le : ∀ j, j < n → ∀ i, i < q → G j i ≤ 1000
  base_le : base ≤ S
  sv : some S ≠ v.ownBlock
  sr : ∀ j, j < n → r j ≠ S
  ms : ∀ Bm, m = some Bm → Bm ≠ S ∧ some Bm ≠ v.ownBlock ∧ ∀ j, j < n → r j ≠ Bm
theorem SB.lt {w : World} {base S : Nat} {m : Option Nat} {D : DataW Unit} {v : Value} {r : Nat → Nat} {n q : Nat} {G : Nat → Nat → Nat} (h : SB w base S m D v r n q G) : S < w.heap.size := World.block_lt_of_cell? _ _ h.c0
theorem SB.step {w w' : World} {base S : Nat} {m : Option Nat} {D : DataW Unit} {v : Value} {r : Nat → Nat} {n q : Nat} {G : Nat → Nat → Nat} (h : SB w base S m D v r n q G) (hb : Below w.heap.size w w') : SB w' base S m D v r n q G :=
  { h with
    c0 := (hb.cell (p := ⟨S, 0, none⟩) h.lt).trans h.c0
    f0 := (hb.frozen (p := ⟨S, 0, none⟩) h.lt).trans h.f0
    c1 := (hb.cell (p := ⟨S, 1, none⟩) h.lt).trans h.c1
    f1 := (hb.frozen (p := ⟨S, 1, none⟩) h.lt).trans h.f1
    rows := h.rows.step hb
    map := fun Bm e => ⟨(h.map Bm e).1.kept ⟨hb.os, hb.tape, hb.output, hb.size, fun k hk _ => hb.block k hk⟩ (row := none) (by simp), (h.map Bm e).2⟩ }
/-- A shelf that has nothing yet. -/
theorem SB.new {w : World} {base S : Nat} (q : Nat) (hS : base ≤ S) (c0 : w.cell? ⟨S, 0, none⟩ = some (.map none)) (f0 : w.frozen? ⟨S, 0, none⟩ = false) (c1 : w.cell? ⟨S, 1, none⟩ = some (.slice none 0 0)) (f1 : w.frozen? ⟨S, 1, none⟩ = false) (G : Nat → Nat → Nat) :
    SB w base S none (.map []) (.slice none 0 0) (fun _ => 0) 0 q G where
  c0 := c0
  f0 := f0
  c1 := c1
  f1 := f1
  rows := ⟨World.ownsRow_nil _ _ _ _, fun j hj => absurd hj (Nat.not_lt_zero _), fun j hj => absurd hj (Nat.not_lt_zero _)⟩
  map Bm e := nomatch e
  nil _ := ⟨rfl, rfl⟩
  has g := by simp [has_eq]
  le j hj := absurd hj (Nat.not_lt_zero _)
  base_le := hS
  sv := by simp [Value.ownBlock]
  sr j hj := absurd hj (Nat.not_lt_zero _)
  ms Bm e := nomatch e
/-- The map is made. -/
theorem SB.made {w : World} {base S : Nat} {D : DataW Unit} {v : Value} {r : Nat → Nat} {n q : Nat} {G : Nat → Nat → Nat} (h : SB w base S none D v r n q G) :
    SB ((w.alloc (.map #[] 0)).setCell ⟨S, 0, none⟩ (.map (some w.heap.size))) base S (some w.heap.size) D v r n q G := by
  obtain ⟨rfl, rfl⟩ := h.nil rfl
  have hlt := h.lt
  have h1 := h.step (w' := w.alloc (.map #[] 0)) ((Below.refl _ _).alloc (Nat.le_refl _) _)
  have hb := Below.setCell (Below.refl S (w.alloc (.map #[] 0))) (p := ⟨S, 0, none⟩) (Nat.le_refl _) (.map (some w.heap.size))
  have hm : (w.alloc (.map #[] 0)).ownsMap Tryz.prog 112 (plainElem (H := Unit) Tryz.prog 3) w.heap.size 0 (.map []) := World.ownsMap_made _ _ _ _
  have hblk : ∀ b, b ≠ S → ((w.alloc (.map #[] 0)).setCell ⟨S, 0, none⟩ (.map (some w.heap.size))).heap[b]? = (w.alloc (.map #[] 0)).heap[b]? := fun b hne => Below.heap_setCell _ _ _ _ hne
  have hg : (w.alloc (.map #[] 0)).grownBy ((w.alloc (.map #[] 0)).setCell ⟨S, 0, none⟩ (.map (some w.heap.size))) (some S) := ⟨hb.os, hb.tape, hb.output, hb.size, fun k _ hne => hblk k (fun e => hne (congrArg some e))⟩
  exact { h1 with
    c0 := World.cell?_setCell_same _ _ _ h1.c0
    f0 := by rw [World.frozen?_setCell]; exact h1.f0
    c1 := by rw [World.cell?_setCell_other _ _ _ _ (by simp)]; exact h1.c1
    f1 := by rw [World.frozen?_setCell]; exact h1.f1
    rows := h1.rows.far hg (fun k e => by injection e with e; subst e; exact fun x => h.sv x.symm) (fun j hj => absurd hj (Nat.not_lt_zero _))
    map := fun Bm e => by
      injection e with e; subst e
      exact ⟨hm.kept hg (fun x => by injection x with x; omega), Nat.le_trans h.base_le (Nat.le_of_lt hlt)⟩
    nil := fun e => nomatch e
    ms := fun Bm e => by
      injection e with e; subst e
      refine ⟨by omega, fun x => ?_, fun j hj => absurd hj (Nat.not_lt_zero _)⟩
      have := (h.rows.own.lt _ x.symm).2
      omega }
/-- One list more. -/
theorem SB.more {w w1 w2 : World} {base S Bm R : Nat} {D : DataW Unit} {v v' x : Value} {r : Nat → Nat} {n q : Nat} {G : Nat → Nat → Nat} {g : Nat → Nat} {t : TypeId} (h : SB w base S (some Bm) D v r n q G)
    (hR : base ≤ R ∧ R < w.heap.size) (hRv : some R ≠ v.ownBlock) (hRS : R ≠ S) (hRm : R ≠ Bm) (hO : Own w R q g) (hg1000 : ∀ i, i < q → g i ≤ 1000)
    (hm : w1.ownsMap Tryz.prog 112 (plainElem Tryz.prog 3) Bm (n + 1) (D.put (kQ (pad q g)) (.lit (.int .i64 (n : Nat))))) (hg1 : w.grownBy w1 (some Bm))
    (hown : w2.ownsRow base 22 1 v' (n + 1) (slv r q n ++ [.slice (some ⟨R, 0, none⟩) q q])) (hg2 : (w1.alloc (.cells #[x] t)).grownBy w2 v.ownBlock) (hat : v'.ownBlock = v.ownBlock ∨ v'.ownBlock = some (w1.heap.size + 1)) :
    SB (w2.setCell ⟨S, 1, none⟩ v') base S (some Bm) (D.put (kQ (pad q g)) (.lit (.int .i64 (n : Nat)))) v' (fun j => if j = n then R else r j) (n + 1) q (fun j => if j = n then g else G j) ∧ Below base w (w2.setCell ⟨S, 1, none⟩ v') := by
  obtain ⟨hms, hmv, hmr⟩ := h.ms Bm rfl
  obtain ⟨hmap, hbm⟩ := h.map Bm rfl
  have hmlt := hmap.lt
  have hlt := h.lt
  have hs1 := hg1.size
  have hs2 : w1.heap.size + 1 ≤ w2.heap.size := by have := hg2.size; simpa using this
  have hcr1 : CR w1 base v r n q G := h.rows.far hg1 (fun k e x => by injection e with e; subst e; exact hmv x.symm) (fun j hj e => hmr j hj (Option.some.inj e))
  have hcr1' : CR w1 base v r n q (fun j => if j = n then g else G j) := ⟨hcr1.own, fun j hj => by rw [if_neg (by omega)]; exact hcr1.rows j hj, hcr1.lt⟩
  have hO1 : Own w1 R q (if n = n then g else G n) := by rw [if_pos rfl]; exact hO.far hg1 (fun e => hRm (Option.some.inj e))
  have hcr2 : CR w2 base v' (fun j => if j = n then R else r j) (n + 1) q (fun j => if j = n then g else G j) := hcr1'.app ⟨hR.1, by omega⟩ hRv hO1 hown hg2 hat
  -- blocks
  have hal : ∀ b, b < w1.heap.size → (w1.alloc (.cells #[x] t)).heap[b]? = w1.heap[b]? := fun b hb => ((Below.refl w1.heap.size w1).alloc (Nat.le_refl _) _).block b hb
  have hb2 : ∀ b, b < w1.heap.size → some b ≠ v.ownBlock → w2.heap[b]? = w1.heap[b]? := fun b hb hne => (hg2.block b (by simp; omega) hne).trans (hal b hb)
  have hb1 : ∀ b, b < w.heap.size → b ≠ Bm → w1.heap[b]? = w.heap[b]? := fun b hb hne => hg1.block b hb (fun e => hne (Option.some.inj e))
  have hS2 : w2.heap[S]? = w.heap[S]? := (hb2 S (by omega) h.sv).trans (hb1 S hlt (fun e => hms e.symm))
  have hM2 : w2.heap[Bm]? = w1.heap[Bm]? := hb2 Bm (by omega) hmv
  have hvle : ∀ k, v.ownBlock = some k → base ≤ k ∧ k < w.heap.size := fun k e => h.rows.own.lt k e
  have hSv' : some S ≠ v'.ownBlock := by
    rcases hat with e | e
    · rw [e]; exact h.sv
    · rw [e]; intro x; injection x with x; omega
  have hmv' : some Bm ≠ v'.ownBlock := by
    rcases hat with e | e
    · rw [e]; exact hmv
    · rw [e]; intro x; injection x with x; omega
  have hg3 : w2.grownBy (w2.setCell ⟨S, 1, none⟩ v') (some S) := by
    have hb := Below.setCell (Below.refl S w2) (p := ⟨S, 1, none⟩) (Nat.le_refl _) v'
    exact ⟨hb.os, hb.tape, hb.output, hb.size, fun k _ hne => Below.heap_setCell _ _ _ _ (fun e => hne (congrArg some e))⟩
  have c0 : w2.cell? ⟨S, 0, none⟩ = some (.map (some Bm)) := (World.cell?_of_block (a := ⟨S, 0, none⟩) hS2).trans h.c0
  have f0 : w2.frozen? ⟨S, 0, none⟩ = false := (World.frozen?_of_block (a := ⟨S, 0, none⟩) hS2).trans h.f0
  have c1 : w2.cell? ⟨S, 1, none⟩ = some v := (World.cell?_of_block (a := ⟨S, 1, none⟩) hS2).trans h.c1
  have f1 : w2.frozen? ⟨S, 1, none⟩ = false := (World.frozen?_of_block (a := ⟨S, 1, none⟩) hS2).trans h.f1
  have hm2 : w2.ownsMap Tryz.prog 112 (plainElem Tryz.prog 3) Bm (n + 1) (D.put (kQ (pad q g)) (.lit (.int .i64 (n : Nat)))) := by
    obtain ⟨es, clock, hh, hrest⟩ := hm
    exact ⟨es, clock, hM2.trans hh, hrest⟩
  refine ⟨{
    c0 := by rw [World.cell?_setCell_other _ _ _ _ (by simp)]; exact c0
    f0 := by rw [World.frozen?_setCell]; exact f0
    c1 := World.cell?_setCell_same _ _ _ c1
    f1 := by rw [World.frozen?_setCell]; exact f1
    rows := hcr2.far hg3 (fun k e x => by injection e with e; subst e; exact hSv' x.symm) (fun j hj e => by
      have e2 := Option.some.inj e
      by_cases hj2 : j = n
      · subst hj2; simp at e2; exact hRS e2
      · simp [hj2] at e2; exact h.sr j (by omega) e2)
    map := fun B e => by
      injection e with e; subst e
      exact ⟨hm2.kept hg3 (fun e => hms (Option.some.inj e)), hbm⟩
    nil := fun e => nomatch e
    has := fun y => by
      by_cases e : kQ y = kQ (pad q g)
      · rw [e, has_put_same hmap.isMap (kQ_key _)]
        simp only [true_iff]
        exact ⟨n, by omega, by simp⟩
      · rw [has_put_other e, h.has y]
        constructor
        · rintro ⟨j, hj, hk⟩
          exact ⟨j, by omega, by simp only [show ¬ j = n by omega, if_false]; exact hk⟩
        · rintro ⟨j, hj, hk⟩
          by_cases hj2 : j = n
          · subst hj2; simp at hk; exact absurd hk.symm e
          · simp only [hj2, if_false] at hk; exact ⟨j, by omega, hk⟩
    le := fun j hj i hi => by
      by_cases hj2 : j = n
      · simp only [hj2, if_true]; exact hg1000 i hi
      · simp only [hj2, if_false]; exact h.le j (by omega) i hi
    base_le := h.base_le
    sv := hSv'
    sr := fun j hj => by
      by_cases hj2 : j = n
      · simp only [hj2, if_true]; exact hRS
      · simp only [hj2, if_false]; exact h.sr j (by omega)
    ms := fun B e => by
      injection e with e; subst e
      refine ⟨hms, hmv', fun j hj => ?_⟩
      by_cases hj2 : j = n
      · simp only [hj2, if_true]; exact hRm
      · simp only [hj2, if_false]; exact hmr j (by omega) }, ?_⟩
  have hbw : Below base w w2 := by
    refine ⟨?_, ?_, ?_, by omega, fun b hb => ?_⟩
    · exact hg2.os.trans hg1.os
    · exact hg2.tape.trans hg1.tape
    · exact hg2.output.trans hg1.output
    · have hb0 : base ≤ w.heap.size := Nat.le_trans h.base_le (Nat.le_of_lt hlt)
      exact (hb2 b (by omega) (fun e => by have := (hvle b e.symm).1; omega)).trans (hb1 b (by omega) (fun e => by omega))
  exact hbw.setCell (p := ⟨S, 1, none⟩) h.base_le _
end Go.Proofs.YthhnngmfbbljaaaGreat
