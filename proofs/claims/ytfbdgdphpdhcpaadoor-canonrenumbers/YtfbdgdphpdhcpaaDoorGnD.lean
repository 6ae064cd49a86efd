/-
  The functions that goroutine 0 calls by itself; its rules. Condition: none.
  grown's pieces, alone: the beginning. Conditions: a list of orders.
  grown's pieces, alone: what comes is gathered. Conditions: as told.
  grown, its first loop: a worker for each form. Conditions: the forms are orders of four points at most.
-/
import Derived.Test.YtfbdgdphpdhcpaaDoorGrR
import Derived.Deep.OwnRows
import Derived.Maps.AppendAt
namespace Go.Proofs.YtfbdgdphpdhcpaaDoor
open Go Go.Conc Go.RowKit Sm
set_option maxRecDepth 100000

/-- All functions but those that start goroutines, and their callers. -/
abbrev afs : List Nat := (List.range 87).filter fun f => !([0, 1, 2, 3, 4, 5, 6, 7, 8, 12, 22, 36, 49].contains f)
theorem afs_ok : afs.all (funcB Tryd.prog afs cgs) = true := by kernel_rfl
abbrev Mc (Fin : Value → World → Prop) (K : World) (r : Nat → Nat → Prop) (v : World) (ch : Nat → Option (List (List Nat))) (X : Option Nat) (g : Goroutine) : Prop := MV Tryd.prog afs cgs OMsg Fin K r v ch X g
section
variable {Fin : Value → World → Prop} {K : World} {r : Nat → Nat → Prop} {v : World} {ch : Nat → Option (List (List Nat))} {X : Option Nat} {k : List Item} {fn : FuncId} {rc : List Frame}
theorem mmv {f f' : Frame} (h : Mv Tryd.prog true f f') (hn : Mc Fin K r v ch X (G f' rc)) : Mc Fin K r v ch X (G f rc) := MV.mv rfl (h rc) hn
theorem mpiece {cd : Code} (hin : ∃ f, Tryd.prog.funcs[fn]? = some f) (hB : itemB Tryd.prog afs cgs (.code cd) = true) (hg : ∀ g ∈ cgs, r g g) {tm tm' : Array Value} (ht : XR (Rg Tryd.prog afs cgs r) tm tm') {Q : Act → World → Prop}
    (H : ∀ τ, cd.wp Tryd.prog (fun e a w => e = .normal ∧ a.defers = [] ∧ Q a w) ⟨tm, []⟩ (tap τ v)) (hn : ∀ r' v1 tm1 tm1', (∀ b b', r b b' → r' b b') → XR (Rg Tryd.prog afs cgs r') tm1 tm1' → Q ⟨tm1, []⟩ v1 → Mc Fin K r' v1 ch none (G (fF fn tm1' k [] .normal) rc)) :
    Mc Fin K r v ch none (G (fF fn tm' (.code cd :: k) [] .normal) rc) :=
  MV.piece tryd_zs afs_ok hg hin hB ht (Q := fun a w => a.defers = [] ∧ Q a w) (fun τ => piece_of_wp (by
    have h := H τ
    intro b k cs
    obtain ⟨e, a, w, ⟨h1, h2, h3⟩, h4⟩ := h b k cs
    exact ⟨e, a, w, ⟨h1, h2, h2, h3⟩, h4⟩)) (by decide) fun r' v1 a x' hr hx hq => by
    obtain ⟨tm1, D1⟩ := a
    have hd : D1 = [] := hq.1
    subst hd
    exact hn r' v1 tm1 x' hr hx hq.2
/-- What is left of a region, as a piece. -/
theorem mrest {ops : Array Oper} {l : List Nat} (hin : ∃ f, Tryd.prog.funcs[fn]? = some f) (hB : itemB Tryd.prog afs cgs (.inRegion ops l) = true) (hg : ∀ g ∈ cgs, r g g) {tm tm' : Array Value} (ht : XR (Rg Tryd.prog afs cgs r) tm tm') {Q : Act → World → Prop}
    (H : ∀ τ, ∃ a' v', a'.defers = [] ∧ Q a' v' ∧ Steps Tryd.prog (lone (pf fn ⟨tm, []⟩ [.inRegion ops l, mkI]) [dum] (tap τ v)) (lone (pf fn a' [mkI]) [dum] v')) (hn : ∀ r' v1 tm1 tm1', (∀ b b', r b b' → r' b b') → XR (Rg Tryd.prog afs cgs r') tm1 tm1' → Q ⟨tm1, []⟩ v1 → Mc Fin K r' v1 ch none (G (fF fn tm1' k [] .normal) rc)) :
    Mc Fin K r v ch none (G (fF fn tm' (.inRegion ops l :: k) [] .normal) rc) :=
  MV.piece tryd_zs afs_ok hg hin hB ht (Q := fun a w => a.defers = [] ∧ Q a w) (fun τ => by
    obtain ⟨a, w, h1, h2, h3⟩ := H τ
    exact ⟨a, w, h1, ⟨h1, h2⟩, h3⟩) (by decide) fun r' v1 a x' hr hx hq => by
    obtain ⟨tm1, D1⟩ := a
    have hd : D1 = [] := hq.1
    subst hd
    exact hn r' v1 tm1 x' hr hx hq.2
theorem mval (hg : ∀ g ∈ cgs, r g g) {ops : Array Oper} {i : Nat} {rest : List Nat} {o : Oper} {tm tm' : Array Value} {v1 : World} (ho : ops[i]? = some o) (hx : opB Tryd.prog afs cgs o.op = true) (hgd : o.guard = none) (ht : XR (Rg Tryd.prog afs cgs r) tm tm')
    {nx : Next} {x : Value} (hv : Vl nx x) (hr : ∀ τ, (execOp (Act.eval ⟨tm, []⟩) o).run Tryd.prog (tap τ v) = .ok nx (tap τ v1))
    (hn : ∀ r' tm1', (∀ b b', r b b' → r' b b') → XR (Rg Tryd.prog afs cgs r') (Act.put ⟨tm, []⟩ o.dst x).tmps tm1' → Mc Fin K r' v1 ch X (G (fF fn tm1' (.inRegion ops rest :: k) [] .normal) rc)) : Mc Fin K r v ch X (G (fF fn tm' (.inRegion ops (i :: rest) :: k) [] .normal) rc) :=
  MV.val tryd_zs afs_ok hg (by decide) ho hx (by unfold Region.wanted; rw [hgd]) ht hv hr hn
/-- Of a channel that is not handed on yet more is known. -/
theorem mxnone {c : Nat} {g : Goroutine} (h : ch c = none → Mc Fin K r v ch (some c) g) : Mc Fin K r v ch (some c) g := fun w hk hop hw hc hX => h (hX c rfl).2.2.2 w hk hop hw hc hX
end
end Go.Proofs.YtfbdgdphpdhcpaaDoor
namespace Go.Proofs.YtfbdgdphpdhcpaaDoor
open Go Go.Conc Go.RowKit Sm
set_option maxRecDepth 100000

/-- grown's code. -/
def IsN (C : Code) : Prop := C = Tryd.f36.body.getD .skip
theorem gn_shape {C : Code} (hC : IsN C) : C = .seq (atc [0] C) (.seq (atc [1, 0] C) (.seq (.seq (atc [1, 1, 0, 0] C) (.block 0 (.loop (.seq (atc [1, 1, 0, 1, 2, 2, 0] C) (.seq (.cond (.tmp 16) .skip (.exit 0)) (.seq (.block 1 (.seq (atc [1, 1, 0, 1, 2, 2, 1, 1, 0, 2, 0] C) (.seq (atc [1, 1, 0, 1, 2, 2, 1, 1, 0, 2, 1, 0] C) (atc [1, 1, 0, 1, 2, 2, 1, 1, 0, 2, 1, 1] C)))) (atc [1, 1, 0, 1, 2, 2, 1, 1, 1] C)))))))
    (.seq (atc [1, 1, 1, 0] C) (.seq (.seq (atc [1, 1, 1, 1, 0, 0] C) (.block 2 (.loop (.seq (atc [1, 1, 1, 1, 0, 1, 2, 2, 0] C) (.seq (.cond (.tmp 33) .skip (.exit 2)) (.seq (.block 3 (.seq (atc [1, 1, 1, 1, 0, 1, 2, 2, 1, 1, 0, 2, 0] C) (.seq (atc [1, 1, 1, 1, 0, 1, 2, 2, 1, 1, 0, 2, 1, 0] C) (.block 4 (.loop (.seq (atc [1, 1, 1, 1, 0, 1, 2, 2, 1, 1, 0, 2, 1, 1, 2, 2, 0] C) (.seq (.cond (.tmp 38) .skip (.exit 4)) (.block 5 (.seq (atc [1, 1, 1, 1, 0, 1, 2, 2, 1, 1, 0, 2, 1, 1, 2, 2, 1, 1, 2, 0] C) (atc [1, 1, 1, 1, 0, 1, 2, 2, 1, 1, 0, 2, 1, 1, 2, 2, 1, 1, 2, 1] C)))))))))) (atc [1, 1, 1, 1, 0, 1, 2, 2, 1, 1, 1] C)))))))
      (.seq (atc [1, 1, 1, 1, 1, 0] C) (.seq (atc [1, 1, 1, 1, 1, 1, 0] C) .ret)))))) := by
  rw [hC]
  kernel_rfl
abbrev gnl : List (List Nat) := [[0], [1, 0], [1, 1, 0, 0], [1, 1, 0, 1, 2, 2, 0], [1, 1, 0, 1, 2, 2, 1, 1, 0, 2, 0], [1, 1, 0, 1, 2, 2, 1, 1, 1], [1, 1, 1, 0], [1, 1, 1, 1, 0, 0], [1, 1, 1, 1, 0, 1, 2, 2, 0], [1, 1, 1, 1, 0, 1, 2, 2, 1, 1, 0, 2, 0], [1, 1, 1, 1, 0, 1, 2, 2, 1, 1, 0, 2, 1, 0],
  [1, 1, 1, 1, 0, 1, 2, 2, 1, 1, 0, 2, 1, 1, 2, 2, 1, 1, 2, 0], [1, 1, 1, 1, 0, 1, 2, 2, 1, 1, 0, 2, 1, 1, 2, 2, 1, 1, 2, 1], [1, 1, 1, 1, 0, 1, 2, 2, 1, 1, 1], [1, 1, 1, 1, 1, 0], [1, 1, 1, 1, 1, 1, 0]]
theorem gn_item : (gnl.all fun l => itemB Tryd.prog afs cgs (.code (atc l (Tryd.f36.body.getD .skip)))) = true := by kernel_rfl
theorem gn_ok {C : Code} (hC : IsN C) {l : List Nat} (h : l ∈ gnl) : itemB Tryd.prog afs cgs (.code (atc l C)) = true := by
  rw [hC]
  exact List.all_eq_true.1 gn_item l h
/-- The beginning: nothing yet. -/
theorem gn_r0 (tm : Array Value) (v : World) : (atc [0] (Tryd.f36.body.getD .skip)).wp Tryd.prog (fun e s w => e = .normal ∧ s.defers = [] ∧ HB v w ∧ s.tmps = tm.setIfInBounds 2 (.slice none 0 0)) ⟨tm, []⟩ v := by
  simp only [Tryd.f36, Option.getD_some, atc]
  go_wp2_with fail
  exact HB.refl _
/-- The cells of a row of m channels, the first of which have been made. -/
def chv (cs : List Nat) (m : Nat) : Array Value := ((cs.map fun c => Value.chan (some c)) ++ List.replicate (m - cs.length) (Value.chan none)).toArray
theorem chv_size {cs : List Nat} {m : Nat} (h : cs.length ≤ m) : (chv cs m).size = m := by simp [chv]; omega
theorem chv_at {cs : List Nat} {m i : Nat} (h : i < cs.length) : (chv cs m)[i]? = some (.chan (cs[i]?)) := by
  simp only [chv, List.getElem?_toArray]
  rw [List.getElem?_append_left (by simpa using h)]
  simp [h]
theorem chv_set {cs : List Nat} {m : Nat} (h : cs.length < m) (c : Nat) : (chv cs m).setIfInBounds cs.length (.chan (some c)) = chv (cs ++ [c]) m := by
  simp only [chv, List.setIfInBounds_toArray]
  congr 1
  rw [List.set_append_right _ _ (by simp)]
  obtain ⟨d, hd⟩ : ∃ d, m - cs.length = d + 1 := ⟨m - cs.length - 1, by omega⟩
  rw [hd, List.replicate_succ]
  simp
  omega
theorem made_chv (m : Nat) : madeCells #[Value.chan none] m = chv [] m := by
  refine Array.ext (by simp [size_madeCells, chv]) fun i h1 h2 => ?_
  have e : i % 1 = 0 := Nat.mod_one i
  simp [madeCells, chv, e]
def ChR (w : World) (b : Nat) (cs : List Nat) (m : Nat) : Prop := w.heap[b]? = some (.cells (chv cs m) 70 (0, 0))
/-- A row of channels. -/
theorem gn_r1 (tm : Array Value) (q : Option Addr) (m cap : Nat) (v : World) (hs : tm.size = 49) (h0 : tm[0]? = some (.slice q m cap)) (hm : m ≤ 1000) :
    (atc [1, 0] (Tryd.f36.body.getD .skip)).wp Tryd.prog (fun e s w => e = .normal ∧ s.defers = [] ∧ HB v w ∧ s.tmps.size = 49 ∧ s.tmps[3]? = some (.slice (some ⟨v.heap.size, 0, none⟩) m m) ∧ (∀ i, i ≠ 3 → (i < 10 ∨ 12 < i) → s.tmps[i]? = tm[i]?) ∧
      ChR w v.heap.size [] m) ⟨tm, []⟩ v := by
  have HS : Hid (tm.size = 49) := hs
  have s3 : 3 < tm.size := by omega
  have s10 : 10 < tm.size := by omega
  have s11 : 11 < tm.size := by omega
  have s12 : 12 < tm.size := by omega
  clear hs
  have hmk := run_make_row' (P := Tryd.prog) 69 70 (.chan none) 8 Tryd.underlying69 (by kernel_rfl) rfl .i64 .i64 m (by omega) (by omega) v
  rw [made_chv] at hmk
  simp only [Tryd.f36, Option.getD_some, atc]
  go_wp2_with fail
  refine ⟨HB.of (B := v.heap.size) ((Below.refl _ v).alloc (Nat.le_refl _) _) (Nat.le_refl _), HS.out, fun i h3 hi => ?_, heap_new _ _⟩
  repeat rw [Array.getElem?_setIfInBounds_ne (by omega)]
theorem gn_r2 (tm : Array Value) (q : Option Addr) (m cap : Nat) (v : World) (hs : tm.size = 49) (h0 : tm[0]? = some (.slice q m cap)) :
    (atc [1, 1, 0, 0] (Tryd.f36.body.getD .skip)).wp Tryd.prog (fun e s w => e = .normal ∧ s.defers = [] ∧ HB v w ∧ s.tmps = ((tm.setIfInBounds 13 (.slice q m cap)).setIfInBounds 14 (.int .i64 (m : Nat))).setIfInBounds 15 (.int .i64 0)) ⟨tm, []⟩ v := by
  have s13 : 13 < tm.size := by omega
  clear hs
  simp only [Tryd.f36, Option.getD_some, atc]
  go_wp2_with fail
  exact HB.refl _
theorem gn_r3 (tm : Array Value) (i l : Nat) (v : World) (h15 : tm[15]? = some (.int .i64 (i : Nat))) (h14 : tm[14]? = some (.int .i64 (l : Nat))) :
    (atc [1, 1, 0, 1, 2, 2, 0] (Tryd.f36.body.getD .skip)).wp Tryd.prog (fun e s w => e = .normal ∧ s.defers = [] ∧ HB v w ∧ s.tmps = tm.setIfInBounds 16 (.bool (decide ((i : Int) < (l : Int))))) ⟨tm, []⟩ v := by
  simp only [Tryd.f36, Option.getD_some, atc]
  go_wp2_with fail
  exact HB.refl _
theorem gn_r7 (tm : Array Value) (i : Nat) (v : World) (hs : tm.size = 49) (h15 : tm[15]? = some (.int .i64 (i : Nat))) (hi : i < 1000) :
    (atc [1, 1, 0, 1, 2, 2, 1, 1, 1] (Tryd.f36.body.getD .skip)).wp Tryd.prog (fun e s w => e = .normal ∧ s.defers = [] ∧ HB v w ∧ s.tmps = (tm.setIfInBounds 29 (.int .i64 ((i + 1 : Nat) : Int))).setIfInBounds 15 (.int .i64 ((i + 1 : Nat) : Int))) ⟨tm, []⟩ v := by
  have s29 : 29 < tm.size := by omega
  clear hs
  simp only [Tryd.f36, Option.getD_some, atc]
  go_wp2_with fail
  exact HB.refl _
/-- The next form is laid into a box. -/
theorem gn_r4 (tm : Array Value) (bf m cap i : Nat) (pn : Int) (qa : Option Addr) (ql qc : Nat) (v : World) (hs : tm.size = 49) (h13 : tm[13]? = some (.slice (some ⟨bf, 0, none⟩) m cap)) (h15 : tm[15]? = some (.int .i64 (i : Nat))) (hi : i < m) (c0 : v.cell? ⟨bf, 2 * i, none⟩ = some (.int .i64 pn)) (c1 : v.cell? ⟨bf, 2 * i + 1, none⟩ = some (.slice qa ql qc)) :
    (atc [1, 1, 0, 1, 2, 2, 1, 1, 0, 2, 0] (Tryd.f36.body.getD .skip)).wp Tryd.prog (fun e s w => e = .normal ∧ s.defers = [] ∧ HB v w ∧ s.tmps.size = 49 ∧ Bxd w v.heap.size #[.int .i64 pn, .slice qa ql qc] ∧ s.tmps[5]? = some (.pointer (some ⟨v.heap.size, 0, none⟩)) ∧ s.tmps[4]? = some (.int .i64 (i : Nat)) ∧ (∀ j, j ≠ 4 → j ≠ 5 → (j < 17 ∨ 19 < j) → s.tmps[j]? = tm[j]?)) ⟨tm, []⟩ v := by
  have HS : Hid (tm.size = 49) := hs
  have s4 : 4 < tm.size := by omega
  have s5 : 5 < tm.size := by omega
  have s17 : 17 < tm.size := by omega
  have s18 : 18 < tm.size := by omega
  have s19 : 19 < tm.size := by omega
  clear hs
  have c0' : v.cell? ⟨bf, i * 2, none⟩ = some (.int .i64 pn) := by rw [Nat.mul_comm]; exact c0
  have c1' : v.cell? ⟨bf, i * 2 + 1, none⟩ = some (.slice qa ql qc) := by rw [Nat.mul_comm]; exact c1
  clear c0 c1
  simp only [Tryd.f36, Option.getD_some, atc]
  go_wp2_with fail
  refine ⟨HB.of (B := v.heap.size) ((Below.refl _ v).alloc (Nat.le_refl _) _) (Nat.le_refl _), HS.out, heap_new _ _, fun j h4 h5 hj => ?_⟩
  repeat rw [Array.getElem?_setIfInBounds_ne (by omega)]
end Go.Proofs.YtfbdgdphpdhcpaaDoor
namespace Go.Proofs.YtfbdgdphpdhcpaaDoor
open Go Go.Conc Go.RowKit Sm
set_option maxRecDepth 100000

theorem gn_r8 (tm : Array Value) (v : World) : (atc [1, 1, 1, 0] (Tryd.f36.body.getD .skip)).wp Tryd.prog (fun e s w => e = .normal ∧ s.defers = [] ∧ HB v w ∧ s.tmps = tm.setIfInBounds 6 (.slice none 0 0)) ⟨tm, []⟩ v := by
  simp only [Tryd.f36, Option.getD_some, atc]
  go_wp2_with fail
  exact HB.refl _
theorem gn_r9 (tm : Array Value) (q : Option Addr) (m cap : Nat) (v : World) (hs : tm.size = 49) (h3 : tm[3]? = some (.slice q m cap)) :
    (atc [1, 1, 1, 1, 0, 0] (Tryd.f36.body.getD .skip)).wp Tryd.prog (fun e s w => e = .normal ∧ s.defers = [] ∧ HB v w ∧ s.tmps = ((tm.setIfInBounds 30 (.slice q m cap)).setIfInBounds 31 (.int .i64 (m : Nat))).setIfInBounds 32 (.int .i64 0)) ⟨tm, []⟩ v := by
  have s30 : 30 < tm.size := by omega
  clear hs
  simp only [Tryd.f36, Option.getD_some, atc]
  go_wp2_with fail
  exact HB.refl _
theorem gn_r10 (tm : Array Value) (i l : Nat) (v : World) (h32 : tm[32]? = some (.int .i64 (i : Nat))) (h31 : tm[31]? = some (.int .i64 (l : Nat))) :
    (atc [1, 1, 1, 1, 0, 1, 2, 2, 0] (Tryd.f36.body.getD .skip)).wp Tryd.prog (fun e s w => e = .normal ∧ s.defers = [] ∧ HB v w ∧ s.tmps = tm.setIfInBounds 33 (.bool (decide ((i : Int) < (l : Int))))) ⟨tm, []⟩ v := by
  simp only [Tryd.f36, Option.getD_some, atc]
  go_wp2_with fail
  exact HB.refl _
theorem gn_r16 (tm : Array Value) (i : Nat) (v : World) (hs : tm.size = 49) (h32 : tm[32]? = some (.int .i64 (i : Nat))) (hi : i < 1000) :
    (atc [1, 1, 1, 1, 0, 1, 2, 2, 1, 1, 1] (Tryd.f36.body.getD .skip)).wp Tryd.prog (fun e s w => e = .normal ∧ s.defers = [] ∧ HB v w ∧ s.tmps = (tm.setIfInBounds 44 (.int .i64 ((i + 1 : Nat) : Int))).setIfInBounds 32 (.int .i64 ((i + 1 : Nat) : Int))) ⟨tm, []⟩ v := by
  have s44 : 44 < tm.size := by omega
  clear hs
  simp only [Tryd.f36, Option.getD_some, atc]
  go_wp2_with fail
  exact HB.refl _
/-- The next channel. -/
theorem gn_r11 (tm : Array Value) (bc m cap i : Nat) (c : Option Nat) (v : World) (hs : tm.size = 49) (h30 : tm[30]? = some (.slice (some ⟨bc, 0, none⟩) m cap)) (h32 : tm[32]? = some (.int .i64 (i : Nat))) (hi : i < m) (c0 : v.cell? ⟨bc, i, none⟩ = some (.chan c)) :
    (atc [1, 1, 1, 1, 0, 1, 2, 2, 1, 1, 0, 2, 0] (Tryd.f36.body.getD .skip)).wp Tryd.prog (fun e s w => e = .normal ∧ s.defers = [] ∧ HB v w ∧ ∃ z, s.tmps = ((tm.setIfInBounds 34 z).setIfInBounds 35 (.chan c)).setIfInBounds 8 (.chan c)) ⟨tm, []⟩ v := by
  have s34 : 34 < tm.size := by omega
  have s35 : 35 < tm.size := by omega
  clear hs
  simp only [Tryd.f36, Option.getD_some, atc]
  go_wp2_with fail
  exact ⟨HB.refl _, _, rfl⟩
theorem gn_r12 (tm : Array Value) (z : Value) (v : World) (h8 : tm[8]? = some z) : (atc [1, 1, 1, 1, 0, 1, 2, 2, 1, 1, 0, 2, 1, 0] (Tryd.f36.body.getD .skip)).wp Tryd.prog (fun e s w => e = .normal ∧ s.defers = [] ∧ HB v w ∧ s.tmps = tm.setIfInBounds 36 z) ⟨tm, []⟩ v := by
  simp only [Tryd.f36, Option.getD_some, atc]
  go_wp2_with fail
  exact HB.refl _
/-- What has come is laid into a box. -/
theorem gn_r14 (tm : Array Value) (pn : Int) (qa : Option Addr) (ql qc : Nat) (v : World) (hs : tm.size = 49) (h37 : tm[37]? = some (.tuple #[.agg #[.int .i64 pn, .slice qa ql qc], .bool true])) :
    (atc [1, 1, 1, 1, 0, 1, 2, 2, 1, 1, 0, 2, 1, 1, 2, 2, 1, 1, 2, 0] (Tryd.f36.body.getD .skip)).wp Tryd.prog (fun e s w => e = .normal ∧ s.defers = [] ∧ HB v w ∧ Bxd w v.heap.size #[.int .i64 pn, .slice qa ql qc] ∧ s.tmps.size = 49 ∧ s.tmps[9]? = some (.pointer (some ⟨v.heap.size, 0, none⟩)) ∧ (∀ j, j ≠ 9 → j ≠ 39 → s.tmps[j]? = tm[j]?)) ⟨tm, []⟩ v := by
  have HS : Hid (tm.size = 49) := hs
  have s9 : 9 < tm.size := by omega
  have s39 : 39 < tm.size := by omega
  clear hs
  simp only [Tryd.f36, Option.getD_some, atc]
  go_wp2_with fail
  refine ⟨HB.of (B := v.heap.size) ((Below.refl _ v).alloc (Nat.le_refl _) _) (Nat.le_refl _), heap_new _ _, HS.out, fun j h9 h39 => ?_⟩
  repeat rw [Array.getElem?_setIfInBounds_ne (by omega)]
theorem info24 : ∃ i0, Tryd.prog.info? 24 = some i0 ∧ i0.zero = some (.agg #[.int .i64 0, .slice none 0 0]) ∧ i0.size = 2 ∧ i0.bytes = 32 := by
  have h : (Tryd.prog.info? 24).map (fun i => (i.zero, i.size, i.bytes)) = some (some (.agg #[.int .i64 0, .slice none 0 0]), 2, 32) := by kernel_rfl
  obtain ⟨i, hi, hz⟩ := Option.map_eq_some_iff.1 h
  simp only [Prod.mk.injEq] at hz
  exact ⟨i, hi, hz.1, hz.2.1, hz.2.2⟩
/-- It is put behind the others. -/
theorem gn_r15 (tm : Array Value) (pn : Int) (qa : Option Addr) (ql qc b9 B n : Nat) (z : Value) (xs : List Value) (v : World) (hs : tm.size = 49) (h6 : tm[6]? = some z) (h9 : tm[9]? = some (.pointer (some ⟨b9, 0, none⟩))) (hb : Bxd v b9 #[.int .i64 pn, .slice qa ql qc])
    (hown : v.ownsRow B 24 2 z n xs) (hB : B ≤ v.heap.size) (hn : n ≤ 1000) :
    (atc [1, 1, 1, 1, 0, 1, 2, 2, 1, 1, 0, 2, 1, 1, 2, 2, 1, 1, 2, 1] (Tryd.f36.body.getD .skip)).wp Tryd.prog (fun e s w => e = .normal ∧ s.defers = [] ∧ s.tmps.size = 49 ∧ (∀ j, j ≠ 6 → (j < 40 ∨ 43 < j) → s.tmps[j]? = tm[j]?) ∧ v.heap.size ≤ w.heap.size ∧ (∀ b, b < v.heap.size → some b ≠ z.ownBlock → w.heap[b]? = v.heap[b]?) ∧
      ∃ z', s.tmps[6]? = some z' ∧ w.ownsRow B 24 2 z' (n + 1) (xs ++ [.int .i64 pn, .slice qa ql qc]) ∧ (z'.ownBlock = z.ownBlock ∨ ∃ b, z'.ownBlock = some b ∧ v.heap.size ≤ b)) ⟨tm, []⟩ v := by
  have HS : Hid (tm.size = 49) := hs
  have s6 : 6 < tm.size := by omega
  have s40 : 40 < tm.size := by omega
  have s41 : 41 < tm.size := by omega
  have s42 : 42 < tm.size := by omega
  have s43 : 43 < tm.size := by omega
  have c0 : v.cell? ⟨b9, 0, none⟩ = some (.int .i64 pn) := by unfold World.cell?; rw [show v.heap[b9]? = _ from hb]; rfl
  have c1 : v.cell? ⟨b9, 1, none⟩ = some (.slice qa ql qc) := by unfold World.cell?; rw [show v.heap[b9]? = _ from hb]; rfl
  have HO : Hid (v.ownsRow B 24 2 z n xs) := hown
  clear hs hb hown
  obtain ⟨i0, hi, hz0, hz1, hz2⟩ := info24
  simp only [Tryd.f36, Option.getD_some, atc]
  go_wp2_with (at_builtin; refine wpList_append_own_at _ rfl _ _ 45 rfl B 24 i0 (.agg #[.int .i64 0, .slice none 0 0]) 2 32 Tryd.underlying45 hi hz0 hz1 hz2 rfl (by decide) z n xs ?e1 (HO.out.alloc _) ⟨v.heap.size, 0, none⟩ 1 1 [.int .i64 pn, .slice qa ql qc] ?e2 rfl ?c1 ?c2 ?c3 ?c4 ?c5 ?_)
  case e1 =>
    have e6 : tm[6] = z := by rw [Array.getElem?_eq_getElem s6] at h6; exact Option.some.inj h6
    simp [Act.eval, e6, s40]
  case e2 => simp [Act.eval, s42]
  case c1 =>
    intro j u hj
    match j, hj with
    | 0, hj => simp at hj; subst hj; simp [Addr.add]
    | 1, hj => simp at hj; subst hj; simp [Addr.add]
  case c2 => intro u hu; simp at hu; rcases hu with rfl | rfl <;> rfl
  case c3 => unfold maxLen; omega
  case c4 => omega
  case c5 => simp; omega
  intro z' w2 hown' hgrow _ hwhere
  have HW : Hid (v.heap.size ≤ w2.heap.size ∧ (∀ b, b < v.heap.size → some b ≠ z.ownBlock → w2.heap[b]? = v.heap[b]?) ∧ w2.ownsRow B 24 2 z' (n + 1) (xs ++ [.int .i64 pn, .slice qa ql qc]) ∧ (z'.ownBlock = z.ownBlock ∨ ∃ b, z'.ownBlock = some b ∧ v.heap.size ≤ b)) := by
    refine ⟨by have := hgrow.size; simp at this; omega, fun b hb hz => (hgrow.block b (by simp; omega) hz).trans (Below.heap_alloc _ _ _ hb), hown', ?_⟩
    rcases hwhere with h | h
    · exact .inl h
    · exact .inr ⟨_, h, by simp⟩
  clear hown' hgrow hwhere
  go_wp2_with fail
  refine ⟨HS.out, fun j h6 hj => ?_, HW.out⟩
  repeat rw [Array.getElem?_setIfInBounds_ne (by omega)]
end Go.Proofs.YtfbdgdphpdhcpaaDoor
namespace Go.Proofs.YtfbdgdphpdhcpaaDoor
open Go Go.Conc Go.RowKit Sm
set_option maxRecDepth 100000

/-- A block of numbers alone that nobody may write. -/
def PureB (v : World) (b : Nat) : Prop := ∃ c t fr, v.heap[b]? = some (.cells c t fr) ∧ (∀ (i : Nat) u, c[i]? = some u → ∃ k n, u = .int k n) ∧ Sm.Shut (Obj.cells c t fr)
/-- An order by value. -/
def OVal (v : World) (o : List Nat) (x : Value) : Prop :=
  (o = [] ∧ x = .agg #[.int .i64 0, .slice none 0 0]) ∨ ∃ bl f, 0 < o.length ∧ o.length ≤ f ∧ v.heap[bl]? = some (.cells (rowC o) 3 (0, f)) ∧ x = .agg #[.int .i64 (o.length : Nat), .slice (some ⟨bl, 0, none⟩) o.length o.length]
/-- All blocks but those of one type are kept. -/
def HN (n : TypeId) (v w : World) : Prop := v.heap.size ≤ w.heap.size ∧ ∀ (b : Nat) c t fr, t ≠ n → v.heap[b]? = some (.cells c t fr) → w.heap[b]? = some (.cells c t fr)
theorem HB.hn {v w : World} (h : HB v w) (n : TypeId) : HN n v w := ⟨h.1, fun b _ _ _ _ q => (h.2 b (Array.getElem?_eq_some_iff.1 q).1).trans q⟩
theorem HN.trans {n : TypeId} {u v w : World} (h : HN n u v) (h' : HN n v w) : HN n u w := ⟨Nat.le_trans h.1 h'.1, fun b c t fr q1 q2 => h'.2 b c t fr q1 (h.2 b c t fr q1 q2)⟩
theorem HB.pure {v w : World} (h : HB v w) {b : Nat} (hb : PureB v b) : PureB w b := by
  obtain ⟨c, t, fr, h1, h2, h3⟩ := hb
  exact ⟨c, t, fr, (h.2 b (Array.getElem?_eq_some_iff.1 h1).1).trans h1, h2, h3⟩
theorem HN.oval {n : TypeId} (hn : n = 24 ∨ n = 70) {v w : World} (h : HN n v w) {o : List Nat} {x : Value} (hx : OVal v o x) : OVal w o x := by
  rcases hx with hx | ⟨bl, f, h1, h2, h3, h4⟩
  · exact .inl hx
  · exact .inr ⟨bl, f, h1, h2, h.2 _ _ _ _ (by rcases hn with rfl | rfl <;> decide) h3, h4⟩
theorem OVal.pure {v : World} {o : List Nat} {bl f : Nat} (h : v.heap[bl]? = some (.cells (rowC o) 3 (0, f))) (hf : o.length ≤ f) : PureB v bl := by
  refine ⟨_, _, _, h, fun i u hu => ?_, fun k hk => ⟨Nat.zero_le _, Nat.lt_of_lt_of_le hk (by simpa [rowC, natVals] using hf)⟩⟩
  unfold rowC natVals at hu
  simp only [List.getElem?_toArray, List.getElem?_map, Option.map_eq_some_iff] at hu
  obtain ⟨x, _, rfl⟩ := hu
  exact ⟨_, _, rfl⟩
/-- Less is named, all of it numbers. -/
theorem WR0.restrict {P : Program} {fs gs fs1 gs1 : List Nat} {r r1 : Nat → Nat → Prop} {v w : World} (h : WR0 (Rg P fs gs r) v w) (hr : ∀ b b', r1 b b' → r b b') (hp : ∀ b b', r1 b b' → PureB v b) : WR0 (Rg P fs1 gs1 r1) v w :=
  ⟨fun b c b' q1 q2 => h.inj b c b' (hr _ _ q1) (hr _ _ q2), fun b b' c' q1 q2 => h.fn b b' c' (hr _ _ q1) (hr _ _ q2), fun b b' q => h.dom b b' (hr _ _ q), fun b b' o q ho => by
    obtain ⟨o', h1, h2⟩ := h.obj b b' o (hr _ _ q) ho
    obtain ⟨c, t, fr, h3, h4, _⟩ := hp _ _ q
    rw [h3] at ho
    cases ho
    cases o' with
    | cells c' t' fr' =>
      obtain ⟨h5, h6, h7⟩ := h2
      refine ⟨_, h1, h5, ⟨h6.1, fun i u u' hl q1 q2 => ?_⟩, h7⟩
      obtain ⟨k, n, rfl⟩ := h4 i u q1
      have := h6.2 i _ _ hl q1 q2
      have e : u' = .int k n := this.out
      rw [e]
      exact VR.int _ _ _
    | _ => exact h2.elim, h.low, fun b b' q z => h.same b b' (hr _ _ q) z⟩
/-- A form that is handed to a worker. -/
def FOk (o : List Nat) : Prop := o.length ≤ 5 ∧ (∀ k, k < o.length → nth o k < 1024) ∧ Chk o.length o.length (fun k => (nth o k : Nat)) 0
/-- What is still to come over each channel. -/
def look : List (Nat × List (List Nat)) → Nat → Option (List (List Nat))
  | [], _ => none
  | p :: ps, d => if d = p.1 then some p.2 else look ps d
theorem look_snoc (ps : List (Nat × List (List Nat))) (c : Nat) (o : List (List Nat)) (h : look ps c = none) : updc (look ps) c (some o) = look (ps ++ [(c, o)]) := by
  funext d
  unfold updc
  induction ps with
  | nil => simp [look]
  | cons p ps ih =>
    simp only [List.cons_append, look] at h ⊢
    by_cases e1 : c = p.1
    · rw [if_pos e1] at h; cases h
    · rw [if_neg e1] at h
      have ih := ih h
      by_cases e2 : d = p.1
      · rw [if_pos e2, if_neg (fun e : d = c => e1 (e.symm.trans e2)), if_pos e2]
      · rw [if_neg e2, if_neg e2]; exact ih
theorem look_head (c : Nat) (o o2 : List (List Nat)) (ps : List (Nat × List (List Nat))) : updc (look ((c, o) :: ps)) c (some o2) = look ((c, o2) :: ps) := by
  funext d
  unfold updc
  simp only [look]
  by_cases e : d = c
  · rw [if_pos e, if_pos e]
  · rw [if_neg e, if_neg e, if_neg e]
theorem look_gone (c : Nat) (o : List (List Nat)) (ps : List (Nat × List (List Nat))) (h : look ps c = none) : updc (look ((c, o) :: ps)) c none = look ps := by
  funext d
  unfold updc
  simp only [look]
  by_cases e : d = c
  · rw [if_pos e, e, h]
  · rw [if_neg e, if_neg e]
theorem look_none {ps : List (Nat × List (List Nat))} {c : Nat} (h : c ∉ ps.map Prod.fst) : look ps c = none := by
  induction ps with
  | nil => rfl
  | cons p ps ih =>
    simp only [List.map_cons, List.mem_cons, not_or] at h
    simp only [look]
    rw [if_neg h.1]
    exact ih h.2
theorem look_not {ps : List (Nat × List (List Nat))} {c : Nat} (h : look ps c = none) : c ∉ ps.map Prod.fst := by
  induction ps with
  | nil => simp
  | cons p ps ih =>
    simp only [look] at h
    by_cases e : c = p.1
    · rw [if_pos e] at h; cases h
    · rw [if_neg e] at h
      simp only [List.map_cons, List.mem_cons, not_or]
      exact ⟨e, ih h⟩
/-- All orders in which a region's operations may come. -/
def goAll (md : Region.Mode) (ops : Array Oper) : Nat → Array Bool → List Nat → List (List Nat)
  | 0, _, acc => [acc.reverse]
  | fuel + 1, listed, acc =>
    let rs := (List.range ops.size).filter fun i => !listed.getD i true && ((ops[i]?).map (·.after.all fun e => !Region.binds md e || listed.getD e.on false)).getD false
    if rs = [] then [acc.reverse] else rs.flatMap fun i => goAll md ops fuel (listed.setIfInBounds i true) (i :: acc)
theorem go_all (md : Region.Mode) (ops : Array Oper) : ∀ (fuel t : Nat) (listed : Array Bool) (acc : List Nat), Region.linearise.go md ops fuel t listed acc ∈ goAll md ops fuel listed acc := by
  intro fuel
  induction fuel with
  | zero => intro t listed acc; simp [Region.linearise.go, goAll]
  | succ fuel ih =>
    intro t listed acc
    unfold Region.linearise.go goAll
    simp only
    generalize (List.range ops.size).filter (fun i => !listed.getD i true && ((ops[i]?).map (·.after.all fun e => !Region.binds md e || listed.getD e.on false)).getD false) = rs
    by_cases h : rs = []
    · rw [if_pos h]; subst h; simp
    · rw [if_neg h]
      have hpos : 0 < rs.length := List.length_pos_iff.2 h
      have hlt : t % rs.length < rs.length := Nat.mod_lt _ hpos
      rw [List.getElem?_eq_getElem hlt]
      simp only
      rw [List.mem_flatMap]
      exact ⟨_, List.getElem_mem hlt, ih _ _ _⟩
theorem sched_all {ops : Array Oper} {f : List Nat → Bool} (h : (goAll .any ops ops.size (Array.replicate ops.size false) []).all f = true) (t : Nat) : f (Region.schedule true ops t) = true := by
  have := go_all .any ops ops.size t (Array.replicate ops.size false) []
  exact List.all_eq_true.1 h _ this
end Go.Proofs.YtfbdgdphpdhcpaaDoor
