/-
  What the algebra's implies and not answer, when they are first asked and later. Conditions: a lattice of one to forty elements; the algebra is new, or its table is laid out.
-/
import Derived.Test.YtfkkjebgccnlnaaLayP
import Derived.Test.YtfkkjebgccnlnaaOncQ
namespace Go.Proofs.Ytfkkjebgccnlnaa
set_option maxRecDepth 100000
open Go.RowKit

/-- Where the lattice lies that an algebra was made of, in w0. -/
structure Base (w0 : World) (n b off b' off' : Nat) (R R' : Nat → Nat × Nat × Nat) (m j : Nat → Nat → Nat) : Prop where
  h1 : 1 ≤ n
  h40 : n ≤ 40
  lat : Lat n m j
  tm : ∀ w', Below w0.heap.size w0 w' → Tb w' b off n R m
  tj : ∀ w', Below w0.heap.size w0 w' → Tb w' b' off' n R' j
/-- The algebra, new. -/
structure AlgN (w0 : World) (A n b off ca b' off' cb : Nat) (w : World) : Prop where
  bel : Below A w0 w
  lb : LB w A (n : Nat) (some ⟨b, off, none⟩) n ca (some ⟨b', off', none⟩) n cb
  c3 : w.cell? ⟨A, 3, none⟩ = some (.int .u32 0)
  c4 : w.cell? ⟨A, 4, none⟩ = some (.int .i32 0)
  c6 : w.cell? ⟨A, 6, none⟩ = some (.slice none 0 0)
  fz : ∀ k, w.frozen? ⟨A, k, none⟩ = false
/-- The algebra, its table laid out. -/
structure AlgL (w0 : World) (A n b off ca b' off' cb : Nat) (f : Nat → Nat → Nat) (w : World) : Prop where
  bel : Below A w0 w
  lb : LB w A (n : Nat) (some ⟨b, off, none⟩) n ca (some ⟨b', off', none⟩) n cb
  c3 : w.cell? ⟨A, 3, none⟩ = some (.int .u32 1)
  tb : ∃ T R, w.cell? ⟨A, 6, none⟩ = some (.slice (some ⟨T, 0, none⟩) n n) ∧ Tb w T 0 n R f
/-- All but the block A is as it was. -/
structure But (A : Nat) (w w' : World) : Prop where
  os : w'.os = w.os
  tape : w'.tape = w.tape
  output : w'.output = w.output
  size : w.heap.size ≤ w'.heap.size
  block : ∀ k, k < w.heap.size → k ≠ A → w'.heap[k]? = w.heap[k]?
theorem But.refl (A : Nat) (w : World) : But A w w := ⟨rfl, rfl, rfl, Nat.le_refl _, fun _ _ _ => rfl⟩
theorem But.trans {A : Nat} {a b c : World} (h : But A a b) (k : But A b c) : But A a c :=
  ⟨k.os.trans h.os, k.tape.trans h.tape, k.output.trans h.output, Nat.le_trans h.size k.size, fun i hi ha => (k.block i (Nat.lt_of_lt_of_le hi h.size) ha).trans (h.block i hi ha)⟩
theorem But.of {A : Nat} {w w' : World} (h : Below w.heap.size w w') : But A w w' := ⟨h.os, h.tape, h.output, h.size, fun k hk _ => h.block k hk⟩
theorem But.set (A i : Nat) (w : World) (v : Value) : But A w (w.setCell ⟨A, i, none⟩ v) := ⟨rfl, rfl, rfl, by simp, fun _ _ ha => Below.heap_setCell _ _ _ _ ha⟩
theorem But.cell {A : Nat} {w w' : World} (h : But A w w') {p : Addr} (hp : p.block < w.heap.size) (ha : p.block ≠ A) : w'.cell? p = w.cell? p := World.cell?_of_block (w := w) (h.block p.block hp ha)
theorem But.below {A : Nat} {w w' : World} (h : But A w w') (hA : A ≤ w.heap.size) : Below A w w' := ⟨h.os, h.tape, h.output, h.size, fun k hk => h.block k (by omega) (by omega)⟩
theorem But.drew (A : Nat) (w : World) : But A w w.drew := But.of ((Below.refl _ _).drew)
theorem laid_but {A n : Nat} {f : Nat → Nat → Nat} {w w' : World} (hl : Laid (w.setCell ⟨A, 4, none⟩ (.int .i32 1)) A n f w') : But A w ((w'.drew.setCell ⟨A, 3, none⟩ (.int .u32 1)).setCell ⟨A, 4, none⟩ (.int .i32 0)) := by
  obtain ⟨V, h⟩ := hl.b2
  have h1 := But.set A 4 w (.int .i32 1)
  have h2 := But.set A 6 (w.setCell ⟨A, 4, none⟩ (.int .i32 1)) V
  have h3 : But A ((w.setCell ⟨A, 4, none⟩ (.int .i32 1)).setCell ⟨A, 6, none⟩ V) w' := But.of (h.mono (by simp))
  exact ((((h1.trans h2).trans h3).trans (But.drew A w')).trans (But.set A 3 _ _)).trans (But.set A 4 _ _)
section
variable {w0 w w' : World} {A n b off ca b' off' cb : Nat} {R R' : Nat → Nat × Nat × Nat} {m j f : Nat → Nat → Nat}
theorem AlgL.step (h : AlgL w0 A n b off ca b' off' cb f w) (hb : Below w.heap.size w w') : AlgL w0 A n b off ca b' off' cb f w' := by
  obtain ⟨T, R, h6, ht⟩ := h.tb
  have hlt : A < w.heap.size := World.block_lt_of_cell? _ _ h6
  exact ⟨h.bel.trans (hb.mono (Nat.le_of_lt hlt)), h.lb.step hb, cell_step hb h.c3, T, R, cell_step hb h6, ht.step hb⟩
theorem laid_alg (hN : AlgN w0 A n b off ca b' off' cb w) (hl : Laid (w.setCell ⟨A, 4, none⟩ (.int .i32 1)) A n f w') :
    AlgL w0 A n b off ca b' off' cb f ((w'.drew.setCell ⟨A, 3, none⟩ (.int .u32 1)).setCell ⟨A, 4, none⟩ (.int .i32 0)) := by
  have ne : ∀ i k : Nat, i ≠ k → (⟨A, i, none⟩ : Addr) ≠ ⟨A, k, none⟩ := fun i k h e => h (by injection e)
  have cc : ∀ k, k ≠ 3 → k ≠ 4 → k ≠ 6 → ((w'.drew.setCell ⟨A, 3, none⟩ (.int .u32 1)).setCell ⟨A, 4, none⟩ (.int .i32 0)).cell? ⟨A, k, none⟩ = w.cell? ⟨A, k, none⟩ := fun k h3 h4 h6 => by
    rw [World.cell?_setCell_other _ _ _ _ (ne 4 k (Ne.symm h4)), World.cell?_setCell_other _ _ _ _ (ne 3 k (Ne.symm h3)), World.cell?_drew, hl.cs k h6, World.cell?_setCell_other _ _ _ _ (ne 4 k (Ne.symm h4))]
  obtain ⟨T, R, ⟨h6, ht⟩, hT, hR⟩ := hl.tb
  have oth : ∀ (B i : Nat), A < B → ((w'.drew.setCell ⟨A, 3, none⟩ (.int .u32 1)).setCell ⟨A, 4, none⟩ (.int .i32 0)).cell? ⟨B, i, none⟩ = w'.cell? ⟨B, i, none⟩ := fun B i h => by
    rw [World.cell?_setCell_other _ _ _ _ (fun e => by injection e with e1 _; omega), World.cell?_setCell_other _ _ _ _ (fun e => by injection e with e1 _; omega), World.cell?_drew]
  have d3 : w'.cell? ⟨A, 3, none⟩ = some (.int .u32 0) := by rw [hl.cs 3 (by omega), World.cell?_setCell_other _ _ _ _ (ne 4 3 (by omega))]; exact hN.c3
  refine ⟨?_, ⟨(cc 0 (by omega) (by omega) (by omega)).trans hN.lb.1, (cc 1 (by omega) (by omega) (by omega)).trans hN.lb.2.1, (cc 2 (by omega) (by omega) (by omega)).trans hN.lb.2.2⟩, ?_, T, R, ?_, ?_⟩
  · exact (((hN.bel.setCell (p := ⟨A, 4, none⟩) (Nat.le_refl _) _).trans hl.bel).drew.setCell (p := ⟨A, 3, none⟩) (Nat.le_refl _) _).setCell (p := ⟨A, 4, none⟩) (Nat.le_refl _) _
  · rw [World.cell?_setCell_other _ _ _ _ (ne 4 3 (by omega))]
    exact World.cell?_setCell_same _ _ _ (by rw [World.cell?_drew]; exact d3)
  · rw [World.cell?_setCell_other _ _ _ _ (ne 4 6 (by omega)), World.cell?_setCell_other _ _ _ _ (ne 3 6 (by omega)), World.cell?_drew]; exact h6
  · intro x hx
    refine ⟨(oth T _ hT).trans (ht x hx).1, fun y hy => (oth _ _ (hR x hx)).trans ((ht x hx).2 y hy)⟩
set_option maxHeartbeats 1000000 in
/-- implies, when it is first asked. -/
theorem implies_new {x y : Nat} (B : Base w0 n b off b' off' R R' m j) (hA : A = w0.heap.size) (hN : AlgN w0 A n b off ca b' off' cb w) (hx : x < n) (hy : y < n) :
    Calls Try.prog 18 #[.pointer (some ⟨A, 0, none⟩), .int .i64 (x : Nat), .int .i64 (y : Nat)] w fun e w' => e = .returned (.int .i64 (imp n m j x y : Nat)) ∧ AlgL w0 A n b off ca b' off' cb (imp n m j) w' ∧ But A w w' := by
  have ne : ∀ k : Nat, k ≠ 4 → (⟨A, 4, none⟩ : Addr) ≠ ⟨A, k, none⟩ := fun k h e => h (by injection e with _ e2; exact e2.symm)
  have BB : Below A w0 (w.setCell ⟨A, 4, none⟩ (.int .i32 1)) := hN.bel.setCell (p := ⟨A, 4, none⟩) (Nat.le_refl _) _
  have oc : ∀ k, k ≠ 4 → (w.setCell ⟨A, 4, none⟩ (.int .i32 1)).cell? ⟨A, k, none⟩ = w.cell? ⟨A, k, none⟩ := fun k hk => World.cell?_setCell_other _ _ _ _ (ne k hk)
  have HL := layOut_any (wa := w.setCell ⟨A, 4, none⟩ (.int .i32 1)) (A := A) (ca := ca) (cb := cb) B.h1 B.h40 B.lat ⟨(oc 0 (by omega)).trans hN.lb.1, (oc 1 (by omega)).trans hN.lb.2.1, (oc 2 (by omega)).trans hN.lb.2.2⟩
    (fun w' h => B.tm w' (by rw [← hA]; exact BB.trans h)) (fun w' h => B.tj w' (by rw [← hA]; exact BB.trans h)) ((oc 6 (by omega)).trans hN.c6) (by rw [World.frozen?_setCell]; exact hN.fz 6)
  have HD : Hid _ := do_first (A := A) (P := Laid (w.setCell ⟨A, 4, none⟩ (.int .i32 1)) A n (imp n m j)) hN.c3 hN.c4 (hN.fz 4) (fun w' h => ⟨⟨by rw [h.cs 3 (by omega), oc 3 (by omega)]; exact hN.c3, by rw [h.cs 4 (by omega)]; exact World.cell?_setCell_same _ _ _ hN.c4⟩, by rw [h.fz, World.frozen?_setCell]; exact hN.fz 3, by rw [h.fz, World.frozen?_setCell]; exact hN.fz 4⟩) HL
  have HF : Hid (∀ w', Laid (w.setCell ⟨A, 4, none⟩ (.int .i32 1)) A n (imp n m j) w' → AlgL w0 A n b off ca b' off' cb (imp n m j) ((w'.drew.setCell ⟨A, 3, none⟩ (.int .u32 1)).setCell ⟨A, 4, none⟩ (.int .i32 0)) ∧ But A w ((w'.drew.setCell ⟨A, 3, none⟩ (.int .u32 1)).setCell ⟨A, 4, none⟩ (.int .i32 0))) := fun w' h => ⟨laid_alg hN h, laid_but h⟩
  have hmf : ∀ (fn : Fn) (first cap : Array Value) (w : World), (Instr.makeFunc fn first cap).run Try.prog w = .ok (.func fn first cap) w := fun _ _ _ _ => rfl
  have hxI : (x : Int) < (n : Int) := by omega
  have hyI : (y : Int) < (n : Int) := by omega
  have HA : Hid (A = w0.heap.size) := hA
  clear HL BB oc hN B hA ne
  go_enter Try.func18, Try.ntmps18
  go_wp2_with fail
  refine (Calls.mono HD.out) ?_
  rintro e w1 ⟨rfl, w2, hw2, hw1⟩
  have HG : Hid (AlgL w0 A n b off ca b' off' cb (imp n m j) w1 ∧ But A w w1) := by rw [hw1]; exact HF.out w2 hw2
  clear hw2 hw1 HD HF
  obtain ⟨T, R, c6, ht⟩ := HG.out.1.tb
  have r1 := (ht x hx).1
  have r2 := (ht x hx).2 y hy
  rw [Nat.zero_add] at r1
  clear ht
  go_wp2_with fail
  go_ret
  exact ⟨rfl, HG.out⟩
set_option maxHeartbeats 1000000 in
/-- implies, later. -/
theorem implies_laid {x y : Nat} (hL : AlgL w0 A n b off ca b' off' cb f w) (hx : x < n) (hy : y < n) :
    Calls Try.prog 18 #[.pointer (some ⟨A, 0, none⟩), .int .i64 (x : Nat), .int .i64 (y : Nat)] w fun e w' => e = .returned (.int .i64 (f x y : Nat)) ∧ w' = w := by
  have hmf : ∀ (fn : Fn) (first cap : Array Value) (w : World), (Instr.makeFunc fn first cap).run Try.prog w = .ok (.func fn first cap) w := fun _ _ _ _ => rfl
  have hxI : (x : Int) < (n : Int) := by omega
  have hyI : (y : Int) < (n : Int) := by omega
  obtain ⟨T, R, c6, ht⟩ := hL.tb
  have r1 := (ht x hx).1
  have r2 := (ht x hx).2 y hy
  rw [Nat.zero_add] at r1
  have HD : Hid _ := do_done (.func (.func 27) #[.pointer (some ⟨A, 0, none⟩)] #[]) hL.c3
  clear ht hL
  go_enter Try.func18, Try.ntmps18
  go_wp2_with fail
  refine (Calls.mono HD.out) ?_
  rintro e w1 ⟨rfl, hw1⟩
  subst w1
  clear HD
  go_wp2_with fail
  go_ret
  exact ⟨rfl, rfl⟩
theorem nt_lt (B : Base w0 n b off b' off' R R' m j) : en m n < n := en_lt B.h1 B.lat.im n (Nat.le_refl _)
set_option maxHeartbeats 1000000 in
theorem not_new {x : Nat} (B : Base w0 n b off b' off' R R' m j) (hA : A = w0.heap.size) (hN : AlgN w0 A n b off ca b' off' cb w) (hx : x < n) :
    Calls Try.prog 19 #[.pointer (some ⟨A, 0, none⟩), .int .i64 (x : Nat)] w fun e w' => e = .returned (.int .i64 (imp n m j x (en m n) : Nat)) ∧ AlgL w0 A n b off ca b' off' cb (imp n m j) w' ∧ But A w w' := by
  have HI : Hid _ := implies_new B hA hN hx (nt_lt B)
  have HE : Hid _ := aleast_any B.h1 B.h40 B.lat.im hN.lb (B.tm w (by rw [← hA]; exact hN.bel))
  clear hN B hA
  go_enter Try.func19, Try.ntmps19
  go_wp2_with fail
  refine (Calls.mono HE.out) ?_
  rintro e w1 ⟨rfl, hw1⟩
  subst w1
  go_wp2_with fail
  refine (Calls.mono HI.out) ?_
  rintro e w1 ⟨rfl, h1⟩
  have HG : Hid _ := h1
  clear h1
  go_wp2_with fail
  go_ret
  exact ⟨rfl, HG.out⟩
set_option maxHeartbeats 1000000 in
theorem not_laid {x : Nat} (B : Base w0 n b off b' off' R R' m j) (hA : A = w0.heap.size) (hL : AlgL w0 A n b off ca b' off' cb f w) (hx : x < n) :
    Calls Try.prog 19 #[.pointer (some ⟨A, 0, none⟩), .int .i64 (x : Nat)] w fun e w' => e = .returned (.int .i64 (f x (en m n) : Nat)) ∧ w' = w := by
  have HI : Hid _ := implies_laid hL hx (nt_lt B)
  have HE : Hid _ := aleast_any B.h1 B.h40 B.lat.im hL.lb (B.tm w (by rw [← hA]; exact hL.bel))
  clear hL B hA
  go_enter Try.func19, Try.ntmps19
  go_wp2_with fail
  refine (Calls.mono HE.out) ?_
  rintro e w1 ⟨rfl, hw1⟩
  subst w1
  go_wp2_with fail
  refine (Calls.mono HI.out) ?_
  rintro e w1 ⟨rfl, hw1⟩
  subst w1
  go_wp2_with fail
  go_ret
  exact ⟨rfl, rfl⟩
end
end Go.Proofs.Ytfkkjebgccnlnaa
