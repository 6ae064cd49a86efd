/-
  What the algebra's implies and not answer, when they are first asked and later. Conditions: a lattice of one to forty elements; the algebra is new, or its table is laid out.
  What lattice.Distributive and the reference's IsDistributive answer. No condition but that slices read as slices of rows.
  What heyting.algebraOf answers, whatever it is handed. No condition but that slices read as slices of rows.
-/
import Derived.Test.YtibnadbobijjpaaLayP
import Derived.Test.YtibnadbobijjpaaOncQ
import Derived.Deep.RegionHeld3
import Derived.Test.YtibnadbobijjpaaGal0
namespace Go.Proofs.Ytibnadbobijjpaa
set_option maxRecDepth 100000
open Go.RowKit

/-- Where the lattice lies that an algebra was made of, in w0. -/
structure Base (w0 : World) (n b off b' off' : Nat) (R R' : Nat → Nat × Nat × Nat) (m j : Nat → Nat → Nat) : Prop where
  h1 : 1 ≤ n
  h40 : n ≤ 40
  lat : Lat n m j
  tm : ∀ w', Below w0.heap.size w0 w' → Tb w' b off n R m
  tj : ∀ w', Below w0.heap.size w0 w' → Tb w' b' off' n R' j
/-- The algebra, new. -/
structure AlgN (w0 : World) (A n b off ca b' off' cb : Nat) (w : World) : Prop where
  bel : Below A w0 w
  lb : LB w A (n : Nat) (some ⟨b, off, none⟩) n ca (some ⟨b', off', none⟩) n cb
  c3 : w.cell? ⟨A, 3, none⟩ = some (.int .u32 0)
  c4 : w.cell? ⟨A, 4, none⟩ = some (.int .i32 0)
  c6 : w.cell? ⟨A, 6, none⟩ = some (.slice none 0 0)
  fz : ∀ k, w.frozen? ⟨A, k, none⟩ = false
/-- The algebra, its table laid out. -/
structure AlgL (w0 : World) (A n b off ca b' off' cb : Nat) (f : Nat → Nat → Nat) (w : World) : Prop where
  bel : Below A w0 w
  lb : LB w A (n : Nat) (some ⟨b, off, none⟩) n ca (some ⟨b', off', none⟩) n cb
  c3 : w.cell? ⟨A, 3, none⟩ = some (.int .u32 1)
  tb : ∃ T R, w.cell? ⟨A, 6, none⟩ = some (.slice (some ⟨T, 0, none⟩) n n) ∧ Tb w T 0 n R f
/-- All but the block A is as it was. -/
structure But (A : Nat) (w w' : World) : Prop where
  os : w'.os = w.os
  tape : w'.tape = w.tape
  output : w'.output = w.output
  size : w.heap.size ≤ w'.heap.size
  block : ∀ k, k < w.heap.size → k ≠ A → w'.heap[k]? = w.heap[k]?
theorem But.refl (A : Nat) (w : World) : But A w w := ⟨rfl, rfl, rfl, Nat.le_refl _, fun _ _ _ => rfl⟩
theorem But.trans {A : Nat} {a b c : World} (h : But A a b) (k : But A b c) : But A a c :=
  ⟨k.os.trans h.os, k.tape.trans h.tape, k.output.trans h.output, Nat.le_trans h.size k.size, fun i hi ha => (k.block i (Nat.lt_of_lt_of_le hi h.size) ha).trans (h.block i hi ha)⟩
theorem But.of {A : Nat} {w w' : World} (h : Below w.heap.size w w') : But A w w' := ⟨h.os, h.tape, h.output, h.size, fun k hk _ => h.block k hk⟩
theorem But.set (A i : Nat) (w : World) (v : Value) : But A w (w.setCell ⟨A, i, none⟩ v) := ⟨rfl, rfl, rfl, by simp, fun _ _ ha => Below.heap_setCell _ _ _ _ ha⟩
theorem But.cell {A : Nat} {w w' : World} (h : But A w w') {p : Addr} (hp : p.block < w.heap.size) (ha : p.block ≠ A) : w'.cell? p = w.cell? p := World.cell?_of_block (w := w) (h.block p.block hp ha)
theorem But.below {A : Nat} {w w' : World} (h : But A w w') (hA : A ≤ w.heap.size) : Below A w w' := ⟨h.os, h.tape, h.output, h.size, fun k hk => h.block k (by omega) (by omega)⟩
theorem But.drew (A : Nat) (w : World) : But A w w.drew := But.of ((Below.refl _ _).drew)
theorem laid_but {A n : Nat} {f : Nat → Nat → Nat} {w w' : World} (hl : Laid (w.setCell ⟨A, 4, none⟩ (.int .i32 1)) A n f w') : But A w ((w'.drew.setCell ⟨A, 3, none⟩ (.int .u32 1)).setCell ⟨A, 4, none⟩ (.int .i32 0)) := by
  obtain ⟨V, h⟩ := hl.b2
  have h1 := But.set A 4 w (.int .i32 1)
  have h2 := But.set A 6 (w.setCell ⟨A, 4, none⟩ (.int .i32 1)) V
  have h3 : But A ((w.setCell ⟨A, 4, none⟩ (.int .i32 1)).setCell ⟨A, 6, none⟩ V) w' := But.of (h.mono (by simp))
  exact ((((h1.trans h2).trans h3).trans (But.drew A w')).trans (But.set A 3 _ _)).trans (But.set A 4 _ _)
section
variable {w0 w w' : World} {A n b off ca b' off' cb : Nat} {R R' : Nat → Nat × Nat × Nat} {m j f : Nat → Nat → Nat}
theorem AlgL.step (h : AlgL w0 A n b off ca b' off' cb f w) (hb : Below w.heap.size w w') : AlgL w0 A n b off ca b' off' cb f w' := by
  obtain ⟨T, R, h6, ht⟩ := h.tb
  have hlt : A < w.heap.size := World.block_lt_of_cell? _ _ h6
  exact ⟨h.bel.trans (hb.mono (Nat.le_of_lt hlt)), h.lb.step hb, cell_step hb h.c3, T, R, cell_step hb h6, ht.step hb⟩
theorem laid_alg (hN : AlgN w0 A n b off ca b' off' cb w) (hl : Laid (w.setCell ⟨A, 4, none⟩ (.int .i32 1)) A n f w') :
    AlgL w0 A n b off ca b' off' cb f ((w'.drew.setCell ⟨A, 3, none⟩ (.int .u32 1)).setCell ⟨A, 4, none⟩ (.int .i32 0)) := by
  have ne : ∀ i k : Nat, i ≠ k → (⟨A, i, none⟩ : Addr) ≠ ⟨A, k, none⟩ := fun i k h e => h (by injection e)
  have cc : ∀ k, k ≠ 3 → k ≠ 4 → k ≠ 6 → ((w'.drew.setCell ⟨A, 3, none⟩ (.int .u32 1)).setCell ⟨A, 4, none⟩ (.int .i32 0)).cell? ⟨A, k, none⟩ = w.cell? ⟨A, k, none⟩ := fun k h3 h4 h6 => by
    rw [World.cell?_setCell_other _ _ _ _ (ne 4 k (Ne.symm h4)), World.cell?_setCell_other _ _ _ _ (ne 3 k (Ne.symm h3)), World.cell?_drew, hl.cs k h6, World.cell?_setCell_other _ _ _ _ (ne 4 k (Ne.symm h4))]
  obtain ⟨T, R, ⟨h6, ht⟩, hT, hR⟩ := hl.tb
  have oth : ∀ (B i : Nat), A < B → ((w'.drew.setCell ⟨A, 3, none⟩ (.int .u32 1)).setCell ⟨A, 4, none⟩ (.int .i32 0)).cell? ⟨B, i, none⟩ = w'.cell? ⟨B, i, none⟩ := fun B i h => by
    rw [World.cell?_setCell_other _ _ _ _ (fun e => by injection e with e1 _; omega), World.cell?_setCell_other _ _ _ _ (fun e => by injection e with e1 _; omega), World.cell?_drew]
  have d3 : w'.cell? ⟨A, 3, none⟩ = some (.int .u32 0) := by rw [hl.cs 3 (by omega), World.cell?_setCell_other _ _ _ _ (ne 4 3 (by omega))]; exact hN.c3
  refine ⟨?_, ⟨(cc 0 (by omega) (by omega) (by omega)).trans hN.lb.1, (cc 1 (by omega) (by omega) (by omega)).trans hN.lb.2.1, (cc 2 (by omega) (by omega) (by omega)).trans hN.lb.2.2⟩, ?_, T, R, ?_, ?_⟩
  · exact (((hN.bel.setCell (p := ⟨A, 4, none⟩) (Nat.le_refl _) _).trans hl.bel).drew.setCell (p := ⟨A, 3, none⟩) (Nat.le_refl _) _).setCell (p := ⟨A, 4, none⟩) (Nat.le_refl _) _
  · rw [World.cell?_setCell_other _ _ _ _ (ne 4 3 (by omega))]
    exact World.cell?_setCell_same _ _ _ (by rw [World.cell?_drew]; exact d3)
  · rw [World.cell?_setCell_other _ _ _ _ (ne 4 6 (by omega)), World.cell?_setCell_other _ _ _ _ (ne 3 6 (by omega)), World.cell?_drew]; exact h6
  · intro x hx
    refine ⟨(oth T _ hT).trans (ht x hx).1, fun y hy => (oth _ _ (hR x hx)).trans ((ht x hx).2 y hy)⟩
set_option maxHeartbeats 1000000 in
/-- implies, when it is first asked. -/
theorem implies_new {x y : Nat} (B : Base w0 n b off b' off' R R' m j) (hA : A = w0.heap.size) (hN : AlgN w0 A n b off ca b' off' cb w) (hx : x < n) (hy : y < n) :
    Calls Try.prog 32 #[.pointer (some ⟨A, 0, none⟩), .int .i64 (x : Nat), .int .i64 (y : Nat)] w fun e w' => e = .returned (.int .i64 (imp n m j x y : Nat)) ∧ AlgL w0 A n b off ca b' off' cb (imp n m j) w' ∧ But A w w' := by
  have ne : ∀ k : Nat, k ≠ 4 → (⟨A, 4, none⟩ : Addr) ≠ ⟨A, k, none⟩ := fun k h e => h (by injection e with _ e2; exact e2.symm)
  have BB : Below A w0 (w.setCell ⟨A, 4, none⟩ (.int .i32 1)) := hN.bel.setCell (p := ⟨A, 4, none⟩) (Nat.le_refl _) _
  have oc : ∀ k, k ≠ 4 → (w.setCell ⟨A, 4, none⟩ (.int .i32 1)).cell? ⟨A, k, none⟩ = w.cell? ⟨A, k, none⟩ := fun k hk => World.cell?_setCell_other _ _ _ _ (ne k hk)
  have HL := layOut_any (wa := w.setCell ⟨A, 4, none⟩ (.int .i32 1)) (A := A) (ca := ca) (cb := cb) B.h1 B.h40 B.lat ⟨(oc 0 (by omega)).trans hN.lb.1, (oc 1 (by omega)).trans hN.lb.2.1, (oc 2 (by omega)).trans hN.lb.2.2⟩
    (fun w' h => B.tm w' (by rw [← hA]; exact BB.trans h)) (fun w' h => B.tj w' (by rw [← hA]; exact BB.trans h)) ((oc 6 (by omega)).trans hN.c6) (by rw [World.frozen?_setCell]; exact hN.fz 6)
  have HD : Hid _ := do_first (A := A) (P := Laid (w.setCell ⟨A, 4, none⟩ (.int .i32 1)) A n (imp n m j)) hN.c3 hN.c4 (hN.fz 4) (fun w' h => ⟨⟨by rw [h.cs 3 (by omega), oc 3 (by omega)]; exact hN.c3, by rw [h.cs 4 (by omega)]; exact World.cell?_setCell_same _ _ _ hN.c4⟩, by rw [h.fz, World.frozen?_setCell]; exact hN.fz 3, by rw [h.fz, World.frozen?_setCell]; exact hN.fz 4⟩) HL
  have HF : Hid (∀ w', Laid (w.setCell ⟨A, 4, none⟩ (.int .i32 1)) A n (imp n m j) w' → AlgL w0 A n b off ca b' off' cb (imp n m j) ((w'.drew.setCell ⟨A, 3, none⟩ (.int .u32 1)).setCell ⟨A, 4, none⟩ (.int .i32 0)) ∧ But A w ((w'.drew.setCell ⟨A, 3, none⟩ (.int .u32 1)).setCell ⟨A, 4, none⟩ (.int .i32 0))) := fun w' h => ⟨laid_alg hN h, laid_but h⟩
  have hmf : ∀ (fn : Fn) (first cap : Array Value) (w : World), (Instr.makeFunc fn first cap).run Try.prog w = .ok (.func fn first cap) w := fun _ _ _ _ => rfl
  have hxI : (x : Int) < (n : Int) := by omega
  have hyI : (y : Int) < (n : Int) := by omega
  have HA : Hid (A = w0.heap.size) := hA
  clear HL BB oc hN B hA ne
  go_enter Try.func32, Try.ntmps32
  go_wp2_with fail
  refine (Calls.mono HD.out) ?_
  rintro e w1 ⟨rfl, w2, hw2, hw1⟩
  have HG : Hid (AlgL w0 A n b off ca b' off' cb (imp n m j) w1 ∧ But A w w1) := by rw [hw1]; exact HF.out w2 hw2
  clear hw2 hw1 HD HF
  obtain ⟨T, R, c6, ht⟩ := HG.out.1.tb
  have r1 := (ht x hx).1
  have r2 := (ht x hx).2 y hy
  rw [Nat.zero_add] at r1
  clear ht
  go_wp2_with fail
  go_ret
  exact ⟨rfl, HG.out⟩
set_option maxHeartbeats 1000000 in
/-- implies, later. -/
theorem implies_laid {x y : Nat} (hL : AlgL w0 A n b off ca b' off' cb f w) (hx : x < n) (hy : y < n) :
    Calls Try.prog 32 #[.pointer (some ⟨A, 0, none⟩), .int .i64 (x : Nat), .int .i64 (y : Nat)] w fun e w' => e = .returned (.int .i64 (f x y : Nat)) ∧ w' = w := by
  have hmf : ∀ (fn : Fn) (first cap : Array Value) (w : World), (Instr.makeFunc fn first cap).run Try.prog w = .ok (.func fn first cap) w := fun _ _ _ _ => rfl
  have hxI : (x : Int) < (n : Int) := by omega
  have hyI : (y : Int) < (n : Int) := by omega
  obtain ⟨T, R, c6, ht⟩ := hL.tb
  have r1 := (ht x hx).1
  have r2 := (ht x hx).2 y hy
  rw [Nat.zero_add] at r1
  have HD : Hid _ := do_done (.func (.func 41) #[.pointer (some ⟨A, 0, none⟩)] #[]) hL.c3
  clear ht hL
  go_enter Try.func32, Try.ntmps32
  go_wp2_with fail
  refine (Calls.mono HD.out) ?_
  rintro e w1 ⟨rfl, hw1⟩
  subst w1
  clear HD
  go_wp2_with fail
  go_ret
  exact ⟨rfl, rfl⟩
theorem nt_lt (B : Base w0 n b off b' off' R R' m j) : en m n < n := en_lt B.h1 B.lat.im n (Nat.le_refl _)
set_option maxHeartbeats 1000000 in
theorem not_new {x : Nat} (B : Base w0 n b off b' off' R R' m j) (hA : A = w0.heap.size) (hN : AlgN w0 A n b off ca b' off' cb w) (hx : x < n) :
    Calls Try.prog 33 #[.pointer (some ⟨A, 0, none⟩), .int .i64 (x : Nat)] w fun e w' => e = .returned (.int .i64 (imp n m j x (en m n) : Nat)) ∧ AlgL w0 A n b off ca b' off' cb (imp n m j) w' ∧ But A w w' := by
  have HI : Hid _ := implies_new B hA hN hx (nt_lt B)
  have HE : Hid _ := aleast_any B.h1 B.h40 B.lat.im hN.lb (B.tm w (by rw [← hA]; exact hN.bel))
  clear hN B hA
  go_enter Try.func33, Try.ntmps33
  go_wp2_with fail
  refine (Calls.mono HE.out) ?_
  rintro e w1 ⟨rfl, hw1⟩
  subst w1
  go_wp2_with fail
  refine (Calls.mono HI.out) ?_
  rintro e w1 ⟨rfl, h1⟩
  have HG : Hid _ := h1
  clear h1
  go_wp2_with fail
  go_ret
  exact ⟨rfl, HG.out⟩
set_option maxHeartbeats 1000000 in
theorem not_laid {x : Nat} (B : Base w0 n b off b' off' R R' m j) (hA : A = w0.heap.size) (hL : AlgL w0 A n b off ca b' off' cb f w) (hx : x < n) :
    Calls Try.prog 33 #[.pointer (some ⟨A, 0, none⟩), .int .i64 (x : Nat)] w fun e w' => e = .returned (.int .i64 (f x (en m n) : Nat)) ∧ w' = w := by
  have HI : Hid _ := implies_laid hL hx (nt_lt B)
  have HE : Hid _ := aleast_any B.h1 B.h40 B.lat.im hL.lb (B.tm w (by rw [← hA]; exact hL.bel))
  clear hL B hA
  go_enter Try.func33, Try.ntmps33
  go_wp2_with fail
  refine (Calls.mono HE.out) ?_
  rintro e w1 ⟨rfl, hw1⟩
  subst w1
  go_wp2_with fail
  refine (Calls.mono HI.out) ?_
  rintro e w1 ⟨rfl, hw1⟩
  subst w1
  go_wp2_with fail
  go_ret
  exact ⟨rfl, rfl⟩
end
end Go.Proofs.Ytibnadbobijjpaa
namespace Go.Proofs.Ytibnadbobijjpaa
set_option maxRecDepth 100000
open Go.RowKit

theorem ent_dis : Ent 39 := fun _ _ => rfl
set_option maxHeartbeats 4000000 in
theorem dis1_any (n B b off cap b' off' cap' : Nat) (R R' : Nat → Nat × Nat × Nat) (m j : Nat → Nat → Nat) (w : World) (hm : Inn n m) (hj : Inn n j)
    (hc : w.cell? ⟨B, 1, none⟩ = some (.slice (some ⟨b, off, none⟩) n cap)) (hd : w.cell? ⟨B, 2, none⟩ = some (.slice (some ⟨b', off', none⟩) n cap')) (ht : Tb w b off n R m) (ho : Tb w b' off' n R' j) :
    Clo n 39 #[.pointer (some ⟨B, 0, none⟩)] (disB m j) w := fun x y z hx hy hz W hW => by
  show Calls Try.prog 39 #[.int .i64 (x : Nat), .int .i64 (y : Nat), .int .i64 (z : Nat), .pointer (some ⟨B, 0, none⟩)] W _
  have cT := cell_step hW hc
  have cO := cell_step hW hd
  have HT := ht.step hW
  have HO := ho.step hW
  have hxy := hm x y hx hy
  have hxz := hm x z hx hz
  have hyz := hj y z hy hz
  have r1 := (HT x hx).1
  have r2 := (HO y hy).1
  have r3 := (HO _ hxy).1
  have e1 := (HO y hy).2 z hz
  have e2 := (HT x hx).2 _ hyz
  have e3 := (HT x hx).2 y hy
  have e4 := (HT x hx).2 z hz
  have e5 := (HO _ hxy).2 _ hxz
  have ix : (x : Int) < (n : Int) := by omega
  have iy : (y : Int) < (n : Int) := by omega
  have iz : (z : Int) < (n : Int) := by omega
  have i4 : ((m x y : Nat) : Int) < (n : Int) := by omega
  have i5 : ((m x z : Nat) : Int) < (n : Int) := by omega
  have i6 : ((j y z : Nat) : Int) < (n : Int) := by omega
  clear HT HO ht ho hc hd hm hj hW
  have hKK : Hid (Below W.heap.size W W) := Below.refl _ _
  unfold disB
  obtain ⟨v0, hv0⟩ : ∃ v, (m x (j y z) == j (m x y) (m x z)) = v := ⟨_, rfl⟩
  rw [hv0]
  rw [← int_beq] at hv0
  rcases v0 with _ | _
  · go_enter Try.func39, Try.ntmps39
    go_wp2
    go_big_quiet (fail)
    go_wp2
    go_ret
    exact ⟨rfl, below_drewN hKK.out _⟩
  · go_enter Try.func39, Try.ntmps39
    go_wp2
    go_big_quiet (fail)
    go_wp2
    go_ret
    exact ⟨rfl, below_drewN hKK.out _⟩
set_option maxHeartbeats 2000000 in
theorem distr_any (n : Int) (a : Option Addr) (la ca : Nat) (SA : Nat → Option Addr × Nat × Nat) (FA : Nat → Nat → Int) (b : Option Addr) (lb cb : Nat) (SB : Nat → Option Addr × Nat × Nat) (FB : Nat → Nat → Int) (w : World) (hla : la ≤ maxLen) (hlb : lb ≤ maxLen) (hra : RR w a la SA FA) (hrb : RR w b lb SB FB) :
    Calls Try.prog 25 #[.agg #[.int .i64 n, .slice a la ca, .slice b lb cb]] w fun e w' => LawPost disB n la SA FA lb SB FB e ∧ Below w.heap.size w w' := by
  have B1 : Below w.heap.size w (w.alloc (.cells #[.int .i64 n, .slice a la ca, .slice b lb cb] 24)) := (Below.refl _ _).alloc (Nat.le_refl _) _
  have L0 := LB.new w n a la ca b lb cb
  have HRA : Hid (RR (w.alloc (.cells #[.int .i64 n, .slice a la ca, .slice b lb cb] 24)) a la SA FA) := hra.below B1
  have HRB : Hid (RR (w.alloc (.cells #[.int .i64 n, .slice a la ca, .slice b lb cb] 24)) b lb SB FB) := hrb.below B1
  have HB1 : Hid (Below w.heap.size w (w.alloc (.cells #[.int .i64 n, .slice a la ca, .slice b lb cb] 24))) := B1
  clear hra hrb B1
  go_enter Try.func25, Try.ntmps25
  go_wp2_with fail
  refine (lCheck_any n a la ca SA FA b lb cb SB FB _ hla hlb HRA.out HRB.out).mono ?_
  rintro e w1 ⟨⟨c, rfl, hc⟩, hb1⟩
  have HB2 : Hid (Below w.heap.size w w1) := Below.then HB1.out hb1
  have L1 := L0.step hb1
  have l0 := L1.1
  have l1 := L1.2.1
  have l2 := L1.2.2
  have HC : Hid (LCk n la SA FA lb SB FB c) := hc
  by_cases h0 : c = 0
  · subst h0
    obtain ⟨q, rfl, h1, h40, e1, e2, hs1, hs2, hg1, hg2, hlat⟩ := hc.good
    obtain rfl := e1.symm
    obtain rfl := e2.symm
    obtain ⟨b1, o1, rfl, ht1, _⟩ := (HRA.out.below hb1).tb h1 hs1 hg1
    obtain ⟨b2, o2, rfl, ht2, _⟩ := (HRB.out.below hb1).tb h1 hs2 hg2
    have HQ := (show Hid _ from dis1_any q w.heap.size b1 o1 ca b2 o2 cb _ _ (nat2 FA) (nat2 FB) w1 hlat.im hlat.ij l1 l2 ht1 ht2)
    clear hs1 hs2 hg1 hg2 hlat ht1 ht2 hb1 HB1 hc L0
    go_wp2_with fail
    refine (always_any q 39 _ _ _ h40 ent_dis HQ.out).mono ?_
    rintro e w2 ⟨⟨v, rfl, hv⟩, hb2⟩
    have HB3 : Hid (Below w.heap.size w w2) := Below.then HB2.out hb2
    have HV : Hid (v = true ↔ All3 (q : Int).toNat (disB (nat2 FA) (nat2 FB))) := hv
    clear hb2 hv HB2
    go_wp2_with fail
    go_ret2
    exact ⟨⟨0, v, HC.out, rfl, .inr ⟨rfl, HV.out⟩⟩, HB3.out⟩
  · have hne : (c != 0) = true := by simpa using h0
    clear hb1 HB1 hc L0
    go_wp2_with fail
    go_ret2
    exact ⟨⟨c, false, HC.out, rfl, .inl ⟨h0, rfl⟩⟩, HB2.out⟩
set_option maxHeartbeats 2000000 in
theorem triple_any (n F : Nat) (caps : Array Value) (P : Nat → Nat → Nat → Bool) (w : World) (h40 : n ≤ 40) (hF : Ent F) (hcl : Clo n F caps P w) :
    Calls Try.prog 29 #[.int .i64 n, .func (.func F) #[] caps] w fun e w' => (∃ v l ok, e = .returned (.tuple #[v, .bool ok]) ∧ First3 n P l ok ∧ NSl w' v l) ∧ Below w.heap.size w w' := by
  have HCL : Hid (Clo n F caps P w) := hcl
  clear hcl
  go_enter Try.func29, Try.ntmps29
  go_wp2_with fail
  go_loopw [6] (fun i wx => ∃ a : Nat, a ≤ n ∧ i = .int .i64 a ∧ Hid (No3 n P a 0 0) ∧ Hid (Below w.heap.size w wx)) (fun i _ => n - (intOf i).toNat)
  case atStart => exact ⟨0, Nat.zero_le _, rfl, No3.zero n P, Below.refl _ _⟩
  case round =>
    obtain ⟨a, ha, rfl, HU, HW⟩ := hrel
    by_cases hal : a < n
    · go_wp2_with fail
      go_loopw [7] (fun i wx => ∃ b : Nat, b ≤ n ∧ i = .int .i64 b ∧ Hid (No3 n P a b 0) ∧ Hid (Below w.heap.size w wx)) (fun i _ => n - (intOf i).toNat)
      case atStart => exact ⟨0, Nat.zero_le _, rfl, HU.out, HW.out⟩
      case round =>
        clear HU HW
        obtain ⟨b, hb, rfl, HU, HW⟩ := hrel
        by_cases hbl : b < n
        · go_wp2_with fail
          go_loopw [8] (fun i wx => ∃ c : Nat, c ≤ n ∧ i = .int .i64 c ∧ Hid (No3 n P a b c) ∧ Hid (Below w.heap.size w wx)) (fun i _ => n - (intOf i).toNat)
          case atStart => exact ⟨0, Nat.zero_le _, rfl, HU.out, HW.out⟩
          case round =>
            clear HU HW
            obtain ⟨c, hc, rfl, HU, HW⟩ := hrel
            by_cases hcl : c < n
            · have HC := HCL.out a b c hal hbl hcl _ HW.out
              rcases (Bool.eq_false_or_eq_true (P a b c)).symm with hp | hp
              · have HN : Hid (No3 n P a b (c + 1)) := HU.out.next hp
                rw [hp] at HC
                clear HU hp
                go_wp2_with fail
                rw [hF, Oper.upon_enter]
                refine HC.mono ?_
                rintro e w' ⟨rfl, hbw⟩
                have HW2 : Hid (Below w.heap.size w w') := Below.then HW.out hbw
                clear HC hbw HW
                go_wp2_with fail
                go_roundw
                case rel => exact ⟨c + 1, by omega, by go_num, HN.out, HW2.out⟩
                case measure => simp [intOf]; omega
              · have HF : Hid (First3 n P [a, b, c] true) := .inl ⟨rfl, a, b, c, ⟨hal, hbl, hcl⟩, hp, HU.out, rfl⟩
                rw [hp] at HC
                clear HU hp
                go_wp2_with fail
                rw [hF, Oper.upon_enter]
                refine HC.mono ?_
                rintro e w' ⟨rfl, hbw⟩
                have HW2 : Hid (Below w.heap.size w w') := Below.then HW.out hbw
                have hsz := HW2.out.size
                clear HC hbw HW
                have HN3 := (show Hid _ from row3 w' a b c)
                have HB3 : Hid (Below w.heap.size w (w'.alloc (.cells #[.int .i64 (a : Nat), .int .i64 (b : Nat), .int .i64 (c : Nat)] 3))) := HW2.out.alloc hsz _
                clear hsz
                go_wp2_with fail
                go_ret2
                exact ⟨⟨_, _, _, rfl, HF.out, HN3.out⟩, HB3.out⟩
            · obtain rfl : c = n := by omega
              have HN : Hid (No3 c P a (b + 1) 0) := HU.out.y
              clear HU
              go_wp2_with fail
              go_roundw
              case rel => exact ⟨b + 1, by omega, by go_num, HN.out, HW.out⟩
              case measure => simp [intOf]; omega
        · obtain rfl : b = n := by omega
          have HN : Hid (No3 b P (a + 1) 0 0) := HU.out.x
          clear HU
          go_wp2_with fail
          go_roundw
          case rel => exact ⟨a + 1, by omega, by go_num, HN.out, HW.out⟩
          case measure => simp [intOf]; omega
    · obtain rfl : a = n := by omega
      have HF : Hid (First3 a P [] false) := .inr ⟨rfl, rfl, fun x y z hx hy hz => HU.out x y z hx hy hz (.inl hx)⟩
      clear HU
      go_wp2_with fail
      go_ret2
      exact ⟨⟨_, _, _, rfl, HF.out, none, 0, rfl, fun k hk => absurd hk (Nat.not_lt_zero _)⟩, HW.out⟩
theorem ent_rdis : Ent 30 := fun _ _ => rfl
set_option maxHeartbeats 4000000 in
theorem rdis1_any (n B b off cap b' off' cap' : Nat) (R R' : Nat → Nat × Nat × Nat) (m j : Nat → Nat → Nat) (w : World) (hm : Inn n m) (hj : Inn n j) (hL : LB w B (n : Nat) (some ⟨b, off, none⟩) n cap (some ⟨b', off', none⟩) n cap') (ht : Tb w b off n R m) (ho : Tb w b' off' n R' j) :
    Clo n 30 #[.pointer (some ⟨B, 0, none⟩)] (fun x y z => !(disB m j x y z)) w := fun x y z hx hy hz W hW => by
  show Calls Try.prog 30 #[.int .i64 (x : Nat), .int .i64 (y : Nat), .int .i64 (z : Nat), .pointer (some ⟨B, 0, none⟩)] W _
  have LL := hL.step hW
  have HT := ht.step hW
  have HO := ho.step hW
  have hxy := hm x y hx hy
  have hxz := hm x z hx hz
  have hyz := hj y z hy hz
  have c1 := LL.2.1
  have c2 := LL.2.2
  have r1 := (HT x hx).1
  have r2 := (HO y hy).1
  have r3 := (HO _ hxy).1
  have e1 := (HO y hy).2 z hz
  have e2 := (HT x hx).2 _ hyz
  have e3 := (HT x hx).2 y hy
  have e4 := (HT x hx).2 z hz
  have e5 := (HO _ hxy).2 _ hxz
  have ix : (x : Int) < (n : Int) := by omega
  have iy : (y : Int) < (n : Int) := by omega
  have iz : (z : Int) < (n : Int) := by omega
  have i4 : ((m x y : Nat) : Int) < (n : Int) := by omega
  have i5 : ((m x z : Nat) : Int) < (n : Int) := by omega
  have i6 : ((j y z : Nat) : Int) < (n : Int) := by omega
  clear HT HO ht ho hm hj hW LL hL
  have hKK : Hid (Below W.heap.size W W) := Below.refl _ _
  show Calls _ _ _ _ fun e w' => e = .returned (.bool (!(m x (j y z) == j (m x y) (m x z)))) ∧ _
  obtain ⟨v0, hv0⟩ : ∃ v, (m x (j y z) == j (m x y) (m x z)) = v := ⟨_, rfl⟩
  rw [hv0]
  rw [← int_beq] at hv0
  rcases v0 with _ | _
  · have hq : (((m x (j y z) : Nat) : Int) != ((j (m x y) (m x z) : Nat) : Int)) = true := by simp only [bne, hv0, Bool.not_false]
    go_enter Try.func30, Try.ntmps30
    go_wp2
    go_big_quiet (fail)
    go_wp2
    go_ret
    exact ⟨rfl, below_drewN hKK.out _⟩
  · have hq : (((m x (j y z) : Nat) : Int) != ((j (m x y) (m x z) : Nat) : Int)) = false := by simp only [bne, hv0, Bool.not_true]
    go_enter Try.func30, Try.ntmps30
    go_wp2
    go_big_quiet (fail)
    go_wp2
    go_ret
    exact ⟨rfl, below_drewN hKK.out _⟩
set_option maxHeartbeats 1000000 in
theorem refIsDistributive_any (q b off cap b' off' cap' : Nat) (R R' : Nat → Nat × Nat × Nat) (m j : Nat → Nat → Nat) (w : World) (h40 : q ≤ 40) (hm : Inn q m) (hj : Inn q j) (ht : Tb w b off q R m) (ho : Tb w b' off' q R' j) :
    Calls Try.prog 16 #[.agg #[.int .i64 (q : Nat), .slice (some ⟨b, off, none⟩) q cap, .slice (some ⟨b', off', none⟩) q cap']] w fun e w' => BIs e (All3 q (disB m j)) ∧ Below w.heap.size w w' := by
  have B1 : Below w.heap.size w (w.alloc (.cells #[.int .i64 (q : Nat), .slice (some ⟨b, off, none⟩) q cap, .slice (some ⟨b', off', none⟩) q cap'] 24)) := (Below.refl _ _).alloc (Nat.le_refl _) _
  have HB1 : Hid (Below w.heap.size w (w.alloc (.cells #[.int .i64 (q : Nat), .slice (some ⟨b, off, none⟩) q cap, .slice (some ⟨b', off', none⟩) q cap'] 24))) := B1
  have L0 := LB.new w (q : Nat) (some ⟨b, off, none⟩) q cap (some ⟨b', off', none⟩) q cap'
  have HQ : Hid (Clo q 30 #[.pointer (some ⟨w.heap.size, 0, none⟩)] (fun x y z => !(disB m j x y z)) _) := rdis1_any q w.heap.size b off cap b' off' cap' R R' m j _ hm hj L0 (ht.step B1) (ho.step B1)
  clear B1 L0 ht ho hm hj
  go_enter Try.func16, Try.ntmps16
  go_wp2_with fail
  refine (triple_any q 30 _ _ _ h40 ent_rdis HQ.out).mono ?_
  rintro e w2 ⟨⟨v, l, ok, rfl, hf, hn⟩, hb2⟩
  have HB3 : Hid (Below w.heap.size w w2) := Below.then HB1.out hb2
  have HE : Hid ((!ok) = true ↔ All3 q (disB m j)) := by
    rcases ok with _ | _
    · refine ⟨fun _ x y z hx hy hz => ?_, fun _ => rfl⟩
      rcases hf with ⟨h, _⟩ | ⟨_, _, h⟩
      · cases h
      · have := h x y z hx hy hz; simpa using this
    · refine ⟨fun h => (by cases h), fun h => ?_⟩
      obtain ⟨x, y, z, hx, hy, hz, hp⟩ := hf.ok.mp rfl
      have := h x y z hx hy hz
      rw [this] at hp; cases hp
  clear hb2 hf hn HB1 HQ
  go_wp2_with fail
  go_ret
  exact ⟨⟨_, rfl, HE.out⟩, HB3.out⟩
end Go.Proofs.Ytibnadbobijjpaa
namespace Go.Proofs.Ytibnadbobijjpaa
set_option maxRecDepth 100000
open Go.RowKit

/-- What an algebra's error must be. -/
def HCk (L : LA) (c : Int) : Prop := (c ≠ 0 ∧ L.Ck c) ∨ (L.Ck 0 ∧ ((c = 4 ∧ ¬ All3 L.q (disB L.m L.j)) ∨ (c = 0 ∧ All3 L.q (disB L.m L.j))))
theorem HCk.one {L : LA} {c d : Int} (h : HCk L c) (h' : HCk L d) : c = d := by
  rcases h with ⟨h1, h2⟩ | ⟨h1, h2⟩ <;> rcases h' with ⟨k1, k2⟩ | ⟨k1, k2⟩
  · exact LCk.one h2 k2
  · exact absurd (LCk.one h2 k1) h1
  · exact absurd (LCk.one k2 h1) k1
  · rcases h2 with ⟨rfl, a⟩ | ⟨rfl, a⟩ <;> rcases k2 with ⟨rfl, b⟩ | ⟨rfl, b⟩
    · rfl
    · exact absurd b a
    · exact absurd a b
    · rfl
/-- A new algebra of a lattice, the world ahead of it being w0. -/
structure NewA (L : LA) (w w0 w' : World) (A b off b' off' : Nat) : Prop where
  ha : A = w0.heap.size
  base : Base w0 L.q b off b' off' (fun x => rAt (L.SA x)) (fun x => rAt (L.SB x)) L.m L.j
  alg : AlgN w0 A L.q b off L.ca b' off' L.cb w'
  bel : Below w.heap.size w w0
  dis : All3 L.q (disB L.m L.j)
  nq : L.n = (L.q : Nat)
/-- What algebraOf must answer. -/
def AlgPost (L : LA) (w : World) (e : Ending) (w' : World) : Prop := ∃ c : Int, HCk L c ∧ ((c ≠ 0 ∧ e = .returned (.tuple #[.pointer none, .int .i64 c]) ∧ Below w.heap.size w w') ∨ (c = 0 ∧ ∃ w0 A b off b' off', e = .returned (.tuple #[.pointer (some ⟨A, 0, none⟩), .int .i64 0]) ∧ NewA L w w0 w' A b off b' off'))
def algCells (n : Int) (a : Option Addr) (la ca : Nat) (b : Option Addr) (lb cb : Nat) : Array Value := #[.int .i64 n, .slice a la ca, .slice b lb cb, .int .u32 0, .int .i32 0, .int .u32 0, .slice none 0 0]
theorem newA_of {L : LA} {w w0 : World} {b off b' off' : Nat} (hb : Below w.heap.size w w0) (hI : L.In w0) (hC : L.Ck 0) (hd : All3 L.q (disB L.m L.j)) (ea : L.a = some ⟨b, off, none⟩) (eb : L.b = some ⟨b', off', none⟩) :
    NewA L w w0 (w0.alloc (.cells (algCells L.n L.a L.la L.ca L.b L.lb L.cb) 71)) w0.heap.size b off b' off' := by
  have hl := hC.lat
  obtain ⟨q, b1, o1, b2, o2, eq, e1, hla, e2, hlb, _, _, _, ht1, ht2⟩ := LCk.open hC hI.2.2.1 hI.2.2.2
  rw [ea] at e1
  rw [eb] at e2
  have f1 : b = b1 ∧ off = o1 := by injection e1 with e1; injection e1 with x y; exact ⟨x, y⟩
  have f2 : b' = b2 ∧ off' = o2 := by injection e2 with e2; injection e2 with x y; exact ⟨x, y⟩
  obtain ⟨rfl, rfl⟩ := f1
  obtain ⟨rfl, rfl⟩ := f2
  have hq : q = L.q := by unfold LA.q; omega
  subst hq
  refine ⟨rfl, ⟨hl.1, hl.2.1, hl.2.2.1, fun w' h => ht1.step h, fun w' h => ht2.step h⟩, ⟨(Below.refl _ _).alloc (Nat.le_refl _) _, ⟨?_, ?_, ?_⟩, ?_, ?_, ?_, fun k => World.frozen?_alloc_at _ _ _ _ rfl⟩, hb, hd, hl.2.2.2⟩
  · simp [algCells]; exact hl.2.2.2
  · simp [algCells]; exact ⟨ea, by omega⟩
  · simp [algCells]; exact ⟨eb, by omega⟩
  · simp [algCells]
  · simp [algCells]
  · simp [algCells]
set_option maxHeartbeats 2000000 in
theorem algebraOf_any (L : LA) (w : World) (hL : L.In w) :
    Calls Try.prog 11 #[.agg #[.int .i64 L.n, .slice L.a L.la L.ca, .slice L.b L.lb L.cb]] w fun e w' => AlgPost L w e w' := by
  have B1 : Below w.heap.size w (w.alloc (.cells #[.int .i64 L.n, .slice L.a L.la L.ca, .slice L.b L.lb L.cb] 24)) := (Below.refl _ _).alloc (Nat.le_refl _) _
  have L0 := LB.new w L.n L.a L.la L.ca L.b L.lb L.cb
  have HI : Hid (L.In (w.alloc (.cells #[.int .i64 L.n, .slice L.a L.la L.ca, .slice L.b L.lb L.cb] 24))) := hL.step B1
  have HB1 : Hid _ := B1
  clear B1 hL
  go_enter Try.func11, Try.ntmps11
  go_wp2_with fail
  refine (distr_any L.n L.a L.la L.ca L.SA L.FA L.b L.lb L.cb L.SB L.FB _ HI.out.1 HI.out.2.1 HI.out.2.2.1 HI.out.2.2.2).mono ?_
  rintro e w1 ⟨⟨c, v, hc, rfl, hv⟩, hb1⟩
  have HB2 : Hid (Below w.heap.size w w1) := Below.then HB1.out hb1
  have HI1 : Hid (L.In w1) := HI.out.step hb1
  have L1 := L0.step hb1
  have l0 := L1.1
  have l1 := L1.2.1
  have l2 := L1.2.2
  have HC : Hid (L.Ck c) := hc
  clear hb1 HB1 hc L0 L1 HI
  rcases hv with ⟨h0, rfl⟩ | ⟨rfl, hv⟩
  · have hne : (c != 0) = true := by simpa using h0
    go_wp2_with fail
    go_ret2
    exact ⟨c, .inl ⟨h0, HC.out⟩, .inl ⟨h0, rfl, HB2.out⟩⟩
  · have HV : Hid (v = true ↔ All3 L.q (disB L.m L.j)) := hv
    clear hv
    rcases v with _ | _
    · go_wp2_with fail
      go_ret2
      exact ⟨4, .inr ⟨HC.out, .inl ⟨rfl, fun h => by have := HV.out.2 h; cases this⟩⟩, .inl ⟨by decide, rfl, HB2.out⟩⟩
    · have HD : Hid (All3 L.q (disB L.m L.j)) := HV.out.1 rfl
      clear HV
      obtain ⟨b1, o1, b2, o2, HNA⟩ : ∃ b1 o1 b2 o2, Hid (NewA L w w1 (w1.alloc (.cells (algCells L.n L.a L.la L.ca L.b L.lb L.cb) 71)) w1.heap.size b1 o1 b2 o2) := by
        obtain ⟨q, b1, o1, b2, o2, _, ea, _, eb, _⟩ := LCk.open HC.out HI1.out.2.2.1 HI1.out.2.2.2
        exact ⟨b1, o1, b2, o2, newA_of HB2.out HI1.out HC.out HD.out ea eb⟩
      go_wp2_with fail
      go_ret2
      exact ⟨0, .inr ⟨HC.out, .inr ⟨rfl, HD.out⟩⟩, .inr ⟨rfl, _, _, _, _, _, _, rfl, HNA.out⟩⟩
end Go.Proofs.Ytibnadbobijjpaa
