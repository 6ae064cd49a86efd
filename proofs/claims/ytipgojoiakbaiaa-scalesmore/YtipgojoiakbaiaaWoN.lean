/-
  The table of what is weighed next: its map, tableOf. Conditions: at most five points.
-/
import Derived.Test.YtipgojoiakbaiaaWoP
import Derived.Maps.OwnSet
import Derived.Laws.EntriesVeiled
import Derived.WideKeyArr
namespace Go.Proofs.Ytipgojoiakbaiaa
open Go.RowKit Go.Maps Go.WideMaps
set_option maxRecDepth 100000

theorem arrK : ArrKey Try.prog 62 3 5 := ⟨Try.underlying62, by kernel_rfl, by kernel_rfl, by kernel_rfl⟩
theorem keyedK : Keyed Try.prog 62 := Keyed.of_law arrK.law
/-- The key of what is known. -/
def kK (g : Nat → Nat) : Lit := .string (keyBytes [.int .i64 (g 0 : Nat), .int .i64 (g 1 : Nat), .int .i64 (g 2 : Nat), .int .i64 (g 3 : Nat), .int .i64 (g 4 : Nat)])
theorem keyOf_five {P : Program} {k e : TypeId} {q : IntKind} (A : ArrKey P k e 5) (he : P.underlying e = some (.int q)) (hsz : ∃ m, P.types.size = m + 1) {a b c d f : Int} (wa : (Lit.int q a).wf = true) (wb : (Lit.int q b).wf = true) (wc : (Lit.int q c).wf = true) (wd : (Lit.int q d).wf = true) (wf : (Lit.int q f).wf = true) :
    keyOf P k (.agg #[.int q a, .int q b, .int q c, .int q d, .int q f]) = some (.string (keyBytes [.int q a, .int q b, .int q c, .int q d, .int q f])) := by
  have hkt := A.keyType hsz
  obtain ⟨m, hm⟩ := hsz
  unfold keyOf
  simp only [A.hu]
  rw [if_pos (by simp [hkt, Value.formed, A.hu, A.size]), hm]
  unfold Program.keyLits
  simp only [A.hu, Value.cells]
  rw [if_pos (by rw [A.size]; rfl), show List.range 5 = [0, 1, 2, 3, 4] from rfl, List.mapM_cons, List.mapM_cons, List.mapM_cons, List.mapM_cons, List.mapM_cons, List.mapM_nil]
  simp [A.one, Program.keyLits, he, wa, wb, wc, wd, wf]
theorem types_pos : 0 < Try.prog.types.size := of_decide_eq_true (by kernel_rfl)
theorem types_some : ∃ m, Try.prog.types.size = m + 1 := ⟨Try.prog.types.size - 1, by have := types_pos; omega⟩
theorem key_of {g : Nat → Nat} (hg : ∀ i, g i < 32) : keyOf Try.prog 62 (.agg (kva g)) = some (kK g) := by
  have w : ∀ i, (Lit.int .i64 ((g i : Nat) : Int)).wf = true := fun i => WalkArith.wf_i64 (by have := hg i; omega)
  exact keyOf_five arrK Try.underlying3 types_some (w 0) (w 1) (w 2) (w 3) (w 4)
theorem kK_inj {g h : Nat → Nat} (hg : ∀ i, g i < 32) (hh : ∀ i, h i < 32) (zg : ∀ i, 5 ≤ i → g i = 0) (zh : ∀ i, 5 ≤ i → h i = 0) (e : kK g = kK h) : g = h := by
  have k := keyedK.inj (key_of hg) (by rw [e]; exact key_of hh)
  have k2 : kva g = kva h := by injection k
  funext i
  rcases Nat.lt_or_ge i 5 with hi | hi
  · have h1 := kva_at g hi
    rw [k2, kva_at h hi] at h1
    simp at h1
    omega
  · rw [zg i hi, zh i hi]
theorem kK_key (g : Nat → Nat) : WideAt.IsKeyLit (kK g) := trivial
/-- An element as it is. -/
def Rh (v : Value) : Option (DataW Value × List MemPlace) := some (.held v, [])
/-- What is weighed next, as a value. -/
def wgV (x : Wg) : Value := .agg #[.int .i64 (x.a : Nat), .int .i64 (x.b : Nat), .int .i64 (x.c : Nat)]
def wg0 : Value := .agg #[.int .i64 0, .int .i64 0, .int .i64 0]
theorem zeroW (w : World) : (zeroValue 55).run Try.prog w = .ok wg0 w := by kernel_rfl
/-- The map holds what is weighed next, and nothing else. -/
structure MOk (n Bm k : Nat) (W : World) (D : DataW Value) : Prop where
  own : W.ownsMap Try.prog 62 Rh Bm k D
  val : ∀ g, WOk n g → Maps.has D (kK g) = true → D.atKey (kK g) (.held wg0) = .held (wgV (nx n g))
theorem WOk.far {n : Nat} {g : Nat → Nat} (h : WOk n g) (i : Nat) (hi : 5 ≤ i) : g i = 0 := h.out i (by have := h.n5; omega)
theorem MOk.kept {n Bm k : Nat} {W W' : World} {D : DataW Value} (h : MOk n Bm k W D) (hg : W.grownBy W' none) : MOk n Bm k W' D := ⟨h.own.kept hg (by simp), h.val⟩
theorem MOk.mono {n Bm k k' : Nat} {W : World} {D : DataW Value} (h : MOk n Bm k W D) (hk : k ≤ k') : MOk n Bm k' W D := ⟨h.own.mono hk, h.val⟩
theorem MOk.put {n Bm k : Nat} {W W' : World} {D : DataW Value} (h : MOk n Bm k W D) {g : Nat → Nat} (hg : WOk n g)
    (ho : W'.ownsMap Try.prog 62 Rh Bm (k + 1) (D.put (kK g) (.held (wgV (nx n g))))) : MOk n Bm (k + 1) W' (D.put (kK g) (.held (wgV (nx n g)))) := by
  refine ⟨ho, fun y hy hh => ?_⟩
  by_cases e : kK y = kK g
  · have := kK_inj hy.small hg.small hy.far hg.far e
    subst this; exact atKey_put_same h.own.isMap (kK_key y) _ _
  · rw [has_put_other e] at hh
    rw [atKey_put_other e]
    exact h.val y hy hh
theorem MOk.made (n : Nat) (w : World) : MOk n w.heap.size 0 (w.alloc (.map #[] 0)) (.map []) :=
  ⟨World.ownsMap_made _ _ _ _, fun x _ h => by simp [has_eq] at h⟩
theorem ne_map {w : World} {b : Nat} {a : Addr} {v : Value} {k : Nat} {D : DataW Value} (h : w.ownsMap Try.prog 62 Rh b k D) (hc : w.cell? a = some v) : a.block ≠ b := by
  rintro rfl
  obtain ⟨es, clock, hb, _⟩ := h
  simp [World.cell?, hb] at hc
theorem grown_of_below {W W' : World} (h : Below W.heap.size W W') (row : Option Nat) : W.grownBy W' row := ⟨h.os, h.tape, h.output, h.size, fun k hk _ => h.block k hk⟩
theorem res_table (tmps : Array Value) (W : World) (b n m : Nat) (hp : tmps.getD 2 undef = .pointer (some ⟨b, 0, none⟩)) (r0 : W.cell? ⟨b, 0, none⟩ = some (.int .i64 (n : Nat))) (r1 : W.cell? ⟨b, 1, none⟩ = some (.map (some m))) :
    (results Try.f29 tmps).run Try.prog W = .ok (.agg #[.int .i64 (n : Nat), .map (some m)]) W := by
  have hp' : tmps[2]?.getD undef = .pointer (some ⟨b, 0, none⟩) := by simpa using hp
  simp [results, hp', asAddr, loadVar, go_sem, r0, r1]
set_option maxHeartbeats 1000000 in
theorem tableOf_any (n : Nat) (w : World) : Calls Try.prog 29 #[.int .i64 (n : Nat)] w fun e w' => (∃ Bm, e = .returned (.agg #[.int .i64 (n : Nat), .map (some Bm)]) ∧ w.heap.size ≤ Bm ∧ MOk n Bm 0 w' (.map [])) ∧ Below w.heap.size w w' := by
  have hmm := @run_makeMap Try.prog
  go_enter Try.func29, Try.ntmps29
  go_wp2
  have hm := MOk.made n (w.alloc (.cells #[.int .i64 (n : Nat), .map (some (w.heap.size + 1))] 58))
  simp only [World.size_alloc] at hm
  exact bodyPost_ret (res_table _ _ w.heap.size n (w.heap.size + 1) rfl (by simp) (by simp)) rfl ⟨⟨_, rfl, by omega, hm⟩, ((Below.refl _ _).alloc (Nat.le_refl _) _).alloc (by simp) _⟩

/-- A box in which a weighing lies. -/
def WB (w : World) (b : Nat) (x y z : Int) : Prop := (w.cell? ⟨b, 0, none⟩ = some (.int .i64 x) ∧ w.frozen? ⟨b, 0, none⟩ = false) ∧ (w.cell? ⟨b, 1, none⟩ = some (.int .i64 y) ∧ w.frozen? ⟨b, 1, none⟩ = false) ∧ (w.cell? ⟨b, 2, none⟩ = some (.int .i64 z) ∧ w.frozen? ⟨b, 2, none⟩ = false)
theorem WB.but {w w' : World} {b Bm : Nat} {x y z : Int} (h : WB w b x y z) (hg : w.grownBy w' (some Bm)) (hne : b ≠ Bm) : WB w' b x y z := by
  have hb : w'.heap[b]? = w.heap[b]? := hg.block b (World.block_lt_of_cell? _ _ h.1.1) (fun e => hne (Option.some.inj e))
  refine ⟨⟨(World.cell?_of_block (w := w) (a := ⟨b, 0, none⟩) hb).trans h.1.1, (World.frozen?_of_block (w := w) (a := ⟨b, 0, none⟩) hb).trans h.1.2⟩, ⟨(World.cell?_of_block (w := w) (a := ⟨b, 1, none⟩) hb).trans h.2.1.1, (World.frozen?_of_block (w := w) (a := ⟨b, 1, none⟩) hb).trans h.2.1.2⟩, ⟨(World.cell?_of_block (w := w) (a := ⟨b, 2, none⟩) hb).trans h.2.2.1, (World.frozen?_of_block (w := w) (a := ⟨b, 2, none⟩) hb).trans h.2.2.2⟩⟩
theorem KB.but {w w' : World} {b Bm : Nat} {g : Nat → Nat} (h : KB w b g) (hg : w.grownBy w' (some Bm)) (hne : b ≠ Bm) : KB w' b g := fun i hi => by
  have hb : w'.heap[b]? = w.heap[b]? := hg.block b (World.block_lt_of_cell? _ _ (h i hi).1) (fun e => hne (Option.some.inj e))
  exact ⟨(World.cell?_of_block (w := w) (a := ⟨b, i, none⟩) hb).trans (h i hi).1, (World.frozen?_of_block (w := w) (a := ⟨b, i, none⟩) hb).trans (h i hi).2⟩
theorem WB.set3 {w : World} {b : Nat} {x y z : Int} (h : WB w b x y z) (x' y' z' : Int) : WB (((w.setCell ⟨b, 0, none⟩ (.int .i64 x')).setCell ⟨b, 1, none⟩ (.int .i64 y')).setCell ⟨b, 2, none⟩ (.int .i64 z')) b x' y' z' := by
  have n01 : (⟨b, 0, none⟩ : Addr) ≠ ⟨b, 1, none⟩ := by simp
  have n02 : (⟨b, 0, none⟩ : Addr) ≠ ⟨b, 2, none⟩ := by simp
  have n12 : (⟨b, 1, none⟩ : Addr) ≠ ⟨b, 2, none⟩ := by simp
  have a0 : (w.setCell ⟨b, 0, none⟩ (.int .i64 x')).cell? ⟨b, 0, none⟩ = some (.int .i64 x') := World.cell?_setCell_same _ _ _ h.1.1
  have a1 : (w.setCell ⟨b, 0, none⟩ (.int .i64 x')).cell? ⟨b, 1, none⟩ = some (.int .i64 y) := by rw [World.cell?_setCell_other _ _ _ _ n01]; exact h.2.1.1
  have a2 : (w.setCell ⟨b, 0, none⟩ (.int .i64 x')).cell? ⟨b, 2, none⟩ = some (.int .i64 z) := by rw [World.cell?_setCell_other _ _ _ _ n02]; exact h.2.2.1
  have b0 : ((w.setCell ⟨b, 0, none⟩ (.int .i64 x')).setCell ⟨b, 1, none⟩ (.int .i64 y')).cell? ⟨b, 0, none⟩ = some (.int .i64 x') := by rw [World.cell?_setCell_other _ _ _ _ n01.symm]; exact a0
  have b1 : ((w.setCell ⟨b, 0, none⟩ (.int .i64 x')).setCell ⟨b, 1, none⟩ (.int .i64 y')).cell? ⟨b, 1, none⟩ = some (.int .i64 y') := World.cell?_setCell_same _ _ _ a1
  have b2 : ((w.setCell ⟨b, 0, none⟩ (.int .i64 x')).setCell ⟨b, 1, none⟩ (.int .i64 y')).cell? ⟨b, 2, none⟩ = some (.int .i64 z) := by rw [World.cell?_setCell_other _ _ _ _ n12]; exact a2
  simp only [WB, World.frozen?_setCell]
  exact ⟨⟨by rw [World.cell?_setCell_other _ _ _ _ n02.symm]; exact b0, h.1.2⟩, ⟨by rw [World.cell?_setCell_other _ _ _ _ n12.symm]; exact b1, h.2.1.2⟩, ⟨World.cell?_setCell_same _ _ _ b2, h.2.2.2⟩⟩
theorem res_wg {fn : Func} {p : Tmp} (h : fn.results = #[.cell p 55]) (tmps : Array Value) (W : World) (b : Nat) (x y z : Int) (hp : tmps.getD p undef = .pointer (some ⟨b, 0, none⟩)) (hk : WB W b x y z) :
    (results fn tmps).run Try.prog W = .ok (.agg #[.int .i64 x, .int .i64 y, .int .i64 z]) W := by
  have hp' : tmps[p]?.getD undef = .pointer (some ⟨b, 0, none⟩) := by simpa using hp
  have k0 := hk.1.1
  have k1 := hk.2.1.1
  have k2 := hk.2.2.1
  simp [results, h, hp', asAddr, loadVar, go_sem, k0, k1, k2]
end Go.Proofs.Ytipgojoiakbaiaa
