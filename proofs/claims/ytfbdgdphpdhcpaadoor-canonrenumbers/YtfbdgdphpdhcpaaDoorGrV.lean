/-
  A worker's first and last steps: it is born, enters its function, puts off the close of its channel, closes it, and leaves. No condition.
  Whatever a cell holds, some value may stand for it that nobody can look behind. No condition.
  growOne: what goes over; its first region alone. Conditions: none.
  growOne's pieces, alone: the ideals. Conditions: an order that lies in a box and a row of numbers.
  growOne's pieces, alone: how long the list is, whether it goes on, the next ideal. Conditions: the list's slice.
  growOne's pieces, alone: the next ideal. Conditions: the list's slice is a row of numbers.
  growOne's pieces, alone: an ideal is put behind the row. Conditions: the box of the form.
-/
import Derived.Conc.EventLaws
import Derived.Test.YtfbdgdphpdhcpaaDoorVwC
import Derived.Test.YtfbdgdphpdhcpaaDoorVwA
import Derived.Deep.OwnRows
namespace Go.Proofs.YtfbdgdphpdhcpaaDoor.Sm
open Go Go.Conc

/-- What a worker's first frame is behind its one call. -/
def bornF (P : Program) : Frame := { (default : Frame) with fn := P.funcs.size, defers := [], mode := .panicking [goexitEntry] }
/-- A frame on its way out. -/
def rF (fn : FuncId) (tm : Array Value) (k : List Item) (D : List Deferred) (kd : CallKind) : Frame := { fn := fn, tmps := tm, todo := k, defers := D, mode := .returning, kind := kd }
/-- The close of a channel, put off. -/
def clD (ats : Array TypeId) (ty : TypeId) (cs : Array Bool) (c : Nat) : Deferred := { target := .builtin .close ats ty cs, args := #[.chan (some c)] }
section
variable {P : Program} {m : Bool}
theorem step_born {f : FuncId} {F : Func} {b : Code} (args : Array Value) (hf : P.funcs[f]? = some F) (hname : (F.name == "runtime.NumGoroutine") = false) (hb : F.body = some b) (w : World) :
    stepG P false (born P { target := .fn (.func f) #[], args := args }) w = .go (G (fF f (args ++ Array.replicate (F.ntmps - args.size) undef) [.code b] [] .deferred) [bornF P]) w #[] := by
  have h1 : ¬ F.name = "runtime.NumGoroutine" := by simpa using hname
  have he : Frame.enter P f args .deferred = fF f (args ++ Array.replicate (F.ntmps - args.size) undef) [.code b] [] .deferred := by
    simp [Frame.enter, hf, hb, fF]
  rw [← he]
  simp [born, G, stepG, unwind, callDeferred, invoke, callFunc, hf, h1, hb, bornF, GStep.after, seen_none, goexitEntry]
theorem stepG_deferX {fn : FuncId} {ops : Array Oper} {i : Nat} {rest : List Nat} {o : Oper} {tm : Array Value} {k : List Item} {D : List Deferred} {kd : CallKind} (hkd : kd ≠ .early) {rc : List Frame} (ho : ops[i]? = some o) (hwt : Region.wanted o (yielded ops tm) = true) {d : Deferred} {w : World}
    (hr : (execOp (Act.eval ⟨tm, D⟩) o).run P w = .ok (.defer d) w) (he : (execOp (Act.eval ⟨tm, D⟩) o).events P w #[] = #[]) :
    stepG P m (G (fF fn tm (.inRegion ops (i :: rest) :: k) D kd) rc) w = .go (G (fF fn (Act.put ⟨tm, D⟩ o.dst undef).tmps (.inRegion ops rest :: k) (d :: D) kd) rc) w #[] := by
  have hfin : (fF fn tm (.inRegion ops (i :: rest) :: k) (d :: D) kd).finish undef = fF fn (Act.put ⟨tm, D⟩ o.dst undef).tmps (.inRegion ops rest :: k) (d :: D) kd := by
    rw [finish_fF ho]
    cases o.dst <;> rfl
  have hk' : (kd == CallKind.early) = false := by simpa using hkd
  have h := stepG_oper (P := P) (main := m) (b := fF fn tm [] D kd) (a := ⟨tm, D⟩) (k := k) (cs := rc) (w := w) (rest := rest) ho hwt
  have h2 : stepG P m (G (fF fn tm (.inRegion ops (i :: rest) :: k) D kd) rc) w = stepG.apply P true ((fF fn tm [] D kd).at ⟨tm, D⟩ (.inRegion ops (i :: rest) :: k)) rc none (execOp (Act.eval ⟨tm, D⟩) o) w := h
  rw [h2, ← hfin]
  simp [stepG.apply, hr, he, G, Frame.at, fF, hk', GStep.after, seen_none]
theorem step_close {fn : FuncId} {tm : Array Value} {k : List Item} {kd : CallKind} {rc : List Frame} (ats : Array TypeId) (ty : TypeId) (cs : Array Bool) {c s : Nat} {w : World} (hc : w.heap[c]? = some (.chan 0 #[] false s s false)) :
    stepG P m (G (rF fn tm k [clD ats ty cs c] kd) rc) w = .go (G (rF fn tm k [] kd) rc) (w.setChan c 0 #[] true s s false) (closeEs c) := by
  have h1 := run_close_open (P := P) ats ty hc
  have h2 := events_close_open (P := P) (es := #[]) ats ty hc
  have h3 : seen P fn (closeEs c) = closeEs c := by
    rw [seen_def]
    simp [closeEs, seenStep]
  have h3' : seen P fn ((#[].push ⟨.obj c, false, true⟩).push ⟨.obj c, true, true⟩) = closeEs c := h3
  have e0 : (CallKind.early == CallKind.early) = true := rfl
  simp [clD, rF, G, stepG, unwind, callDeferred, invoke, builtin, h1, h2, GStep.after, World.setChan]
  exact h3'
theorem step_out {fn : FuncId} {F : Func} {tm : Array Value} {k : List Item} (hf : P.funcs[fn]? = some F) (hr : F.results = #[]) (w : World) : stepG P m (G (rF fn tm k [] .deferred) [bornF P]) w = .go (G (bornF P) []) w #[] := by
  simp [rF, G, stepG, unwind, hf, results, hr, doReturn, bornF, goexitEntry, GStep.after, seen_none]
theorem step_gone (w : World) : stepG P m (G (bornF P) []) w = .go { G (bornF P) [] with status := .finished } w #[] := by
  simp [G, stepG, unwind, bornF, goexitEntry, Frame.catches]
  rfl
end
/-- A worker at the end of its function. -/
theorem WV.done {μ : Type} {P : Program} {fs gs : List Nat} {Msg : World → (Nat → Prop) → Value → μ → Prop} {r : Nat → Nat → Prop} {v : World} {c : Nat} {fn : FuncId} {F : Func} {tm : Array Value} (ats : Array TypeId) (ty : TypeId) (cs : Array Bool) (hf : P.funcs[fn]? = some F) (hr : F.results = #[]) :
    WV P fs gs Msg r v c [] (G (fF fn tm [] [clD ats ty cs c] .deferred) [bornF P]) :=
  WV.mv (g' := G (rF fn tm [] [clD ats ty cs c] .deferred) [bornF P]) ⟨rfl, rfl⟩ ⟨rfl, rfl⟩ (fun _ => rfl)
    (WV.fin ⟨rfl, rfl⟩ rfl (g2 := G (rF fn tm [] [] .deferred) [bornF P]) ⟨rfl, rfl⟩ (fun _ _ hc => step_close ats ty cs hc) (g3 := G (bornF P) []) (g4 := { G (bornF P) [] with status := .finished }) (step_out hf hr) ⟨rfl, rfl⟩ step_gone ⟨rfl, rfl⟩)
end Go.Proofs.YtfbdgdphpdhcpaaDoor.Sm
namespace Go.Proofs.YtfbdgdphpdhcpaaDoor.Sm
open Go Go.Conc

theorem stand_in : ∀ (n : Nat) (v' : Value), SizeOf.sizeOf v' ≤ n → ∃ p, ∀ R, VR R p v' := by
  intro n
  induction n with
  | zero => intro v' h; cases v' <;> simp at h
  | succ n ih =>
    intro v' h
    have parts : ∀ c : Array Value, SizeOf.sizeOf c ≤ n → ∃ x : Array Value, ∀ R, XR R x c := fun c hc => by
      have h1 : ∀ i : Fin c.size, ∃ p, ∀ R, VR R p c[i] := fun i => ih _ (by
        have := Array.sizeOf_getElem c i i.2
        show SizeOf.sizeOf c[(i : Nat)] ≤ n
        omega)
      refine ⟨Array.ofFn fun i => (h1 i).choose, fun R => ⟨by simp, fun i v w h2 h3 => ?_⟩⟩
      obtain ⟨hi, rfl⟩ := Array.getElem?_eq_some_iff.1 h3
      rw [Array.getElem?_ofFn, dif_pos hi] at h2
      cases h2
      exact (h1 ⟨i, hi⟩).choose_spec R
    cases v' with
    | bool b => exact ⟨_, fun R => VR.bool R b⟩
    | int k m => exact ⟨_, fun R => VR.int R k m⟩
    | float k m => exact ⟨.float k m, fun R => .in rfl⟩
    | complex k x y => exact ⟨.complex k x y, fun R => .in rfl⟩
    | string s => exact ⟨_, fun R => VR.string R s⟩
    | nilFunc => exact ⟨_, fun R => VR.nilFunc R⟩
    | nilIface => exact ⟨_, fun R => VR.nilIface R⟩
    | chan a => exact ⟨_, fun R => VR.chan R a⟩
    | pointer a => cases a with
      | none => exact ⟨.pointer none, fun R => VR.pointer (a := none) (a' := none) trivial⟩
      | some a => exact ⟨.pointer none, fun R => VR.odd R trivial⟩
    | slice a l c => cases a with
      | none => exact ⟨.slice none l c, fun R => VR.slice (a := none) (a' := none) trivial _ _⟩
      | some a => exact ⟨.pointer none, fun R => VR.odd R trivial⟩
    | map a => cases a with
      | none => exact ⟨.map none, fun R => VR.map (a := none) (a' := none) trivial⟩
      | some a => exact ⟨.pointer none, fun R => VR.odd R trivial⟩
    | func f x y => exact ⟨.pointer none, fun R => VR.odd R trivial⟩
    | iface t u => exact ⟨.pointer none, fun R => VR.odd R trivial⟩
    | agg c =>
      obtain ⟨x, hx⟩ := parts c (by simp at h; omega)
      exact ⟨.agg x, fun R => VR.agg (hx R)⟩
    | tuple c =>
      obtain ⟨x, hx⟩ := parts c (by simp at h; omega)
      exact ⟨.tuple x, fun R => VR.tuple (hx R)⟩
/-- What stands for a value. -/
theorem vr_stand (v' : Value) : ∃ p, ∀ R : Ren, VR R p v' := stand_in (SizeOf.sizeOf v') v' (Nat.le_refl _)
end Go.Proofs.YtfbdgdphpdhcpaaDoor.Sm
namespace Go.Proofs.YtfbdgdphpdhcpaaDoor
open Go Go.Conc Go.RowKit Sm
set_option maxRecDepth 100000

/-- A row of numbers, in cells. -/
def rowC (o : List Nat) : Array Value := (natVals o).toArray
/-- What goes over: an order whose row lies in one block, which goes over with it. -/
def OMsg (w : World) (Tr : Nat → Prop) (v : Value) (o : List Nat) : Prop :=
  ∃ bl c fr, (∀ b, Tr b ↔ b = bl) ∧ v = .agg #[.int .i64 (o.length : Nat), .slice (some ⟨bl, 0, none⟩) o.length o.length] ∧ w.heap[bl]? = some (.cells c 3 fr) ∧ (∀ k, k < o.length → c[k]? = some (.int .i64 (nth o k : Nat))) ∧ Tryd.prog.globals.size ≤ bl
/-- What was there is as it was. -/
def HB (v w : World) : Prop := v.heap.size ≤ w.heap.size ∧ ∀ b, b < v.heap.size → w.heap[b]? = v.heap[b]?
theorem HB.refl (v : World) : HB v v := ⟨Nat.le_refl _, fun _ _ => rfl⟩
theorem HB.of {B : Nat} {v w : World} (h : Below B v w) (hB : v.heap.size ≤ B) : HB v w := ⟨h.size, fun b hb => h.block b (Nat.lt_of_lt_of_le hb hB)⟩
theorem HB.trans {u v w : World} (h : HB u v) (h' : HB v w) : HB u w := ⟨Nat.le_trans h.1 h'.1, fun b hb => (h'.2 b (Nat.lt_of_lt_of_le hb h.1)).trans (h.2 b hb)⟩
theorem HB.cell {v w : World} (h : HB v w) {p : Addr} {x : Value} (hc : v.cell? p = some x) : w.cell? p = some x := by
  have hlt := World.block_lt_of_cell? _ _ hc
  rw [← hc]
  exact World.cell?_of_block (w := v) (h.2 _ hlt)
theorem HB.tab {v w : World} (h : HB v w) (hT : Tab v) : Tab w := fun j hj => h.cell (hT j hj)
theorem HB.row {v w : World} (h : HB v w) {a : Option Addr} {n : Nat} {f : Nat → Int} (hr : Row v a n f) : Row w a n f := fun k hk => by
  obtain ⟨b, off, e, hc⟩ := hr k hk
  exact ⟨b, off, e, h.cell hc⟩
/-- What was known of cells is known. -/
def CE (v w : World) : Prop := v.heap.size ≤ w.heap.size ∧ ∀ p x, v.cell? p = some x → w.cell? p = some x
theorem HB.ce {v w : World} (h : HB v w) : CE v w := ⟨h.1, fun _ _ q => h.cell q⟩
theorem CE.trans {u v w : World} (h : CE u v) (h' : CE v w) : CE u w := ⟨Nat.le_trans h.1 h'.1, fun p x q => h'.2 p x (h.2 p x q)⟩
theorem CE.tab {v w : World} (h : CE v w) (hT : Tab v) : Tab w := fun j hj => h.2 _ _ (hT j hj)
theorem CE.row {v w : World} (h : CE v w) {a : Option Addr} {n : Nat} {f : Nat → Int} (hr : Row v a n f) : Row w a n f := fun k hk => by
  obtain ⟨b, off, e, hc⟩ := hr k hk
  exact ⟨b, off, e, h.2 _ _ hc⟩
theorem ce_fz (S : Nat → Bool) (v : World) : CE v (Sm.fz S v) := ⟨by rw [fz_size]; exact Nat.le_refl _, fun p x q => by rw [fz_cell]; exact q⟩
/-- The form of an order. -/
def frmL (o : List Nat) : List Nat := match bst (nth o) o.length (per o.length [] (pw o.length - 1)) with
  | some x => (List.range o.length).map (prt (nth o) x)
  | none => []
/-- What a form is with a point more. -/
def outsL (o : List Nat) : List (List Nat) := (idls (nth o) o.length).map fun d => frmL (o ++ [d])
theorem heap_new (w : World) (o : Obj) : (w.alloc o).heap[w.heap.size]? = some o := by unfold World.alloc; simp
/-- A box in a block. -/
def Bxd (w : World) (n : Nat) (cs : Array Value) : Prop := w.heap[n]? = some (.cells cs 24 (0, 0))
/-- The first region: a box for the form. -/
theorem grow_r0 (p q : Value) (tm : Array Value) (v : World) (h0 : tm[0]? = some (.agg #[p, q])) :
    (atc [0] (Tryd.f49.body.getD .skip)).wp Tryd.prog (fun e a w => e = .normal ∧ a.defers = [] ∧ HB v w ∧ a.tmps = tm.setIfInBounds 2 (.pointer (some ⟨v.heap.size, 0, none⟩)) ∧ Bxd w v.heap.size #[p, q]) ⟨tm, []⟩ v := by
  have e0 : tm.getD 0 undef = .agg #[p, q] := by rw [Array.getD_eq_getD_getElem?, h0]; rfl
  simp only [Tryd.f49, Option.getD_some, atc]
  go_wp2_with fail
  exact ⟨HB.of (B := v.heap.size) ((Below.refl _ v).alloc (Nat.le_refl _) _) (Nat.le_refl _), heap_new _ _⟩
end Go.Proofs.YtfbdgdphpdhcpaaDoor
namespace Go.Proofs.YtfbdgdphpdhcpaaDoor
open Go.RowKit Sm
set_option maxRecDepth 100000

/-- The box of the form. -/
def FBox (v : World) (b0 n : Nat) (a : Option Addr) (cap : Nat) (g : Nat → Nat) : Prop :=
  v.cell? ⟨b0, 0, none⟩ = some (.int .i64 (n : Nat)) ∧ v.cell? ⟨b0, 1, none⟩ = some (.slice a n cap) ∧ Row v a n (fun k => (g k : Nat))
theorem HB.box {v w : World} (h : HB v w) {b0 n : Nat} {a : Option Addr} {cap : Nat} {g : Nat → Nat} (hb : FBox v b0 n a cap g) : FBox w b0 n a cap g := ⟨h.cell hb.1, h.cell hb.2.1, h.row hb.2.2⟩
theorem CE.box {v w : World} (h : CE v w) {b0 n : Nat} {a : Option Addr} {cap : Nat} {g : Nat → Nat} (hb : FBox v b0 n a cap g) : FBox w b0 n a cap g := ⟨h.2 _ _ hb.1, h.2 _ _ hb.2.1, h.row hb.2.2⟩
set_option maxHeartbeats 1000000 in
theorem grow_r2 (tm : Array Value) (b0 n : Nat) (a : Option Addr) (cap : Nat) (g : Nat → Nat) (v : World) (hs : tm.size = 41) (h2 : tm[2]? = some (.pointer (some ⟨b0, 0, none⟩))) (hn : n ≤ 10) (hb : FBox v b0 n a cap g) :
    (atc [1, 1, 0] (Tryd.f49.body.getD .skip)).wp Tryd.prog (fun e s w => e = .normal ∧ s.defers = [] ∧ ∃ c z, IdealsPost v.heap.size n n (fun k => (g k : Nat)) (.returned (.tuple #[z, .int .i64 c])) w ∧ HB v w ∧
      s.tmps[4]? = some z ∧ s.tmps.size = 41 ∧ (∀ i, i ≠ 4 → i ≠ 5 → (i < 12 ∨ 16 < i) → s.tmps[i]? = tm[i]?)) ⟨tm, []⟩ v := by
  obtain ⟨h0, h1, hr⟩ := hb
  have HR : Hid (Row v a n (fun k => (g k : Nat))) := hr
  have HS : Hid (tm.size = 41) := hs
  have s4 : 4 < tm.size := by omega
  have s5 : 5 < tm.size := by omega
  have s12 : 12 < tm.size := by omega
  have s13 : 13 < tm.size := by omega
  have s14 : 14 < tm.size := by omega
  have s15 : 15 < tm.size := by omega
  have s16 : 16 < tm.size := by omega
  clear hs
  simp only [Tryd.f49, Option.getD_some, atc]
  go_wp2_with fail
  refine (ideals_any n a n cap (fun k => (g k : Nat)) _ (by unfold maxLen; omega) HR.out).mono ?_
  rintro e w1 ⟨hp, hbl⟩
  have hp0 := hp
  obtain ⟨c, z, hc, rfl, hz⟩ := hp
  have HP : Hid (IdealsPost v.heap.size n n (fun k => (g k : Nat)) (.returned (.tuple #[z, .int .i64 c])) w1 ∧ Below v.heap.size v w1) := ⟨hp0, hbl⟩
  clear hp0 hbl hz hc
  go_wp2_with fail

  refine ⟨c, z, HP.out.1, .of HP.out.2 (Nat.le_refl _), rfl, HS.out, fun i h4 h5 hi => ?_⟩
  repeat rw [Array.getElem?_setIfInBounds_ne (by omega)]
end Go.Proofs.YtfbdgdphpdhcpaaDoor
namespace Go.Proofs.YtfbdgdphpdhcpaaDoor
open Go.RowKit Sm
set_option maxRecDepth 100000

theorem grow_r3 (tm : Array Value) (a : Option Addr) (l cap : Nat) (v : World) (hs : tm.size = 41) (h4 : tm[4]? = some (.slice a l cap)) :
    (atc [1, 1, 1, 0] (Tryd.f49.body.getD .skip)).wp Tryd.prog (fun e s w => e = .normal ∧ s.defers = [] ∧ HB v w ∧ s.tmps = ((tm.setIfInBounds 17 (.slice a l cap)).setIfInBounds 18 (.int .i64 (l : Nat))).setIfInBounds 19 (.int .i64 0)) ⟨tm, []⟩ v := by
  have e4 : tm.getD 4 undef = .slice a l cap := by rw [Array.getD_eq_getD_getElem?, h4]; rfl
  simp only [Tryd.f49, Option.getD_some, atc]
  go_wp2_with fail
  exact HB.refl _
/-- Is there another ideal? -/
theorem grow_r4 (tm : Array Value) (i l : Nat) (v : World) (h19 : tm[19]? = some (.int .i64 (i : Nat))) (h18 : tm[18]? = some (.int .i64 (l : Nat))) :
    (atc [1, 1, 1, 1, 2, 2, 0] (Tryd.f49.body.getD .skip)).wp Tryd.prog (fun e s w => e = .normal ∧ s.defers = [] ∧ HB v w ∧ s.tmps = tm.setIfInBounds 20 (.bool (decide ((i : Int) < (l : Int))))) ⟨tm, []⟩ v := by
  have e19 : tm.getD 19 undef = .int .i64 (i : Nat) := by rw [Array.getD_eq_getD_getElem?, h19]; rfl
  have e18 : tm.getD 18 undef = .int .i64 (l : Nat) := by rw [Array.getD_eq_getD_getElem?, h18]; rfl
  simp only [Tryd.f49, Option.getD_some, atc]
  go_wp2_with fail
  exact HB.refl _
/-- The count goes up. -/
theorem grow_r9 (tm : Array Value) (i : Nat) (v : World) (hs : tm.size = 41) (h19 : tm[19]? = some (.int .i64 (i : Nat))) (hi : i < 1024) :
    (atc [1, 1, 1, 1, 2, 2, 1, 1, 1] (Tryd.f49.body.getD .skip)).wp Tryd.prog (fun e s w => e = .normal ∧ s.defers = [] ∧ HB v w ∧ s.tmps = (tm.setIfInBounds 40 (.int .i64 ((i + 1 : Nat) : Int))).setIfInBounds 19 (.int .i64 ((i + 1 : Nat) : Int))) ⟨tm, []⟩ v := by
  have e19 : tm.getD 19 undef = .int .i64 (i : Nat) := by rw [Array.getD_eq_getD_getElem?, h19]; rfl
  simp only [Tryd.f49, Option.getD_some, atc]
  go_wp2_with fail
  exact HB.refl _
end Go.Proofs.YtfbdgdphpdhcpaaDoor
namespace Go.Proofs.YtfbdgdphpdhcpaaDoor
open Go.RowKit Sm
set_option maxRecDepth 100000

theorem grow_r5 (tm : Array Value) (a : Option Addr) (i l cap : Nat) (f : Nat → Int) (v : World) (hs : tm.size = 41) (h17 : tm[17]? = some (.slice a l cap)) (h19 : tm[19]? = some (.int .i64 (i : Nat))) (hi : i < l) (hr : Row v a l f) :
    (atc [1, 1, 1, 1, 2, 2, 1, 1, 0, 2, 0] (Tryd.f49.body.getD .skip)).wp Tryd.prog (fun e s w => e = .normal ∧ s.defers = [] ∧ HB v w ∧ ∃ z, s.tmps = ((tm.setIfInBounds 21 z).setIfInBounds 22 (.int .i64 (f i))).setIfInBounds 7 (.int .i64 (f i))) ⟨tm, []⟩ v := by
  have e17 : tm.getD 17 undef = .slice a l cap := by rw [Array.getD_eq_getD_getElem?, h17]; rfl
  have e19 : tm.getD 19 undef = .int .i64 (i : Nat) := by rw [Array.getD_eq_getD_getElem?, h19]; rfl
  obtain ⟨b, off, rfl, hc⟩ := hr i hi
  simp only [Tryd.f49, Option.getD_some, atc]
  have s1 : 21 < tm.size := by omega
  have s2 : 22 < tm.size := by omega
  go_wp2_with fail
  all_goals first | exact ⟨HB.refl _, _, rfl⟩ | contradiction
end Go.Proofs.YtfbdgdphpdhcpaaDoor
namespace Go.Proofs.YtfbdgdphpdhcpaaDoor
open Go.RowKit Sm
set_option maxRecDepth 100000

set_option maxHeartbeats 1000000 in
theorem grow_r6 (tm : Array Value) (b0 n d : Nat) (a : Option Addr) (cap : Nat) (g : Nat → Nat) (v : World) (hs : tm.size = 41) (hn : n ≤ 5) (hb : FBox v b0 n a cap g) (h2 : tm[2]? = some (.pointer (some ⟨b0, 0, none⟩))) (h7 : tm[7]? = some (.int .i64 (d : Nat))) :
    (atc [1, 1, 1, 1, 2, 2, 1, 1, 0, 2, 1, 0] (Tryd.f49.body.getD .skip)).wp Tryd.prog (fun e s w => e = .normal ∧ s.defers = [] ∧ HB v w ∧ ∃ z, w.ownsRow v.heap.size 3 1 z (n + 1) (natVals ((List.range n).map g ++ [d])) ∧
      s.tmps[8]? = some z ∧ s.tmps.size = 41 ∧ (∀ i, (i < 23 ∨ 28 < i) → i ≠ 8 → s.tmps[i]? = tm[i]?)) ⟨tm, []⟩ v := by
  have e2 : tm.getD 2 undef = .pointer (some ⟨b0, 0, none⟩) := by rw [Array.getD_eq_getD_getElem?, h2]; rfl
  have e7 : tm.getD 7 undef = .int .i64 (d : Nat) := by rw [Array.getD_eq_getD_getElem?, h7]; rfl
  obtain ⟨h0, h1, hr⟩ := hb
  have HR : Hid (Row v a n (fun k => (g k : Nat))) := hr
  have HS : Hid (tm.size = 41) := hs
  have s8 : 8 < tm.size := by omega
  have s23 : 23 < tm.size := by omega
  have s24 : 24 < tm.size := by omega
  have s25 : 25 < tm.size := by omega
  have s26 : 26 < tm.size := by omega
  have s27 : 27 < tm.size := by omega
  have s28 : 28 < tm.size := by omega
  clear hs hr
  obtain ⟨i0, hi, hz0, hz1, hz2⟩ := info_parts Tryd.info3
  simp only [Tryd.f49, Option.getD_some, atc]
  go_wp2_with fail
  refine (clone_any n a cap g _ (by omega) HR.out).mono ?_
  rintro e w1 ⟨⟨z, rfl, hown⟩, hbl⟩
  have HO : Hid (w1.ownsRow v.heap.size 3 1 z n (rowVals g n)) := hown
  have HQ : Hid (Below v.heap.size v w1) := hbl
  have hsz : v.heap.size ≤ w1.heap.size := hbl.size
  clear hown hbl h0 h1
  go_wp2_with (at_builtin; refine wpList_append_own _ rfl _ _ 22 rfl v.heap.size 3 i0 (.int .i64 0) 1 8 Tryd.underlying22 hi hz0 hz1 hz2 rfl (by decide) z n (rowVals g n) ?e1 (HO.out.alloc _) ⟨w1.heap.size, 0, none⟩ 1 1 [.int .i64 (d : Nat)] ?e2 rfl ?c1 ?c2 ?c3 ?c4 ?c5 ?_)
  case e1 => simp [Act.eval, s25]
  case e2 => simp [Act.eval, s27]
  case c1 =>
    intro j u hj
    match j, hj with
    | 0, hj => simp at hj; subst hj; simp [Addr.add]
  case c2 => intro u hu; simp at hu; subst hu; rfl
  case c3 => unfold maxLen; omega
  case c4 => omega
  case c5 => simp; omega
  intro v' w2 hown' hgrow _
  have HB2 : Hid (Below v.heap.size v w2) := below_append3 HQ.out HO.out hgrow
  have HW : Hid (w2.ownsRow v.heap.size 3 1 v' (n + 1) (natVals ((List.range n).map g ++ [d]))) := by
    have e : rowVals g n ++ [.int .i64 (d : Nat)] = natVals ((List.range n).map g ++ [d]) := by simp [natVals, rowVals]
    rw [← e]; exact hown'
  clear hown' hgrow
  go_wp2_with fail
  refine ⟨.of HB2.out (Nat.le_refl _), v', HW.out, rfl, HS.out, fun i hi h8 => ?_⟩
  repeat rw [Array.getElem?_setIfInBounds_ne (by omega)]
/-- A block that is just a row. -/
theorem own_obj {w : World} {bl n : Nat} {g : Nat → Nat} (h : Own w bl n g) (hs : Szd w bl n) : w.heap[bl]? = some (.cells (rowC ((List.range n).map g)) 3 (0, 0)) := by
  obtain ⟨cs, h1, h2⟩ := hs
  rw [h1]
  have e : cs = rowC ((List.range n).map g) := by
    refine Array.ext (by simp [rowC, natVals, h2]) fun i hi hi2 => ?_
    have h3 := (h i (by omega)).1
    unfold World.cell? at h3
    rw [h1] at h3
    have h4 : cs[i]? = some (.int .i64 (g i : Nat)) := h3
    rw [Array.getElem?_eq_getElem hi] at h4
    have h5 : cs[i] = .int .i64 (g i : Nat) := Option.some.inj h4
    rw [h5]
    simp [rowC, natVals]
  rw [e]
theorem nth_snoc (n : Nat) (g : Nat → Nat) (d k : Nat) : nth ((List.range n).map g ++ [d]) k = if k < n then g k else if k = n then d else 0 := by
  unfold nth
  rw [List.getD_eq_getElem?_getD]
  by_cases h : k < n
  · rw [List.getElem?_append_left (by simpa using h)]; simp [h]
  · rw [List.getElem?_append_right (by simpa using h), if_neg h]
    by_cases e : k = n
    · subst e; simp
    · rw [if_neg e, List.getElem?_eq_none (by simp; omega)]; rfl
set_option maxHeartbeats 1000000 in
theorem grow_r7 (tm : Array Value) (b0 n d : Nat) (a : Option Addr) (cap : Nat) (g : Nat → Nat) (z : Value) (v : World) (hs : tm.size = 41) (hn : n ≤ 5) (hb : FBox v b0 n a cap g) (hT : Tab v) (B : Nat)
    (hown : v.ownsRow B 3 1 z (n + 1) (natVals ((List.range n).map g ++ [d]))) (hg : ∀ k, k < n → g k < 1024) (hd : d < 1024)
    (h2 : tm[2]? = some (.pointer (some ⟨b0, 0, none⟩))) (h8 : tm[8]? = some z) :
    (atc [1, 1, 1, 1, 2, 2, 1, 1, 0, 2, 1, 1, 0] (Tryd.f49.body.getD .skip)).wp Tryd.prog (fun e s w => e = .normal ∧ s.defers = [] ∧ HB v w ∧ ∃ bl b9, v.heap.size ≤ bl ∧ bl < b9 ∧ w.heap[bl]? = some (.cells (rowC (frmL ((List.range n).map g ++ [d]))) 3 (0, 0)) ∧
      w.heap[b9]? = some (.cells #[.int .i64 ((n + 1 : Nat) : Int), .slice (some ⟨bl, 0, none⟩) (n + 1) (n + 1)] 24 (0, 0)) ∧ (frmL ((List.range n).map g ++ [d])).length = n + 1 ∧ s.tmps.size = 41 ∧
      s.tmps[9]? = some (.pointer (some ⟨b9, 0, none⟩)) ∧ (∀ i, (i < 29 ∨ 37 < i) → i ≠ 9 → i ≠ 10 → s.tmps[i]? = tm[i]?)) ⟨tm, []⟩ v := by
  obtain ⟨h0, h1, hr⟩ := hb
  have s9 : 9 < tm.size := by omega
  have s10 : 10 < tm.size := by omega
  have s29 : 29 < tm.size := by omega
  have s30 : 30 < tm.size := by omega
  have s31 : 31 < tm.size := by omega
  have s32 : 32 < tm.size := by omega
  have s33 : 33 < tm.size := by omega
  have s34 : 34 < tm.size := by omega
  have s35 : 35 < tm.size := by omega
  have s36 : 36 < tm.size := by omega
  have s37 : 37 < tm.size := by omega
  have HS : Hid (tm.size = 41) := hs
  clear hs
  obtain ⟨L, hL⟩ : ∃ L, L = (List.range n).map g ++ [d] := ⟨_, rfl⟩
  rw [← hL] at hown ⊢
  have hlen : L.length = n + 1 := by rw [hL]; simp
  obtain ⟨q, c, rfl, hq0⟩ := frow_owns (f := fun k => (nth L k : Nat)) hown fun k hk => natVals_at L k (by omega)
  have hq : Row v q (n + 1) (fun k => (nth L k : Nat)) := fun k hk => by
    obtain ⟨b, e, _, h, _⟩ := hq0 k hk
    exact ⟨b, 0, e, by rw [Nat.zero_add]; exact h⟩
  have hlt : ∀ k, k < n + 1 → nth L k < 1024 := fun k hk => by
    rw [hL, nth_snoc]
    by_cases h : k < n
    · rw [if_pos h]; exact hg k h
    · rw [if_neg h]; split <;> omega
  have e1 : ((n + 1 : Nat) : Int) = (n : Int) + 1 := by omega
  have HF : Hid (Calls Tryd.prog 30 #[.agg #[.int .i64 ((n : Int) + 1), .slice q (n + 1) c]] v fun e w' => (∃ x bl bv, bst (nth L) (n + 1) (per (n + 1) [] (pw (n + 1) - 1)) = some x ∧ e = .returned (.tuple #[.agg #[.int .i64 ((n : Int) + 1), .slice (some ⟨bl, 0, none⟩) (n + 1) (n + 1)], bv]) ∧ Own w' bl (n + 1) (prt (nth L) x) ∧ v.heap.size + 4 ≤ bl ∧ (bl < w'.heap.size ∧ Szd w' bl (n + 1)) ∧ w'.ownsRow v.heap.size 3 1 bv (n + 1) (natVals x)) ∧ Below v.heap.size v w') := by
    have := formOf_any (n + 1) q c (nth L) v (by omega) hlt hq hT
    rw [e1] at this
    exact this
  have HFR : Hid (∀ x, bst (nth L) (n + 1) (per (n + 1) [] (pw (n + 1) - 1)) = some x → frmL L = (List.range (n + 1)).map (prt (nth L) x)) := fun x hx => by
    unfold frmL
    rw [hlen, hx]
  clear hown hr hq hq0 hlt e1 hL hg hd
  clear hT
  simp only [Tryd.f49, Option.getD_some, atc]
  go_wp2_with fail
  refine HF.out.mono ?_
  rintro e w1 ⟨⟨x, bl, bv, hx, rfl, ho, hbl, ⟨hlt, hsz⟩, _⟩, hbw⟩
  have HO : Hid (w1.heap[bl]? = some (.cells (rowC (frmL L)) 3 (0, 0)) ∧ v.heap.size ≤ bl ∧ (frmL L).length = n + 1) := ⟨by rw [HFR.out x hx]; exact own_obj ho hsz, by omega, by rw [HFR.out x hx]; simp⟩
  have HQ : Hid (Below v.heap.size v w1 ∧ bl < w1.heap.size) := ⟨hbw, hlt⟩
  clear hx ho hbl hlt hsz hbw h0 h1
  go_wp2_with fail
  refine ⟨.of (HQ.out.1.alloc HQ.out.1.size _) (Nat.le_refl _), bl, HO.out.2.1, w1.heap.size, HQ.out.2, (Below.heap_alloc _ _ _ HQ.out.2).trans HO.out.1, heap_new _ _, HO.out.2.2, HS.out, rfl, fun i hi h9 h10 => ?_⟩
  repeat rw [Array.getElem?_setIfInBounds_ne (by omega)]
end Go.Proofs.YtfbdgdphpdhcpaaDoor
