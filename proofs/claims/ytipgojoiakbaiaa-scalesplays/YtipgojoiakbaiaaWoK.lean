/-
  What scales.Play answers. Condition: slices read as slices of numbers.
-/
import Derived.Test.YtipgojoiakbaiaaWoZ
import Derived.Deep.Cut
namespace Go.Proofs.Ytipgojoiakbaiaa
open Go.RowKit Go.Maps Go.WideMaps
set_option maxRecDepth 100000

/-- A box in which a table lies. -/
def TBx (w : World) (b : Nat) (n : Int) (m : Option Nat) : Prop := (w.cell? ⟨b, 0, none⟩ = some (.int .i64 n) ∧ w.frozen? ⟨b, 0, none⟩ = false) ∧ (w.cell? ⟨b, 1, none⟩ = some (.map m) ∧ w.frozen? ⟨b, 1, none⟩ = false)
theorem TBx.lt {w : World} {b : Nat} {n : Int} {m : Option Nat} (h : TBx w b n m) : b < w.heap.size := World.block_lt_of_cell? _ _ h.1.1
theorem TBx.keep {w w' : World} {b B : Nat} {n : Int} {m : Option Nat} (h : TBx w b n m) (hb : Below B w w') (hB : b < B) : TBx w' b n m :=
  ⟨⟨(hb.cell (p := ⟨b, 0, none⟩) hB).trans h.1.1, (hb.frozen (p := ⟨b, 0, none⟩) hB).trans h.1.2⟩, ⟨(hb.cell (p := ⟨b, 1, none⟩) hB).trans h.2.1, (hb.frozen (p := ⟨b, 1, none⟩) hB).trans h.2.2⟩⟩
theorem KB.lt {w : World} {b : Nat} {g : Nat → Nat} (h : KB w b g) : b < w.heap.size := World.block_lt_of_cell? _ _ (h 0 (by decide)).1
theorem tb_new {X wa : World} (h : X.alloc (.cells #[.int .i64 0, .map none] 58) = wa) : Hid (TBx wa X.heap.size 0 none) := by rw [← h]; show TBx _ _ _ _; simp [TBx]
theorem kb_new {X wa : World} (h : X.alloc (.cells #[.int .i64 0, .int .i64 0, .int .i64 0, .int .i64 0, .int .i64 0] 62) = wa) : Hid (KB wa X.heap.size (fun _ => 0)) := by rw [← h]; exact KB.box X (fun _ => 0)
theorem tb_be {X Y : World} {b : Nat} {n : Int} {m : Option Nat} (h : Hid (TBx X b n m)) (hb : Below X.heap.size X Y) : Hid (TBx Y b n m) := h.out.keep hb h.out.lt
theorem kb_be {X Y : World} {b : Nat} {g : Nat → Nat} (h : Hid (KB X b g)) (hb : Below X.heap.size X Y) : Hid (KB Y b g) := h.out.keep hb h.out.lt
theorem mok_be {n Bm k : Nat} {X Y : World} {D : DataW Value} (h : Hid (MOk n Bm k X D)) (hb : Below X.heap.size X Y) : Hid (MOk n Bm k Y D) := h.out.kept (grown_of_below hb _)
theorem tb_al {X Y : World} {o : Obj} {b : Nat} {n : Int} {m : Option Nat} (h : Hid (TBx X b n m)) (e : X.alloc o = Y) : Hid (TBx Y b n m) := tb_be h (by rw [← e]; exact (Below.refl _ _).alloc (Nat.le_refl _) _)
theorem kb_al {X Y : World} {o : Obj} {b : Nat} {g : Nat → Nat} (h : Hid (KB X b g)) (e : X.alloc o = Y) : Hid (KB Y b g) := kb_be h (by rw [← e]; exact (Below.refl _ _).alloc (Nat.le_refl _) _)
theorem tb_kb {X : World} {b b' : Nat} {n : Int} {m : Option Nat} {g : Nat → Nat} (h : TBx X b n m) (k : KB X b' g) : b ≠ b' := by
  rintro rfl
  have h1 := h.2.1
  rw [(k 1 (by decide)).1] at h1
  cases h1
theorem cell_off {X : World} {b b' i j : Nat} {v : Value} (h : b' ≠ b) : (X.setCell ⟨b, i, none⟩ v).cell? ⟨b', j, none⟩ = X.cell? ⟨b', j, none⟩ := World.cell?_setCell_other _ _ _ _ (fun e => h (by injection e with e1; exact e1.symm))
theorem tb_set {X Y : World} {b : Nat} {n' : Int} {m' : Option Nat} {n : Int} {m : Option Nat} (h : Hid (TBx X b n m)) (e : (X.setCell ⟨b, 0, none⟩ (.int .i64 n')).setCell ⟨b, 1, none⟩ (.map m') = Y) : Hid (TBx Y b n' m') := by
  rw [← e]
  have n01 : (⟨b, 0, none⟩ : Addr) ≠ ⟨b, 1, none⟩ := by simp
  have a1 : (X.setCell ⟨b, 0, none⟩ (.int .i64 n')).cell? ⟨b, 1, none⟩ = some (.map m) := by rw [World.cell?_setCell_other _ _ _ _ n01]; exact h.out.2.1
  refine ⟨⟨?_, by simp only [World.frozen?_setCell]; exact h.out.1.2⟩, ⟨World.cell?_setCell_same _ _ _ a1, by simp only [World.frozen?_setCell]; exact h.out.2.2⟩⟩
  rw [World.cell?_setCell_other _ _ _ _ n01.symm]; exact World.cell?_setCell_same _ _ _ h.out.1.1
theorem kb_far2 {X Y : World} {b b' : Nat} {n : Int} {m : Option Nat} {g : Nat → Nat} {u v : Value} (h : Hid (KB X b' g)) (t : Hid (TBx X b n m)) (e : (X.setCell ⟨b, 0, none⟩ u).setCell ⟨b, 1, none⟩ v = Y) : Hid (KB Y b' g) := by
  rw [← e]
  have hne := (tb_kb t.out h.out).symm
  exact fun i hi => ⟨by rw [cell_off hne, cell_off hne]; exact (h.out i hi).1, by simp only [World.frozen?_setCell]; exact (h.out i hi).2⟩
theorem mok_far2 {n Bm k : Nat} {X Y : World} {D : DataW Value} {b : Nat} {n' : Int} {m : Option Nat} {u v : Value} (h : Hid (MOk n Bm k X D)) (t : Hid (TBx X b n' m)) (e : (X.setCell ⟨b, 0, none⟩ u).setCell ⟨b, 1, none⟩ v = Y) : Hid (MOk n Bm k Y D) := by
  rw [← e]
  have hne : Bm ≠ b := fun e => ne_map h.out.own t.out.1.1 e.symm
  exact ⟨(h.out.own.setCell (a := ⟨b, 0, none⟩) hne _).setCell (a := ⟨b, 1, none⟩) hne _, h.out.val⟩
theorem tb_far5 {X Y : World} {b b' : Nat} {n : Int} {m : Option Nat} {g : Nat → Nat} {u0 u1 u2 u3 u4 : Value} (t : Hid (TBx X b n m)) (h : Hid (KB X b' g)) (e : ((((X.setCell ⟨b', 0, none⟩ u0).setCell ⟨b', 1, none⟩ u1).setCell ⟨b', 2, none⟩ u2).setCell ⟨b', 3, none⟩ u3).setCell ⟨b', 4, none⟩ u4 = Y) : Hid (TBx Y b n m) := by
  rw [← e]
  have hne := tb_kb t.out h.out
  exact ⟨⟨by rw [cell_off hne, cell_off hne, cell_off hne, cell_off hne, cell_off hne]; exact t.out.1.1, by simp only [World.frozen?_setCell]; exact t.out.1.2⟩, ⟨by rw [cell_off hne, cell_off hne, cell_off hne, cell_off hne, cell_off hne]; exact t.out.2.1, by simp only [World.frozen?_setCell]; exact t.out.2.2⟩⟩
theorem mok_far5 {n Bm k : Nat} {X Y : World} {D : DataW Value} {b' : Nat} {g : Nat → Nat} {u0 u1 u2 u3 u4 : Value} (h : Hid (MOk n Bm k X D)) (t : Hid (KB X b' g)) (e : ((((X.setCell ⟨b', 0, none⟩ u0).setCell ⟨b', 1, none⟩ u1).setCell ⟨b', 2, none⟩ u2).setCell ⟨b', 3, none⟩ u3).setCell ⟨b', 4, none⟩ u4 = Y) : Hid (MOk n Bm k Y D) := by
  rw [← e]
  have hne : Bm ≠ b' := fun e => ne_map h.out.own (t.out 0 (by decide)).1 e.symm
  exact ⟨((((h.out.own.setCell (a := ⟨b', 0, none⟩) hne _).setCell (a := ⟨b', 1, none⟩) hne _).setCell (a := ⟨b', 2, none⟩) hne _).setCell (a := ⟨b', 3, none⟩) hne _).setCell (a := ⟨b', 4, none⟩) hne _, h.out.val⟩
theorem set2K {N : Nat} {w X : World} {b : Nat} {u v : Value} (h : Below N w X) (hb : N ≤ b) : Below N w ((X.setCell ⟨b, 0, none⟩ u).setCell ⟨b, 1, none⟩ v) :=
  Below.setCell (p := ⟨b, 1, none⟩) (Below.setCell (p := ⟨b, 0, none⟩) h hb _) hb _
theorem set5K {N : Nat} {w X : World} {b : Nat} {u0 u1 u2 u3 u4 : Value} (h : Below N w X) (hb : N ≤ b) : Below N w (((((X.setCell ⟨b, 0, none⟩ u0).setCell ⟨b, 1, none⟩ u1).setCell ⟨b, 2, none⟩ u2).setCell ⟨b, 3, none⟩ u3).setCell ⟨b, 4, none⟩ u4) :=
  Below.setCell (p := ⟨b, 4, none⟩) (Below.setCell (p := ⟨b, 3, none⟩) (Below.setCell (p := ⟨b, 2, none⟩) (Below.setCell (p := ⟨b, 1, none⟩) (Below.setCell (p := ⟨b, 0, none⟩) h hb _) hb _) hb _) hb _) hb _
theorem kb_set {X Y : World} {b : Nat} {g u : Nat → Nat} (h : Hid (KB X b g)) (e : ((((X.setCell ⟨b, 0, none⟩ (.int .i64 (u 0 : Nat))).setCell ⟨b, 1, none⟩ (.int .i64 (u 1 : Nat))).setCell ⟨b, 2, none⟩ (.int .i64 (u 2 : Nat))).setCell ⟨b, 3, none⟩ (.int .i64 (u 3 : Nat))).setCell ⟨b, 4, none⟩ (.int .i64 (u 4 : Nat)) = Y) : Hid (KB Y b u) := by
  rw [← e]; exact h.out.set5 u
theorem pinfo_parts : ∃ j0 : TypeInfo, Try.prog.info? 42 = some j0 ∧ j0.zero = some (.agg #[.int .i64 0, .int .i64 0]) ∧ j0.size = 2 ∧ j0.bytes = 16 := info_parts Try.info42
/-- How long a slice is. -/
def lenV : Value → Nat
  | .slice _ l _ => l
  | _ => 0
theorem lenV_slice (a : Option Addr) (l c : Nat) : lenV (.slice a l c) = l := rfl
/-- What lies in a round of the play. -/
structure LS (n Bm b10 b11 B0 : Nat) (r : Nat → Int) (w : World) (g0 : Nat → Nat) (wx : World) (v : Value) (L : List (Nat × Nat)) (g : Nat → Nat) (b13 : Nat) : Prop where
  pf : PF n Bm b10 b11 B0 w wx g
  map : ∃ D, MOk n Bm ((L.length + 1) * 21 ^ 11) wx D
  wb : WB wx b13 ((nx n g).a : Nat) ((nx n g).b : Nat) ((nx n g).c : Nat)
  ty : TyB wx b13 55
  hb13 : B0 ≤ b13
  own : wx.ownsRow B0 42 2 v L.length (pairVals L)
  pl : Pl n r g0 L g
  ok : WOk n g
  rw : IsRw g n n r
theorem LS.step {n Bm b10 b11 B0 : Nat} {r : Nat → Int} {w : World} {g0 : Nat → Nat} {wx wy : World} {v : Value} {L : List (Nat × Nat)} {g : Nat → Nat} {b13 : Nat} (h : LS n Bm b10 b11 B0 r w g0 wx v L g b13) (hb : Below wx.heap.size wx wy) : LS n Bm b10 b11 B0 r w g0 wy v L g b13 :=
  ⟨h.pf.step hb, by obtain ⟨D, hD⟩ := h.map; exact ⟨D, hD.kept (grown_of_below hb _)⟩, h.wb.grown (grown_of_below hb none) (by simp), h.ty.grown (grown_of_below hb none) (by simp), h.hb13, owns_below h.own hb, h.pl, h.ok, h.rw⟩
theorem LS.lenv {n Bm b10 b11 B0 : Nat} {r : Nat → Int} {w : World} {g0 : Nat → Nat} {wx : World} {v : Value} {L : List (Nat × Nat)} {g : Nat → Nat} {b13 : Nat} (h : LS n Bm b10 b11 B0 r w g0 wx v L g b13) : lenV v = L.length := by
  rcases h.own.2 with ⟨rfl, h1⟩ | ⟨b, cap, cur, rfl, _⟩
  · rw [h1]; rfl
  · rfl
theorem pairVals_one' (p q : Nat) : pairVals [(p, q)] = [.int .i64 (p : Nat), .int .i64 (q : Nat)] := rfl
/-- Behind the append: what lies, ahead of what comes next. -/
theorem LS.app {n Bm b10 b11 B0 : Nat} {r : Nat → Int} {w : World} {g0 : Nat → Nat} {wx w6 : World} {v : Value} {L : List (Nat × Nat)} {g : Nat → Nat} {b13 : Nat} {o : Obj} (h : LS n Bm b10 b11 B0 r w g0 wx v L g b13) (hg : (wx.alloc o).grownBy w6 v.ownBlock) :
    PF n Bm b10 b11 B0 w w6 g ∧ (∃ D, MOk n Bm ((L.length + 1) * 21 ^ 11) w6 D) ∧ WB w6 b13 ((nx n g).a : Nat) ((nx n g).b : Nat) ((nx n g).c : Nat) := by
  have ha : wx.grownBy (wx.alloc o) none := World.grownBy_alloc _ _ none
  have hob : ∀ k, v.ownBlock = some k → B0 ≤ k := owns_block h.own
  refine ⟨(h.pf.grown ha (fun k e => by cases e)).grown hg (fun k e => .inr (hob k e)), ?_, ?_⟩
  · obtain ⟨D, hD⟩ := h.map
    refine ⟨D, (hD.grown ha (by simp)).grown hg (fun e => ?_)⟩
    have h1 := hob Bm e.symm
    have h2 := h.pf.hi.2.2.2.2.2.1
    omega
  · have hal := h.own.alloc o
    have ht := h.ty.grown ha (by simp)
    exact (h.wb.grown ha (by simp)).grown hg (ht.ne hal)
theorem PSF.mono {w : World} {v : Value} {l : List (Nat × Nat)} {B B' : Nat} (h : PSF w v l B) (hB : B' ≤ B) : PSF w v l B' := by
  obtain ⟨a, cap, rfl, hr, hf⟩ := h
  exact ⟨a, cap, rfl, hr, hf.mono hB⟩
theorem room_play {k : Nat} (h : k ≤ 10) : (k + 1) * 21 ^ 11 + 21 ^ 11 < maxLen := by
  have : (k + 1) * 21 ^ 11 ≤ 11 * 21 ^ 11 := Nat.mul_le_mul_right _ (by omega)
  have h2 : 11 * 21 ^ 11 + 21 ^ 11 < maxLen := by unfold maxLen; decide
  exact Nat.lt_of_le_of_lt (Nat.add_le_add_right this _) h2
theorem WB.off5 {X : World} {b b' : Nat} {x y z : Int} (h : WB X b x y z) (hne : b ≠ b') (u0 u1 u2 u3 u4 : Value) : WB (((((X.setCell ⟨b', 0, none⟩ u0).setCell ⟨b', 1, none⟩ u1).setCell ⟨b', 2, none⟩ u2).setCell ⟨b', 3, none⟩ u3).setCell ⟨b', 4, none⟩ u4) b x y z := by
  refine ⟨⟨?_, ?_⟩, ⟨?_, ?_⟩, ⟨?_, ?_⟩⟩
  · rw [cell_off hne, cell_off hne, cell_off hne, cell_off hne, cell_off hne]; exact h.1.1
  · simp only [World.frozen?_setCell]; exact h.1.2
  · rw [cell_off hne, cell_off hne, cell_off hne, cell_off hne, cell_off hne]; exact h.2.1.1
  · simp only [World.frozen?_setCell]; exact h.2.1.2
  · rw [cell_off hne, cell_off hne, cell_off hne, cell_off hne, cell_off hne]; exact h.2.2.1
  · simp only [World.frozen?_setCell]; exact h.2.2.2
theorem grown_at (X : World) (b i : Nat) (v : Value) : X.grownBy (X.setCell ⟨b, i, none⟩ v) (some b) := by
  have h := Below.setCell (B := 0) (p := ⟨b, i, none⟩) (Below.refl 0 X) (Nat.zero_le _) v
  exact ⟨h.os, h.tape, h.output, h.size, fun k _ hne => Below.heap_setCell X ⟨b, i, none⟩ v k (fun e => hne (by rw [e]))⟩
theorem TyB.set {X : World} {b : Nat} {T : TypeId} (h : TyB X b T) (i : Nat) (v : Value) : TyB (X.setCell ⟨b, i, none⟩ v) b T := by
  obtain ⟨cs, fr, h⟩ := h
  exact ⟨cs.setIfInBounds i v, fr, by rw [setCell_eq_setRow X b i cs T fr v h]; exact setRow_heap X b cs _ T fr h⟩
theorem LS.close {n Bm b10 b11 B0 : Nat} {r : Nat → Int} {w : World} {g0 : Nat → Nat} {X : World} {v : Value} {L : List (Nat × Nat)} {p q : Nat} {g : Nat → Nat} {b14 : Nat} {x y z : Int} {D : DataW Value} (hp : PF n Bm b10 b11 B0 w X g) (hm : MOk n Bm ((L.length + 1) * 21 ^ 11 + 21 ^ 11) X D) (hw : WB X b14 x y z) (ht : TyB X b14 55) (hb : B0 ≤ b14)
    (ho : X.ownsRow B0 42 2 v (L ++ [(p, q)]).length (pairVals (L ++ [(p, q)]))) (hpl : Pl n r g0 (L ++ [(p, q)]) g) (hok : WOk n g) (hrw : IsRw g n n r) :
    LS n Bm b10 b11 B0 r w g0 (((X.setCell ⟨b14, 0, none⟩ (.int .i64 ((nx n g).a : Nat))).setCell ⟨b14, 1, none⟩ (.int .i64 ((nx n g).b : Nat))).setCell ⟨b14, 2, none⟩ (.int .i64 ((nx n g).c : Nat))) v (L ++ [(p, q)]) g b14 := by
  have hg : X.grownBy (((X.setCell ⟨b14, 0, none⟩ (.int .i64 ((nx n g).a : Nat))).setCell ⟨b14, 1, none⟩ (.int .i64 ((nx n g).b : Nat))).setCell ⟨b14, 2, none⟩ (.int .i64 ((nx n g).c : Nat))) (some b14) := ((grown_at X b14 0 _).trans (grown_at _ b14 1 _)).trans (grown_at _ b14 2 _)
  have hBm := hp.hi.2.2.2.2.2.1
  refine ⟨hp.grown hg (fun k e => .inr (by have := Option.some.inj e; omega)), ⟨D, ?_⟩, hw.set3 _ _ _, ((ht.set 0 _).set 1 _).set 2 _, hb, ho.kept hg (.inr fun e => ht.ne ho e.symm), hpl, hok, hrw⟩
  have h1 := hm.grown hg (fun e => by have := Option.some.inj e; omega)
  have e : (L.length + 1) * 21 ^ 11 + 21 ^ 11 = ((L ++ [(p, q)]).length + 1) * 21 ^ 11 := by rw [List.length_append, Nat.add_mul (L.length + [(p, q)].length) 1, Nat.one_mul]; rfl
  rw [e] at h1; exact h1
/-- What must be said of an order that is weighed out and a row. -/
def PlCk (n : Int) (len : Nat) (f : Nat → Int) (lr : Nat) (r : Nat → Int) (c : Int) : Prop := (c ≠ 0 ∧ WCk n len f c) ∨ (WCk n len f 0 ∧ ((c = 1 ∧ ¬ IsRw (nat f) len lr r) ∨ (c = 0 ∧ IsRw (nat f) len lr r)))
theorem knw_eq {f : Nat → Int} {len k : Nat} (h : k < len) : knw (nat f) len k = nat f k := by unfold knw; rw [if_pos h]
theorem knw_rw {f : Nat → Int} {len lr : Nat} {r : Nat → Int} (h : IsRw (nat f) len lr r) : IsRw (knw (nat f) len) len lr r := by
  refine ⟨h.1, fun j hj => ?_⟩
  obtain ⟨h1, h2, h3⟩ := h.2 j hj
  refine ⟨h1, h2, ?_⟩
  unfold may at h3 ⊢
  rw [knw_eq (nat_lt h1 h2)]; exact h3
def PlayPost (B : Nat) (n : Int) (len : Nat) (f : Nat → Int) (lr : Nat) (r : Nat → Int) (e : Ending) (w' : World) : Prop := ∃ (c : Int) (x y : Value), e = .returned (.tuple #[x, y, .int .i64 c]) ∧ PlCk n len f lr r c ∧
  ((c ≠ 0 ∧ x = .slice none 0 0 ∧ y = .slice none 0 0) ∨ (c = 0 ∧ ∃ L g, PSF w' x L B ∧ L.length ≤ 10 ∧ Pl len r (knw (nat f) len) L g ∧ cst len g = 0 ∧ ∃ a cap, y = .slice a len cap ∧ Row w' a len r ∧ Fresh B a len))
set_option maxHeartbeats 4000000 in
theorem play_any (n : Int) (a : Option Addr) (len cap : Nat) (f : Nat → Int) (ar : Option Addr) (lr cr : Nat) (r : Nat → Int) (w : World) (hl : len ≤ maxLen) (hlr : lr ≤ maxLen) (hr : Row w a len f) (hrr : Row w ar lr r) :
    Calls Try.prog 16 #[.agg #[.int .i64 n, .slice a len cap], .slice ar lr cr] w fun e w' => PlayPost (w.heap.size + 1) n len f lr r e w' ∧ Below w.heap.size w w' := by
  have K0 : Held (w.alloc (.cells #[.int .i64 n, .slice a len cap] 24)) w.heap.size n a len cap f := Held.box hr
  have HB0 : Hid (Below w.heap.size w (w.alloc (.cells #[.int .i64 n, .slice a len cap] 24))) := (Below.refl _ _).alloc (Nat.le_refl _) _
  have HRR : Hid (∀ wx, Below w.heap.size w wx → Row wx ar lr r) := fun wx h => hrr.below h
  clear hr hrr
  go_enter Try.func16, Try.ntmps16
  go_wp2_with fail
  refine (scheck_any n a len cap f _ hl K0.row).mono ?_
  rintro e w1 ⟨⟨c, rfl, hc⟩, hb⟩
  have K1 := K0.step hb
  have HB1 : Hid (Below w.heap.size w w1) := Below.then HB0.out hb
  have HC : Hid (WCk n len f c) := hc
  clear hb K0 HB0 hc
  by_cases h0 : c = 0
  · subst h0
    obtain ⟨rfl, h5, hrng, hord⟩ := HC.out.good
    have HCh : Hid (Chk (len : Int) len f 0) := by
      rcases HC.out with ⟨h, _⟩ | ⟨h, _⟩
      · exact absurd rfl h
      · exact h
    have k0 := K1.c0
    have k1 := K1.c1
    go_wp2_with fail
    refine (rank_any len a len cap f ar lr cr r _ hl hlr K1.row (HRR.out _ HB1.out)).mono ?_
    rintro e w2 ⟨⟨c', hc', hcs⟩, hb2⟩
    obtain rfl := Chk.unique hc' HCh.out
    have HB2' : Hid (Below w.heap.size w w2) := Below.then HB1.out hb2
    have K2 := K1.step hb2
    clear hc' hb2 k0 k1 K1
    rcases hcs with ⟨h, _⟩ | ⟨_, hnot, rfl⟩ | ⟨_, hrow, rfl⟩
    · exact absurd rfl h
    · have HN : Hid (¬ IsRw (nat f) len lr r) := hnot
      clear hnot K2 hrng hord
      go_wp2_with fail
      go_ret3
      exact ⟨⟨1, _, _, rfl, .inr ⟨HC.out, .inl ⟨rfl, HN.out⟩⟩, .inl ⟨by decide, rfl, rfl⟩⟩, HB2'.out⟩
    · obtain rfl : lr = len := hrow.1
      have HW : Hid (WOk lr (knw (nat f) lr)) := HC.out.wok
      have HRW : Hid (IsRw (nat f) lr lr r) := hrow
      have HR : Hid (∀ wx, Below w2.heap.size w2 wx → Row wx a lr (fun k => (nat f k : Nat))) := fun wx h => hrng.row (K2.step h).row
      have hc0 : ∀ wx, Below w2.heap.size w2 wx → wx.cell? ⟨w.heap.size, 0, none⟩ = some (.int .i64 (lr : Nat)) := fun wx h => (K2.step h).c0
      have hc1 : ∀ wx, Below w2.heap.size w2 wx → wx.cell? ⟨w.heap.size, 1, none⟩ = some (.slice a lr cap) := fun wx h => (K2.step h).c1
      have HB2 : Hid (Below w2.heap.size w2 w2) := Below.refl _ _
      have HLT : Hid (w.heap.size < w2.heap.size) := World.block_lt_of_cell? _ _ K2.c0
      generalize rk (nat f) lr (nat r) lr = RK at *
      clear K2 hrow hrng hord
      go_wp2_with fail
      rename_i Kc hKc
      have HREST : Hid (∀ (b10 b11 Bm : Nat) (W : World) (D : DataW Value), w2.heap.size ≤ b10 → w2.heap.size ≤ b11 → w2.heap.size ≤ Bm → TBx W b10 lr (some Bm) → KB W b11 (knw (nat f) lr) → MOk lr Bm 0 W D → Below w2.heap.size w2 W → Kc { tmps := ((.agg #[.int .i64 (lr : Nat), .slice a lr cap] : Value) :: (.slice ar lr cr : Value) :: (.pointer (some ⟨w.heap.size, 0, none⟩) : Value) :: undef :: (.slice none 0 0 : Value) :: (.slice none 0 0 : Value) :: (.int .i64 0 : Value) :: (.int .i64 0 : Value) :: (.int .i64 (RK : Nat) : Value) :: (.int .i64 0 : Value) :: (.pointer (some ⟨b10, 0, none⟩) : Value) :: (.pointer (some ⟨b11, 0, none⟩) : Value) :: undef :: undef :: undef :: undef :: (.agg #[.int .i64 (lr : Nat), .slice a lr cap] : Value) :: (.int .i64 0 : Value) :: (.int .i64 0 : Value) :: (.bool false : Value) :: undef :: (.tuple #[.int .i64 (RK : Nat), .int .i64 0] : Value) :: (.agg #[.int .i64 (lr : Nat), .slice a lr cap] : Value) :: (.slice ar lr cr : Value) :: (.tuple #[.int .i64 (RK : Nat), .int .i64 0] : Value) :: (.int .i64 (RK : Nat) : Value) :: (.int .i64 0 : Value) :: (.int .i64 0 : Value) :: (.bool false : Value) :: undef :: (.pointer (some ⟨w.heap.size, 0, none⟩) : Value) :: (.int .i64 (lr : Nat) : Value) :: (.agg #[.int .i64 (lr : Nat), .map (some Bm)] : Value) :: (.agg #[.int .i64 (lr : Nat), .slice a lr cap] : Value) :: (.agg #[.int .i64 (knw (nat f) lr 0 : Nat), .int .i64 (knw (nat f) lr 1 : Nat), .int .i64 (knw (nat f) lr 2 : Nat), .int .i64 (knw (nat f) lr 3 : Nat), .int .i64 (knw (nat f) lr 4 : Nat)] : Value) :: undef :: undef :: undef :: undef :: undef :: undef :: undef :: undef :: undef :: undef :: undef :: undef :: undef :: undef :: undef :: undef :: undef :: undef :: undef :: undef :: undef :: undef :: undef :: undef :: undef :: undef :: undef :: undef :: undef :: undef :: undef :: undef :: undef :: undef :: []).toArray, defers := [] } W) := by
        intro b10 b11 Bm W D q1 q2 q3 hT hK hM hB
        refine hKc _ _ ?_
        have HLT' := HLT.out
        have hPF : PF lr Bm b10 b11 W.heap.size w W (knw (nat f) lr) := ⟨Below.then HB2'.out hB, ⟨by omega, by omega, by omega, hT.lt, hK.lt, hM.own.lt, tb_kb hT hK, Nat.le_refl _, fun e => ne_map hM.own hT.1.1 e, fun e => ne_map hM.own (hK 0 (by decide)).1 e⟩, hc0 W hB, hT.1.1, hT.2.1, hK⟩
        have HPF : Hid (PF lr Bm b10 b11 W.heap.size w W (knw (nat f) lr)) := hPF
        have HM : Hid (MOk lr Bm 0 W D) := hM
        have tt0 := hPF.t0
        have tt1 := hPF.t1
        have p0 := (hK 0 (by decide)).1
        have p1 := (hK 1 (by decide)).1
        have p2 := (hK 2 (by decide)).1
        have p3 := (hK 3 (by decide)).1
        have p4 := (hK 4 (by decide)).1
        have HRWK : Hid (IsRw (knw (nat f) lr) lr lr r) := knw_rw HRW.out
        clear hPF hT hK hM hc0 hc1 hB HLT' q1 q2 q3 hKc HR
        go_wp2_with fail
        refine (next_any (knw (nat f) lr) _ _ 0 HW.out HM.out room0).mono ?_
        rintro e w3 ⟨rfl, hg3, D3, hm3⟩
        unfold wgV
        have HPF3 : Hid (PF lr Bm b10 b11 W.heap.size w w3 (knw (nat f) lr)) := HPF.out.grown hg3 (fun k e => .inl (Option.some.inj e).symm)
        have HM3 : Hid (MOk lr Bm (0 + 21 ^ 11) w3 D3) := hm3
        obtain ⟨w4, HW4⟩ : ∃ w4, Hid (w3.alloc (.cells #[.int .i64 ((nx lr (knw (nat f) lr)).a : Nat), .int .i64 ((nx lr (knw (nat f) lr)).b : Nat), .int .i64 ((nx lr (knw (nat f) lr)).c : Nat)] 55) = w4) := ⟨_, rfl⟩
        have HLS : Hid (LS lr Bm b10 b11 W.heap.size r w (knw (nat f) lr) w4 (.slice none 0 0) [] (knw (nat f) lr) w3.heap.size) := by
          rw [← HW4.out]
          refine ⟨HPF3.out.grown (World.grownBy_alloc _ _ none) (fun k e => by cases e), ⟨D3, ?_⟩, WB.new _ _ _ _, TyB.new _ _ _, HPF3.out.hi.2.2.2.2.2.2.2.1, World.ownsRow_nil _ _ _ _, rfl, HW.out, HRWK.out⟩
          have h1 := HM3.out.kept (World.grownBy_alloc w3 (.cells #[.int .i64 ((nx lr (knw (nat f) lr)).a : Nat), .int .i64 ((nx lr (knw (nat f) lr)).b : Nat), .int .i64 ((nx lr (knw (nat f) lr)).c : Nat)] 55) none)
          simpa using h1
        clear hg3 hm3 HPF HM HPF3 HM3 tt0 tt1 p0 p1 p2 p3 p4
        go_wp2_with fail
        rw [HW4.out]
        clear HW4
        obtain ⟨j0, hj, hy0, hy1, hy2⟩ := pinfo_parts
        go_loopw [12, 13] (fun v p wx => ∃ (L : List (Nat × Nat)) (g : Nat → Nat) (b13 : Nat), p = .pointer (some ⟨b13, 0, none⟩) ∧ LS lr Bm b10 b11 W.heap.size r w (knw (nat f) lr) wx v L g b13) (fun v _ _ => 20 - lenV v)
        case atStart => exact ⟨[], _, _, rfl, HLS.out⟩
        case round =>
          clear HLS
          obtain ⟨L, g, b13, rfl, hS⟩ := hrel
          have hlen := Pl.len HW.out hS.pl
          have hten := cst_ten HW.out
          have hL10 : L.length ≤ 10 := by omega
          have b0 := hS.wb.1.1
          have b1 := hS.wb.2.1.1
          have b2 := hS.wb.2.2.1
          by_cases hc : cst lr g = 0
          · have hcz : (nx lr g).c = 0 := hc
            rw [hcz] at b2
            have HPL : Hid (Pl lr r (knw (nat f) lr) L g) := hS.pl
            have HPS : Hid (PSF wr _ L W.heap.size) := owns_psf hS.own
            have HWz : Hid (w.heap.size + 1 ≤ W.heap.size ∧ W.heap.size ≤ wr.heap.size) := ⟨by have := hS.pf.hi.1; have := hS.pf.hi.2.2.2.1; omega, hS.pf.hi.2.2.2.2.2.2.2.1⟩
            have HC0 : Hid (cst lr g = 0) := hc
            have HOK : Hid (WOk lr g) := hS.ok
            have HRG : Hid (IsRw g lr lr r) := hS.rw
            have HBR : Hid (Below w.heap.size w wr) := hS.pf.below
            have o0 := hS.pf.o0
            have p0 := (hS.pf.kb 0 (by decide)).1
            have p1 := (hS.pf.kb 1 (by decide)).1
            have p2 := (hS.pf.kb 2 (by decide)).1
            have p3 := (hS.pf.kb 3 (by decide)).1
            have p4 := (hS.pf.kb 4 (by decide)).1
            clear hS hc hcz hlen
            go_wp2_with fail
            refine (krow_any lr g r _ HOK.out ((cst_zero HOK.out).1 HC0.out) HRG.out).mono ?_
            rintro e w5 ⟨⟨a5, cap5, rfl, hr5, hf5⟩, hb5⟩
            have HB5 : Hid (Below w.heap.size w w5) := Below.then HBR.out hb5
            have HPS5 : Hid (PSF w5 _ L (w.heap.size + 1)) := (HPS.out.below hb5).mono HWz.out.1
            have HF5 : Hid (Fresh (w.heap.size + 1) a5 lr) := hf5.mono (Nat.le_trans HWz.out.1 HWz.out.2)
            have HR5 : Hid (Row w5 a5 lr r) := hr5
            clear hb5 hr5 hf5 HPS o0 p0 p1 p2 p3 p4
            go_wp2_with fail
            go_ret3
            exact ⟨⟨0, _, _, rfl, .inr ⟨HC.out, .inr ⟨rfl, HRW.out⟩⟩, .inr ⟨rfl, L, g, HPS5.out, hL10, HPL.out, HC0.out, _, _, rfl, HR5.out, HF5.out⟩⟩, HB5.out⟩
          · obtain ⟨n1, n2, n3, n4, n5⟩ := nx_some hS.ok hc
            have HCN : Hid (cst lr g ≠ 0) := hc
            have HLV : Hid (lenV _ = L.length) := hS.lenv
            have hcp : (0 : Int) < ((nx lr g).c : Int) := by have : (nx lr g).c ≠ 0 := hc; omega
            have HS0 : Hid (LS lr Bm b10 b11 W.heap.size r w (knw (nat f) lr) wr _ L g b13) := hS
            have HN1 : Hid ((nx lr g).a < (nx lr g).b) := n1
            have HN2 : Hid ((nx lr g).b < lr) := n2
            clear hS hc n1 n2 n3 n4 n5 hlen
            obtain ⟨xa, HXA⟩ : ∃ x, Hid ((nx lr g).a = x) := ⟨_, rfl⟩
            obtain ⟨xb, HXB⟩ : ∃ x, Hid ((nx lr g).b = x) := ⟨_, rfl⟩
            obtain ⟨xc, HXC⟩ : ∃ x, Hid ((nx lr g).c = x) := ⟨_, rfl⟩
            rw [HXA.out] at b0 HN1
            rw [HXB.out] at b1 HN1 HN2
            rw [HXC.out] at b2 hcp
            go_wp2_with fail
            refine (weigh_any lr ar cr r g xa xb _ (by omega) (HRR.out _ HS0.out.pf.below) HS0.out.rw.2 (by have := HN1.out; have := HN2.out; omega) (by have := HN1.out; omega)).mono ?_
            rintro e w5 ⟨⟨p, q, rfl, hpq, hah⟩, hb5⟩
            have HPQ : Hid ((p = (nx lr g).a ∧ q = (nx lr g).b) ∨ (p = (nx lr g).b ∧ q = (nx lr g).a)) := by rw [HXA.out, HXB.out]; exact hpq
            have HAH : Hid (Ahd r lr p q) := hah
            have HS1 : Hid (LS lr Bm b10 b11 W.heap.size r w (knw (nat f) lr) w5 _ L g b13) := HS0.out.step hb5
            have hown := HS1.out.own
            have hsz : W.heap.size ≤ w5.heap.size := HS1.out.pf.hi.2.2.2.2.2.2.2.1
            have hbp := best_pts HS1.out.ok HCN.out HPQ.out
            have hp5 : p < 5 := by omega
            have hq5 : q < 5 := by omega
            clear hpq hah hb5 HS0 b0 b1 b2 hbp
            go_wp2_with (at_builtin; refine wpList_append_own _ rfl _ _ 37 rfl W.heap.size 42 j0 (.agg #[.int .i64 0, .int .i64 0]) 2 16 Try.underlying37 hj hy0 hy1 hy2 rfl (by decide) _ _ _ rfl (hown.alloc _) ⟨w5.heap.size, 0, none⟩ 1 1 [.int .i64 (p : Nat), .int .i64 (q : Nat)] rfl rfl ?c1 ?c2 ?c3 ?c4 ?c5 ?_)
            case c1 =>
              intro j u hj
              match j, hj with
              | 0, hj => simp at hj; subst hj; simp [Addr.add]
              | 1, hj => simp at hj; subst hj; simp [Addr.add]
            case c2 => intro u hu; simp at hu; rcases hu with rfl | rfl <;> rfl
            case c3 => unfold maxLen; omega
            case c4 => omega
            case c5 => simp; omega
            intro v' w6 hown' hgrow _
            obtain ⟨hPF6, ⟨D6, hm6⟩, hwb6⟩ := HS1.out.app hgrow
            have HO6 : Hid (w6.ownsRow W.heap.size 42 2 v' (L ++ [(p, q)]).length (pairVals (L ++ [(p, q)]))) := by
              rw [pairVals_append, List.length_append]; exact hown'
            obtain ⟨g', cap', hv'⟩ := owns_form hown' (by omega)
            rw [hv'] at HO6
            rw [hv']
            have HPF6 : Hid (PF lr Bm b10 b11 W.heap.size w w6 g) := hPF6
            have HM6 : Hid (MOk lr Bm ((L.length + 1) * 21 ^ 11) w6 D6) := hm6
            have HWB6 : Hid (WB w6 b13 ((nx lr g).a : Nat) ((nx lr g).b : Nat) ((nx lr g).c : Nat)) := hwb6
            have HB13 : Hid (W.heap.size ≤ b13) := HS1.out.hb13
            have HPL' : Hid (Pl lr r (knw (nat f) lr) (L ++ [(p, q)]) (wth g p q)) := HS1.out.pl.snoc HCN.out HPQ.out HAH.out
            have hbp := best_pts HS1.out.ok HCN.out HPQ.out
            have HOK' : Hid (WOk lr (wth g p q)) := HS1.out.ok.wth hbp.1 hbp.2.1 hbp.2.2.1 hbp.2.2.2.1
            have HRG' : Hid (IsRw (wth g p q) lr lr r) := row_wth HS1.out.ok HS1.out.rw hbp.1 hbp.2.1 hbp.2.2.1 hbp.2.2.2.1 HAH.out
            have HG32 : Hid (∀ i, g i < 32) := HS1.out.ok.small
            have p0 := (hPF6.kb 0 (by decide)).1
            have p1 := (hPF6.kb 1 (by decide)).1
            have p2 := (hPF6.kb 2 (by decide)).1
            have p3 := (hPF6.kb 3 (by decide)).1
            have p4 := (hPF6.kb 4 (by decide)).1
            clear hPF6 hm6 hwb6 hown' hgrow hv' HS1 hown hsz hbp HPQ HAH HCN HN1 HN2 HXA HXB HXC hj hy0 hy1 hy2
            go_wp2_with fail
            refine (with_any g p q _ hp5 hq5 HG32.out).mono ?_
            rintro e w7 ⟨rfl, hb7⟩
            unfold kva
            have HPF7 : Hid (PF lr Bm b10 b11 W.heap.size w w7 g) := HPF6.out.step hb7
            have HM7 := mok_be HM6 hb7
            have HWB7 : Hid (WB w7 b13 ((nx lr g).a : Nat) ((nx lr g).b : Nat) ((nx lr g).c : Nat)) := HWB6.out.grown (grown_of_below hb7 none) (by simp)
            have HO7 : Hid (w7.ownsRow W.heap.size 42 2 (.slice (some ⟨g', 0, none⟩) (L.length + 1) cap') (L ++ [(p, q)]).length (pairVals (L ++ [(p, q)]))) := owns_below HO6.out hb7
            have z0 := (HPF7.out.kb 0 (by decide)).1
            have z1 := (HPF7.out.kb 1 (by decide)).1
            have z2 := (HPF7.out.kb 2 (by decide)).1
            have z3 := (HPF7.out.kb 3 (by decide)).1
            have z4 := (HPF7.out.kb 4 (by decide)).1
            have y0 := (HPF7.out.kb 0 (by decide)).2
            have y1 := (HPF7.out.kb 1 (by decide)).2
            have y2 := (HPF7.out.kb 2 (by decide)).2
            have y3 := (HPF7.out.kb 3 (by decide)).2
            have y4 := (HPF7.out.kb 4 (by decide)).2
            clear hb7 HPF6 HM6 HWB6 HO6 p0 p1 p2 p3 p4
            go_upto_region 15 with fail
            obtain ⟨w8, HW8⟩ : ∃ w8, Hid (((((w7.setCell ⟨b11, 0, none⟩ (.int .i64 (wth g p q 0 : Nat))).setCell ⟨b11, 1, none⟩ (.int .i64 (wth g p q 1 : Nat))).setCell ⟨b11, 2, none⟩ (.int .i64 (wth g p q 2 : Nat))).setCell ⟨b11, 3, none⟩ (.int .i64 (wth g p q 3 : Nat))).setCell ⟨b11, 4, none⟩ (.int .i64 (wth g p q 4 : Nat)) = w8) := ⟨_, rfl⟩
            have HKB7 : Hid (KB w7 b11 g) := HPF7.out.kb
            have HPF8 : Hid (PF lr Bm b10 b11 W.heap.size w w8 (wth g p q)) := by rw [← HW8.out]; exact HPF7.out.set (wth g p q)
            have HM8 := mok_far5 HM7 HKB7 HW8.out
            have hb11 : b11 < W.heap.size := HPF7.out.hi.2.2.2.2.1
            have HO8 : Hid (w8.ownsRow W.heap.size 42 2 (.slice (some ⟨g', 0, none⟩) (L.length + 1) cap') (L ++ [(p, q)]).length (pairVals (L ++ [(p, q)]))) := by rw [← HW8.out]; exact own_set5 HO7.out hb11 _ _ _ _ _
            have HWB8 : Hid (WB w8 b13 ((nx lr g).a : Nat) ((nx lr g).b : Nat) ((nx lr g).c : Nat)) := by rw [← HW8.out]; exact HWB7.out.off5 (by have := HB13.out; omega) _ _ _ _ _
            rw [HW8.out]
            have b0 := HWB8.out.1.1
            have b1 := HWB8.out.2.1.1
            have b2 := HWB8.out.2.2.1
            clear HPF7 HM7 HWB7 HO7 z0 z1 z2 z3 z4 y0 y1 y2 y3 y4 HW8 HKB7 hb11 HWB8 HB13
            go_upto_region 11 with fail
            obtain ⟨w9, HW9⟩ : ∃ w9, Hid (w8.alloc (.cells #[.int .i64 ((nx lr g).a : Nat), .int .i64 ((nx lr g).b : Nat), .int .i64 ((nx lr g).c : Nat)] 55) = w9) := ⟨_, rfl⟩
            have ga : w8.grownBy w9 none := by rw [← HW9.out]; exact World.grownBy_alloc _ _ none
            have HPF9 : Hid (PF lr Bm b10 b11 W.heap.size w w9 (wth g p q)) := HPF8.out.grown ga (fun k e => by cases e)
            have HM9 := mok_of HM8 HW9.out
            have HO9 : Hid (w9.ownsRow W.heap.size 42 2 (.slice (some ⟨g', 0, none⟩) (L.length + 1) cap') (L ++ [(p, q)]).length (pairVals (L ++ [(p, q)]))) := by rw [← HW9.out]; exact HO8.out.alloc _
            have HWB9 : Hid (WB w9 w8.heap.size ((nx lr g).a : Nat) ((nx lr g).b : Nat) ((nx lr g).c : Nat)) := by rw [← HW9.out]; exact WB.new _ _ _ _
            have HTY9 : Hid (TyB w9 w8.heap.size 55) := by rw [← HW9.out]; exact TyB.new _ _ _
            have HSZ : Hid (W.heap.size ≤ w8.heap.size) := HPF8.out.hi.2.2.2.2.2.2.2.1
            rw [HW9.out]
            have tt0 := HPF9.out.t0
            have tt1 := HPF9.out.t1
            have p0 := (HPF9.out.kb 0 (by decide)).1
            have p1 := (HPF9.out.kb 1 (by decide)).1
            have p2 := (HPF9.out.kb 2 (by decide)).1
            have p3 := (HPF9.out.kb 3 (by decide)).1
            have p4 := (HPF9.out.kb 4 (by decide)).1
            clear HPF8 HM8 HO8 HW9 ga b0 b1 b2
            go_wp2_with fail
            refine (next_any (wth g p q) _ _ _ HOK'.out HM9.out (room_play hL10)).mono ?_
            rintro e w10 ⟨rfl, hg10, D10, hm10⟩
            unfold wgV
            have HPF10 : Hid (PF lr Bm b10 b11 W.heap.size w w10 (wth g p q)) := HPF9.out.grown hg10 (fun k e => .inl (Option.some.inj e).symm)
            have HBmB : Hid (Bm < W.heap.size) := HPF9.out.hi.2.2.2.2.2.1
            have HO10 : Hid (w10.ownsRow W.heap.size 42 2 (.slice (some ⟨g', 0, none⟩) (L.length + 1) cap') (L ++ [(p, q)]).length (pairVals (L ++ [(p, q)]))) := HO9.out.kept hg10 (.inr (fun e => by have h1 := owns_block HO9.out Bm e; have := HBmB.out; omega))
            have hneB : some w8.heap.size ≠ some Bm := fun e => by have e2 := Option.some.inj e; have := HBmB.out; have := HSZ.out; omega
            have HWB10 : Hid (WB w10 w8.heap.size ((nx lr g).a : Nat) ((nx lr g).b : Nat) ((nx lr g).c : Nat)) := HWB9.out.grown hg10 hneB
            have HTY10 : Hid (TyB w10 w8.heap.size 55) := HTY9.out.grown hg10 hneB
            obtain ⟨b14, HB14⟩ : ∃ b14, Hid (w8.heap.size = b14) := ⟨_, rfl⟩
            rw [HB14.out] at HWB10 HTY10 HSZ
            rw [HB14.out]
            have HLS11 : Hid (LS lr Bm b10 b11 W.heap.size r w (knw (nat f) lr) (((w10.setCell ⟨b14, 0, none⟩ (.int .i64 ((nx lr (wth g p q)).a : Nat))).setCell ⟨b14, 1, none⟩ (.int .i64 ((nx lr (wth g p q)).b : Nat))).setCell ⟨b14, 2, none⟩ (.int .i64 ((nx lr (wth g p q)).c : Nat))) (.slice (some ⟨g', 0, none⟩) (L.length + 1) cap') (L ++ [(p, q)]) (wth g p q) b14) :=
              LS.close HPF10.out hm10 HWB10.out HTY10.out HSZ.out HO10.out HPL'.out HOK'.out HRG'.out
            have m0 := HWB10.out.1.1
            have m1 := HWB10.out.2.1.1
            have m2 := HWB10.out.2.2.1
            have f0 := HWB10.out.1.2
            have f1 := HWB10.out.2.1.2
            have f2 := HWB10.out.2.2.2
            clear hg10 hm10 HPF9 HM9 HO9 HWB9 HTY9 HPF10 HO10 HWB10 HTY10 tt0 tt1 p0 p1 p2 p3 p4 hneB HB14
            go_wp2_with fail
            go_roundw
            case rel => exact ⟨L ++ [(p, q)], wth g p q, b14, rfl, HLS11.out⟩
            case measure => have := HLV.out; simp [lenV_slice]; omega
      refine wp_region_held_drew (S := (fun w' => Below w2.heap.size w2 w')) (by kernel_rfl) (HB2.out.drew) (fun hHeld => ?_)
      generalize hwd : w2.drew = wd at hHeld ⊢
      clear hwd
      refine wpAnyH_take (i := 0) (oi := { dst := some 30, op := Go.Op.fieldAddr 24 (Go.Operand.tmp 2) 0, type := 0, pos := "scales.go:36", after := #[], guard := none }) (v := ?_) rfl (by kernel_rfl) (by kernel_rfl) (by kernel_rfl) (fun _ _ _ h => h) (Or.inl ⟨by rfl, ?hy⟩) (by assumption) ?_
      case hy => (intro w9 hSw; (try dsimp only at hSw); go_simp; try with_reducible rfl)
      try simp only [Act.put, List.setIfInBounds_toArray, List.set_cons_zero, List.set_cons_succ]
      refine wpAnyH_take (i := 1) (oi := { dst := some 31, op := Go.Op.load 3 (Go.Operand.tmp 30), type := 3, pos := "scales.go:36", after := #[{ on := 0, ground := Go.Ground.data }], guard := none }) (v := ?_) rfl (by kernel_rfl) (by kernel_rfl) (by kernel_rfl) (fun _ _ _ h => h) (Or.inl ⟨by rfl, ?hy⟩) (by assumption) ?_
      case hy => (intro w9 hSw; (try dsimp only at hSw); go_simp; try with_reducible rfl)
      try simp only [Act.put, List.setIfInBounds_toArray, List.set_cons_zero, List.set_cons_succ]
      refine wpAnyH_take (i := 3) (oi := { dst := some 33, op := Go.Op.load 24 (Go.Operand.tmp 2), type := 24, pos := "scales.go:36", after := #[], guard := none }) (v := ?_) rfl (by kernel_rfl) (by kernel_rfl) (by kernel_rfl) (fun _ _ _ h => h) (Or.inl ⟨by rfl, ?hy⟩) (by assumption) ?_
      case hy => (intro w9 hSw; (try dsimp only at hSw); go_simp; try with_reducible rfl)
      try simp only [Act.put, List.setIfInBounds_toArray, List.set_cons_zero, List.set_cons_succ]
      refine wpAnyH_ready (rs := [2, 5, 6]) (by kernel_rfl) (by simp) ?_
      refine AllReadyH.cons (o := { dst := some 32, op := Go.Op.call { callee := Go.Callee.value (Go.Operand.func 29), args := #[Go.Operand.tmp 31], argTypes := #[3] }, type := 58, pos := "scales.go:36", after := #[{ on := 1, ground := Go.Ground.data }], guard := none }) rfl (fun K hK => ?_) ?_
      · go_simp
        have hsz := hHeld.size
        refine (tableOf_any lr _).mono ?_
        rintro e wt ⟨⟨Bm, rfl, hBm, hmt⟩, hbt⟩
        refine hK.out _ _ ?_ (fun hHeld => ?_)
        · exact Below.then hHeld hbt
        clear hK K
        try simp only [Act.put, List.setIfInBounds_toArray, List.set_cons_zero, List.set_cons_succ]
        have HM : Hid (MOk lr Bm 0 wt _) := hmt
        have HBm : Hid (w2.heap.size ≤ Bm) := Nat.le_trans hsz hBm
        try (have HT := tb_be HT hbt)
        try (have HKZ := kb_be HKZ hbt)
        try (have tt0 := HT.out.1.1; have tt1 := HT.out.2.1; have tf0 := HT.out.1.2; have tf1 := HT.out.2.2)
        try (have z0 := (HKZ.out 0 (by decide)).1; have z1 := (HKZ.out 1 (by decide)).1; have z2 := (HKZ.out 2 (by decide)).1; have z3 := (HKZ.out 3 (by decide)).1; have z4 := (HKZ.out 4 (by decide)).1; have y0 := (HKZ.out 0 (by decide)).2; have y1 := (HKZ.out 1 (by decide)).2; have y2 := (HKZ.out 2 (by decide)).2; have y3 := (HKZ.out 3 (by decide)).2; have y4 := (HKZ.out 4 (by decide)).2)
        refine wpAnyH_ready (rs := [4, 5, 6]) (by kernel_rfl) (by simp) ?_
        refine AllReadyH.cons (o := { dst := some 34, op := Go.Op.call { callee := Go.Callee.value (Go.Operand.func 31), args := #[Go.Operand.tmp 33], argTypes := #[24] }, type := 62, pos := "scales.go:36", after := #[{ on := 3, ground := Go.Ground.data }, { on := 2, ground := Go.Ground.chain }], guard := none }) rfl (fun K hK => ?_) ?_
        · go_simp
          refine (knownOf_any lr a cap (nat f) _ h5 (HR.out _ (by assumption))).mono ?_
          rintro e wk ⟨rfl, hbk⟩
          unfold kva
          refine hK.out _ _ ?_ (fun hHeld => ?_)
          · exact Below.then hHeld hbk
          clear hK K
          try simp only [Act.put, List.setIfInBounds_toArray, List.set_cons_zero, List.set_cons_succ]
          have HM := mok_be HM hbk
          try (have HT := tb_be HT hbk)
          try (have HKZ := kb_be HKZ hbk)
          try (have tt0 := HT.out.1.1; have tt1 := HT.out.2.1; have tf0 := HT.out.1.2; have tf1 := HT.out.2.2)
          try (have z0 := (HKZ.out 0 (by decide)).1; have z1 := (HKZ.out 1 (by decide)).1; have z2 := (HKZ.out 2 (by decide)).1; have z3 := (HKZ.out 3 (by decide)).1; have z4 := (HKZ.out 4 (by decide)).1; have y0 := (HKZ.out 0 (by decide)).2; have y1 := (HKZ.out 1 (by decide)).2; have y2 := (HKZ.out 2 (by decide)).2; have y3 := (HKZ.out 3 (by decide)).2; have y4 := (HKZ.out 4 (by decide)).2)
          refine wpAnyH_ready (rs := [5, 6]) (by kernel_rfl) (by simp) ?_
          refine AllReadyH.cons (o := { dst := some 10, op := Go.Op.alloc 58, type := 0, pos := "scales.go:36", after := #[], guard := none }) rfl (fun K hK => ?_) ?_
          · go_simp
            have HS5 : Hid (w2.heap.size ≤ _) := hHeld.size
            refine hK.out _ _ ?_ (fun hHeld => ?_)
            · exact Below.alloc hHeld hHeld.size _
            clear hK K
            try simp only [Act.put, List.setIfInBounds_toArray, List.set_cons_zero, List.set_cons_succ]
            generalize hwa : World.alloc _ _ = wa5 at hHeld ⊢
            have HT := tb_new hwa
            try (have HKZ := kb_al HKZ hwa)
            try (have HM := mok_of HM hwa)
            clear hwa
            try (have tt0 := HT.out.1.1; have tt1 := HT.out.2.1; have tf0 := HT.out.1.2; have tf1 := HT.out.2.2)
            try (have z0 := (HKZ.out 0 (by decide)).1; have z1 := (HKZ.out 1 (by decide)).1; have z2 := (HKZ.out 2 (by decide)).1; have z3 := (HKZ.out 3 (by decide)).1; have z4 := (HKZ.out 4 (by decide)).1; have y0 := (HKZ.out 0 (by decide)).2; have y1 := (HKZ.out 1 (by decide)).2; have y2 := (HKZ.out 2 (by decide)).2; have y3 := (HKZ.out 3 (by decide)).2; have y4 := (HKZ.out 4 (by decide)).2)
            refine wpAnyH_ready (rs := [6]) (by kernel_rfl) (by simp) ?_
            refine AllReadyH.cons (o := { dst := some 11, op := Go.Op.alloc 62, type := 0, pos := "scales.go:36", after := #[], guard := none }) rfl (fun K hK => ?_) AllReadyH.nil
            go_simp
            have HS6 : Hid (w2.heap.size ≤ _) := hHeld.size
            refine hK.out _ _ ?_ (fun hHeld => ?_)
            · exact Below.alloc hHeld hHeld.size _
            clear hK K
            try simp only [Act.put, List.setIfInBounds_toArray, List.set_cons_zero, List.set_cons_succ]
            generalize hwa : World.alloc _ _ = wa6 at hHeld ⊢
            have HKZ := kb_new hwa
            try (have HT := tb_al HT hwa)
            try (have HM := mok_of HM hwa)
            clear hwa
            try (have tt0 := HT.out.1.1; have tt1 := HT.out.2.1; have tf0 := HT.out.1.2; have tf1 := HT.out.2.2)
            try (have z0 := (HKZ.out 0 (by decide)).1; have z1 := (HKZ.out 1 (by decide)).1; have z2 := (HKZ.out 2 (by decide)).1; have z3 := (HKZ.out 3 (by decide)).1; have z4 := (HKZ.out 4 (by decide)).1; have y0 := (HKZ.out 0 (by decide)).2; have y1 := (HKZ.out 1 (by decide)).2; have y2 := (HKZ.out 2 (by decide)).2; have y3 := (HKZ.out 3 (by decide)).2; have y4 := (HKZ.out 4 (by decide)).2)
            refine wpAnyH_ready (rs := [7]) (by kernel_rfl) (by simp) ?_
            refine AllReadyH.cons (o := { dst := none, op := Go.Op.store 58 (Go.Operand.tmp 10) (Go.Operand.tmp 32), type := 0, pos := "scales.go:36", after := #[{ on := 5, ground := Go.Ground.data }, { on := 2, ground := Go.Ground.data }, { on := 4, ground := Go.Ground.chain }, { on := 0, ground := Go.Ground.phase }, { on := 1, ground := Go.Ground.phase }, { on := 2, ground := Go.Ground.phase }, { on := 3, ground := Go.Ground.textOnly Go.Departure.lateStores }, { on := 4, ground := Go.Ground.textOnly Go.Departure.lateStoresUnsure }, { on := 5, ground := Go.Ground.phase }, { on := 6, ground := Go.Ground.phase }], guard := none }) rfl (fun K hK => ?_) AllReadyH.nil
            go_simp
            skip
            refine hK.out _ _ ?_ (fun hHeld => ?_)
            · exact set2K hHeld HS5.out
            clear hK K
            try simp only [Act.put, List.setIfInBounds_toArray, List.set_cons_zero, List.set_cons_succ]
            generalize hw7 : World.setCell _ _ _ = w7 at hHeld ⊢
            have HM := mok_far2 HM HT hw7
            have HKZ := kb_far2 HKZ HT hw7
            have HT := tb_set HT hw7
            clear hw7
            try (have tt0 := HT.out.1.1; have tt1 := HT.out.2.1; have tf0 := HT.out.1.2; have tf1 := HT.out.2.2)
            try (have z0 := (HKZ.out 0 (by decide)).1; have z1 := (HKZ.out 1 (by decide)).1; have z2 := (HKZ.out 2 (by decide)).1; have z3 := (HKZ.out 3 (by decide)).1; have z4 := (HKZ.out 4 (by decide)).1; have y0 := (HKZ.out 0 (by decide)).2; have y1 := (HKZ.out 1 (by decide)).2; have y2 := (HKZ.out 2 (by decide)).2; have y3 := (HKZ.out 3 (by decide)).2; have y4 := (HKZ.out 4 (by decide)).2)
            refine wpAnyH_ready (rs := [8]) (by kernel_rfl) (by simp) ?_
            refine AllReadyH.cons (o := { dst := none, op := Go.Op.store 62 (Go.Operand.tmp 11) (Go.Operand.tmp 34), type := 0, pos := "scales.go:36", after := #[{ on := 6, ground := Go.Ground.data }, { on := 4, ground := Go.Ground.data }, { on := 7, ground := Go.Ground.chain }, { on := 0, ground := Go.Ground.phase }, { on := 1, ground := Go.Ground.phase }, { on := 2, ground := Go.Ground.phase }, { on := 3, ground := Go.Ground.phase }, { on := 4, ground := Go.Ground.phase }, { on := 5, ground := Go.Ground.phase }, { on := 6, ground := Go.Ground.phase }, { on := 7, ground := Go.Ground.phase }], guard := none }) rfl (fun K hK => ?_) AllReadyH.nil
            go_simp
            skip
            refine hK.out _ _ ?_ (fun hHeld => ?_)
            · exact set5K hHeld HS6.out
            clear hK K
            try simp only [Act.put, List.setIfInBounds_toArray, List.set_cons_zero, List.set_cons_succ]
            generalize hw8 : World.setCell _ _ _ = w8 at hHeld ⊢
            have HM := mok_far5 HM HKZ hw8
            have HT := tb_far5 HT HKZ hw8
            have HKZ := kb_set (u := knw (nat f) lr) HKZ hw8
            clear hw8
            refine wpAnyH_done (by kernel_rfl) ?_ _
            try simp only [Act.put, List.setIfInBounds_toArray, List.set_cons_zero, List.set_cons_succ]
            exact HREST.out _ _ _ _ _ HS5.out HS6.out HBm.out HT.out HKZ.out HM.out hHeld
          refine AllReadyH.cons (o := { dst := some 11, op := Go.Op.alloc 62, type := 0, pos := "scales.go:36", after := #[], guard := none }) rfl (fun K hK => ?_) ?_
          · go_simp
            have HS6 : Hid (w2.heap.size ≤ _) := hHeld.size
            refine hK.out _ _ ?_ (fun hHeld => ?_)
            · exact Below.alloc hHeld hHeld.size _
            clear hK K
            try simp only [Act.put, List.setIfInBounds_toArray, List.set_cons_zero, List.set_cons_succ]
            generalize hwa : World.alloc _ _ = wa6 at hHeld ⊢
            have HKZ := kb_new hwa
            try (have HT := tb_al HT hwa)
            try (have HM := mok_of HM hwa)
            clear hwa
            try (have tt0 := HT.out.1.1; have tt1 := HT.out.2.1; have tf0 := HT.out.1.2; have tf1 := HT.out.2.2)
            try (have z0 := (HKZ.out 0 (by decide)).1; have z1 := (HKZ.out 1 (by decide)).1; have z2 := (HKZ.out 2 (by decide)).1; have z3 := (HKZ.out 3 (by decide)).1; have z4 := (HKZ.out 4 (by decide)).1; have y0 := (HKZ.out 0 (by decide)).2; have y1 := (HKZ.out 1 (by decide)).2; have y2 := (HKZ.out 2 (by decide)).2; have y3 := (HKZ.out 3 (by decide)).2; have y4 := (HKZ.out 4 (by decide)).2)
            refine wpAnyH_ready (rs := [5]) (by kernel_rfl) (by simp) ?_
            refine AllReadyH.cons (o := { dst := some 10, op := Go.Op.alloc 58, type := 0, pos := "scales.go:36", after := #[], guard := none }) rfl (fun K hK => ?_) AllReadyH.nil
            go_simp
            have HS5 : Hid (w2.heap.size ≤ _) := hHeld.size
            refine hK.out _ _ ?_ (fun hHeld => ?_)
            · exact Below.alloc hHeld hHeld.size _
            clear hK K
            try simp only [Act.put, List.setIfInBounds_toArray, List.set_cons_zero, List.set_cons_succ]
            generalize hwa : World.alloc _ _ = wa5 at hHeld ⊢
            have HT := tb_new hwa
            try (have HKZ := kb_al HKZ hwa)
            try (have HM := mok_of HM hwa)
            clear hwa
            try (have tt0 := HT.out.1.1; have tt1 := HT.out.2.1; have tf0 := HT.out.1.2; have tf1 := HT.out.2.2)
            try (have z0 := (HKZ.out 0 (by decide)).1; have z1 := (HKZ.out 1 (by decide)).1; have z2 := (HKZ.out 2 (by decide)).1; have z3 := (HKZ.out 3 (by decide)).1; have z4 := (HKZ.out 4 (by decide)).1; have y0 := (HKZ.out 0 (by decide)).2; have y1 := (HKZ.out 1 (by decide)).2; have y2 := (HKZ.out 2 (by decide)).2; have y3 := (HKZ.out 3 (by decide)).2; have y4 := (HKZ.out 4 (by decide)).2)
            refine wpAnyH_ready (rs := [7]) (by kernel_rfl) (by simp) ?_
            refine AllReadyH.cons (o := { dst := none, op := Go.Op.store 58 (Go.Operand.tmp 10) (Go.Operand.tmp 32), type := 0, pos := "scales.go:36", after := #[{ on := 5, ground := Go.Ground.data }, { on := 2, ground := Go.Ground.data }, { on := 4, ground := Go.Ground.chain }, { on := 0, ground := Go.Ground.phase }, { on := 1, ground := Go.Ground.phase }, { on := 2, ground := Go.Ground.phase }, { on := 3, ground := Go.Ground.textOnly Go.Departure.lateStores }, { on := 4, ground := Go.Ground.textOnly Go.Departure.lateStoresUnsure }, { on := 5, ground := Go.Ground.phase }, { on := 6, ground := Go.Ground.phase }], guard := none }) rfl (fun K hK => ?_) AllReadyH.nil
            go_simp
            skip
            refine hK.out _ _ ?_ (fun hHeld => ?_)
            · exact set2K hHeld HS5.out
            clear hK K
            try simp only [Act.put, List.setIfInBounds_toArray, List.set_cons_zero, List.set_cons_succ]
            generalize hw7 : World.setCell _ _ _ = w7 at hHeld ⊢
            have HM := mok_far2 HM HT hw7
            have HKZ := kb_far2 HKZ HT hw7
            have HT := tb_set HT hw7
            clear hw7
            try (have tt0 := HT.out.1.1; have tt1 := HT.out.2.1; have tf0 := HT.out.1.2; have tf1 := HT.out.2.2)
            try (have z0 := (HKZ.out 0 (by decide)).1; have z1 := (HKZ.out 1 (by decide)).1; have z2 := (HKZ.out 2 (by decide)).1; have z3 := (HKZ.out 3 (by decide)).1; have z4 := (HKZ.out 4 (by decide)).1; have y0 := (HKZ.out 0 (by decide)).2; have y1 := (HKZ.out 1 (by decide)).2; have y2 := (HKZ.out 2 (by decide)).2; have y3 := (HKZ.out 3 (by decide)).2; have y4 := (HKZ.out 4 (by decide)).2)
            refine wpAnyH_ready (rs := [8]) (by kernel_rfl) (by simp) ?_
            refine AllReadyH.cons (o := { dst := none, op := Go.Op.store 62 (Go.Operand.tmp 11) (Go.Operand.tmp 34), type := 0, pos := "scales.go:36", after := #[{ on := 6, ground := Go.Ground.data }, { on := 4, ground := Go.Ground.data }, { on := 7, ground := Go.Ground.chain }, { on := 0, ground := Go.Ground.phase }, { on := 1, ground := Go.Ground.phase }, { on := 2, ground := Go.Ground.phase }, { on := 3, ground := Go.Ground.phase }, { on := 4, ground := Go.Ground.phase }, { on := 5, ground := Go.Ground.phase }, { on := 6, ground := Go.Ground.phase }, { on := 7, ground := Go.Ground.phase }], guard := none }) rfl (fun K hK => ?_) AllReadyH.nil
            go_simp
            skip
            refine hK.out _ _ ?_ (fun hHeld => ?_)
            · exact set5K hHeld HS6.out
            clear hK K
            try simp only [Act.put, List.setIfInBounds_toArray, List.set_cons_zero, List.set_cons_succ]
            generalize hw8 : World.setCell _ _ _ = w8 at hHeld ⊢
            have HM := mok_far5 HM HKZ hw8
            have HT := tb_far5 HT HKZ hw8
            have HKZ := kb_set (u := knw (nat f) lr) HKZ hw8
            clear hw8
            refine wpAnyH_done (by kernel_rfl) ?_ _
            try simp only [Act.put, List.setIfInBounds_toArray, List.set_cons_zero, List.set_cons_succ]
            exact HREST.out _ _ _ _ _ HS5.out HS6.out HBm.out HT.out HKZ.out HM.out hHeld
          exact AllReadyH.nil
        refine AllReadyH.cons (o := { dst := some 10, op := Go.Op.alloc 58, type := 0, pos := "scales.go:36", after := #[], guard := none }) rfl (fun K hK => ?_) ?_
        · go_simp
          have HS5 : Hid (w2.heap.size ≤ _) := hHeld.size
          refine hK.out _ _ ?_ (fun hHeld => ?_)
          · exact Below.alloc hHeld hHeld.size _
          clear hK K
          try simp only [Act.put, List.setIfInBounds_toArray, List.set_cons_zero, List.set_cons_succ]
          generalize hwa : World.alloc _ _ = wa5 at hHeld ⊢
          have HT := tb_new hwa
          try (have HKZ := kb_al HKZ hwa)
          try (have HM := mok_of HM hwa)
          clear hwa
          try (have tt0 := HT.out.1.1; have tt1 := HT.out.2.1; have tf0 := HT.out.1.2; have tf1 := HT.out.2.2)
          try (have z0 := (HKZ.out 0 (by decide)).1; have z1 := (HKZ.out 1 (by decide)).1; have z2 := (HKZ.out 2 (by decide)).1; have z3 := (HKZ.out 3 (by decide)).1; have z4 := (HKZ.out 4 (by decide)).1; have y0 := (HKZ.out 0 (by decide)).2; have y1 := (HKZ.out 1 (by decide)).2; have y2 := (HKZ.out 2 (by decide)).2; have y3 := (HKZ.out 3 (by decide)).2; have y4 := (HKZ.out 4 (by decide)).2)
          refine wpAnyH_ready (rs := [4, 6]) (by kernel_rfl) (by simp) ?_
          refine AllReadyH.cons (o := { dst := some 34, op := Go.Op.call { callee := Go.Callee.value (Go.Operand.func 31), args := #[Go.Operand.tmp 33], argTypes := #[24] }, type := 62, pos := "scales.go:36", after := #[{ on := 3, ground := Go.Ground.data }, { on := 2, ground := Go.Ground.chain }], guard := none }) rfl (fun K hK => ?_) ?_
          · go_simp
            refine (knownOf_any lr a cap (nat f) _ h5 (HR.out _ (by assumption))).mono ?_
            rintro e wk ⟨rfl, hbk⟩
            unfold kva
            refine hK.out _ _ ?_ (fun hHeld => ?_)
            · exact Below.then hHeld hbk
            clear hK K
            try simp only [Act.put, List.setIfInBounds_toArray, List.set_cons_zero, List.set_cons_succ]
            have HM := mok_be HM hbk
            try (have HT := tb_be HT hbk)
            try (have HKZ := kb_be HKZ hbk)
            try (have tt0 := HT.out.1.1; have tt1 := HT.out.2.1; have tf0 := HT.out.1.2; have tf1 := HT.out.2.2)
            try (have z0 := (HKZ.out 0 (by decide)).1; have z1 := (HKZ.out 1 (by decide)).1; have z2 := (HKZ.out 2 (by decide)).1; have z3 := (HKZ.out 3 (by decide)).1; have z4 := (HKZ.out 4 (by decide)).1; have y0 := (HKZ.out 0 (by decide)).2; have y1 := (HKZ.out 1 (by decide)).2; have y2 := (HKZ.out 2 (by decide)).2; have y3 := (HKZ.out 3 (by decide)).2; have y4 := (HKZ.out 4 (by decide)).2)
            refine wpAnyH_ready (rs := [6]) (by kernel_rfl) (by simp) ?_
            refine AllReadyH.cons (o := { dst := some 11, op := Go.Op.alloc 62, type := 0, pos := "scales.go:36", after := #[], guard := none }) rfl (fun K hK => ?_) AllReadyH.nil
            go_simp
            have HS6 : Hid (w2.heap.size ≤ _) := hHeld.size
            refine hK.out _ _ ?_ (fun hHeld => ?_)
            · exact Below.alloc hHeld hHeld.size _
            clear hK K
            try simp only [Act.put, List.setIfInBounds_toArray, List.set_cons_zero, List.set_cons_succ]
            generalize hwa : World.alloc _ _ = wa6 at hHeld ⊢
            have HKZ := kb_new hwa
            try (have HT := tb_al HT hwa)
            try (have HM := mok_of HM hwa)
            clear hwa
            try (have tt0 := HT.out.1.1; have tt1 := HT.out.2.1; have tf0 := HT.out.1.2; have tf1 := HT.out.2.2)
            try (have z0 := (HKZ.out 0 (by decide)).1; have z1 := (HKZ.out 1 (by decide)).1; have z2 := (HKZ.out 2 (by decide)).1; have z3 := (HKZ.out 3 (by decide)).1; have z4 := (HKZ.out 4 (by decide)).1; have y0 := (HKZ.out 0 (by decide)).2; have y1 := (HKZ.out 1 (by decide)).2; have y2 := (HKZ.out 2 (by decide)).2; have y3 := (HKZ.out 3 (by decide)).2; have y4 := (HKZ.out 4 (by decide)).2)
            refine wpAnyH_ready (rs := [7]) (by kernel_rfl) (by simp) ?_
            refine AllReadyH.cons (o := { dst := none, op := Go.Op.store 58 (Go.Operand.tmp 10) (Go.Operand.tmp 32), type := 0, pos := "scales.go:36", after := #[{ on := 5, ground := Go.Ground.data }, { on := 2, ground := Go.Ground.data }, { on := 4, ground := Go.Ground.chain }, { on := 0, ground := Go.Ground.phase }, { on := 1, ground := Go.Ground.phase }, { on := 2, ground := Go.Ground.phase }, { on := 3, ground := Go.Ground.textOnly Go.Departure.lateStores }, { on := 4, ground := Go.Ground.textOnly Go.Departure.lateStoresUnsure }, { on := 5, ground := Go.Ground.phase }, { on := 6, ground := Go.Ground.phase }], guard := none }) rfl (fun K hK => ?_) AllReadyH.nil
            go_simp
            skip
            refine hK.out _ _ ?_ (fun hHeld => ?_)
            · exact set2K hHeld HS5.out
            clear hK K
            try simp only [Act.put, List.setIfInBounds_toArray, List.set_cons_zero, List.set_cons_succ]
            generalize hw7 : World.setCell _ _ _ = w7 at hHeld ⊢
            have HM := mok_far2 HM HT hw7
            have HKZ := kb_far2 HKZ HT hw7
            have HT := tb_set HT hw7
            clear hw7
            try (have tt0 := HT.out.1.1; have tt1 := HT.out.2.1; have tf0 := HT.out.1.2; have tf1 := HT.out.2.2)
            try (have z0 := (HKZ.out 0 (by decide)).1; have z1 := (HKZ.out 1 (by decide)).1; have z2 := (HKZ.out 2 (by decide)).1; have z3 := (HKZ.out 3 (by decide)).1; have z4 := (HKZ.out 4 (by decide)).1; have y0 := (HKZ.out 0 (by decide)).2; have y1 := (HKZ.out 1 (by decide)).2; have y2 := (HKZ.out 2 (by decide)).2; have y3 := (HKZ.out 3 (by decide)).2; have y4 := (HKZ.out 4 (by decide)).2)
            refine wpAnyH_ready (rs := [8]) (by kernel_rfl) (by simp) ?_
            refine AllReadyH.cons (o := { dst := none, op := Go.Op.store 62 (Go.Operand.tmp 11) (Go.Operand.tmp 34), type := 0, pos := "scales.go:36", after := #[{ on := 6, ground := Go.Ground.data }, { on := 4, ground := Go.Ground.data }, { on := 7, ground := Go.Ground.chain }, { on := 0, ground := Go.Ground.phase }, { on := 1, ground := Go.Ground.phase }, { on := 2, ground := Go.Ground.phase }, { on := 3, ground := Go.Ground.phase }, { on := 4, ground := Go.Ground.phase }, { on := 5, ground := Go.Ground.phase }, { on := 6, ground := Go.Ground.phase }, { on := 7, ground := Go.Ground.phase }], guard := none }) rfl (fun K hK => ?_) AllReadyH.nil
            go_simp
            skip
            refine hK.out _ _ ?_ (fun hHeld => ?_)
            · exact set5K hHeld HS6.out
            clear hK K
            try simp only [Act.put, List.setIfInBounds_toArray, List.set_cons_zero, List.set_cons_succ]
            generalize hw8 : World.setCell _ _ _ = w8 at hHeld ⊢
            have HM := mok_far5 HM HKZ hw8
            have HT := tb_far5 HT HKZ hw8
            have HKZ := kb_set (u := knw (nat f) lr) HKZ hw8
            clear hw8
            refine wpAnyH_done (by kernel_rfl) ?_ _
            try simp only [Act.put, List.setIfInBounds_toArray, List.set_cons_zero, List.set_cons_succ]
            exact HREST.out _ _ _ _ _ HS5.out HS6.out HBm.out HT.out HKZ.out HM.out hHeld
          refine AllReadyH.cons (o := { dst := some 11, op := Go.Op.alloc 62, type := 0, pos := "scales.go:36", after := #[], guard := none }) rfl (fun K hK => ?_) ?_
          · go_simp
            have HS6 : Hid (w2.heap.size ≤ _) := hHeld.size
            refine hK.out _ _ ?_ (fun hHeld => ?_)
            · exact Below.alloc hHeld hHeld.size _
            clear hK K
            try simp only [Act.put, List.setIfInBounds_toArray, List.set_cons_zero, List.set_cons_succ]
            generalize hwa : World.alloc _ _ = wa6 at hHeld ⊢
            have HKZ := kb_new hwa
            try (have HT := tb_al HT hwa)
            try (have HM := mok_of HM hwa)
            clear hwa
            try (have tt0 := HT.out.1.1; have tt1 := HT.out.2.1; have tf0 := HT.out.1.2; have tf1 := HT.out.2.2)
            try (have z0 := (HKZ.out 0 (by decide)).1; have z1 := (HKZ.out 1 (by decide)).1; have z2 := (HKZ.out 2 (by decide)).1; have z3 := (HKZ.out 3 (by decide)).1; have z4 := (HKZ.out 4 (by decide)).1; have y0 := (HKZ.out 0 (by decide)).2; have y1 := (HKZ.out 1 (by decide)).2; have y2 := (HKZ.out 2 (by decide)).2; have y3 := (HKZ.out 3 (by decide)).2; have y4 := (HKZ.out 4 (by decide)).2)
            refine wpAnyH_ready (rs := [4]) (by kernel_rfl) (by simp) ?_
            refine AllReadyH.cons (o := { dst := some 34, op := Go.Op.call { callee := Go.Callee.value (Go.Operand.func 31), args := #[Go.Operand.tmp 33], argTypes := #[24] }, type := 62, pos := "scales.go:36", after := #[{ on := 3, ground := Go.Ground.data }, { on := 2, ground := Go.Ground.chain }], guard := none }) rfl (fun K hK => ?_) AllReadyH.nil
            go_simp
            refine (knownOf_any lr a cap (nat f) _ h5 (HR.out _ (by assumption))).mono ?_
            rintro e wk ⟨rfl, hbk⟩
            unfold kva
            refine hK.out _ _ ?_ (fun hHeld => ?_)
            · exact Below.then hHeld hbk
            clear hK K
            try simp only [Act.put, List.setIfInBounds_toArray, List.set_cons_zero, List.set_cons_succ]
            have HM := mok_be HM hbk
            try (have HT := tb_be HT hbk)
            try (have HKZ := kb_be HKZ hbk)
            try (have tt0 := HT.out.1.1; have tt1 := HT.out.2.1; have tf0 := HT.out.1.2; have tf1 := HT.out.2.2)
            try (have z0 := (HKZ.out 0 (by decide)).1; have z1 := (HKZ.out 1 (by decide)).1; have z2 := (HKZ.out 2 (by decide)).1; have z3 := (HKZ.out 3 (by decide)).1; have z4 := (HKZ.out 4 (by decide)).1; have y0 := (HKZ.out 0 (by decide)).2; have y1 := (HKZ.out 1 (by decide)).2; have y2 := (HKZ.out 2 (by decide)).2; have y3 := (HKZ.out 3 (by decide)).2; have y4 := (HKZ.out 4 (by decide)).2)
            refine wpAnyH_ready (rs := [7]) (by kernel_rfl) (by simp) ?_
            refine AllReadyH.cons (o := { dst := none, op := Go.Op.store 58 (Go.Operand.tmp 10) (Go.Operand.tmp 32), type := 0, pos := "scales.go:36", after := #[{ on := 5, ground := Go.Ground.data }, { on := 2, ground := Go.Ground.data }, { on := 4, ground := Go.Ground.chain }, { on := 0, ground := Go.Ground.phase }, { on := 1, ground := Go.Ground.phase }, { on := 2, ground := Go.Ground.phase }, { on := 3, ground := Go.Ground.textOnly Go.Departure.lateStores }, { on := 4, ground := Go.Ground.textOnly Go.Departure.lateStoresUnsure }, { on := 5, ground := Go.Ground.phase }, { on := 6, ground := Go.Ground.phase }], guard := none }) rfl (fun K hK => ?_) AllReadyH.nil
            go_simp
            skip
            refine hK.out _ _ ?_ (fun hHeld => ?_)
            · exact set2K hHeld HS5.out
            clear hK K
            try simp only [Act.put, List.setIfInBounds_toArray, List.set_cons_zero, List.set_cons_succ]
            generalize hw7 : World.setCell _ _ _ = w7 at hHeld ⊢
            have HM := mok_far2 HM HT hw7
            have HKZ := kb_far2 HKZ HT hw7
            have HT := tb_set HT hw7
            clear hw7
            try (have tt0 := HT.out.1.1; have tt1 := HT.out.2.1; have tf0 := HT.out.1.2; have tf1 := HT.out.2.2)
            try (have z0 := (HKZ.out 0 (by decide)).1; have z1 := (HKZ.out 1 (by decide)).1; have z2 := (HKZ.out 2 (by decide)).1; have z3 := (HKZ.out 3 (by decide)).1; have z4 := (HKZ.out 4 (by decide)).1; have y0 := (HKZ.out 0 (by decide)).2; have y1 := (HKZ.out 1 (by decide)).2; have y2 := (HKZ.out 2 (by decide)).2; have y3 := (HKZ.out 3 (by decide)).2; have y4 := (HKZ.out 4 (by decide)).2)
            refine wpAnyH_ready (rs := [8]) (by kernel_rfl) (by simp) ?_
            refine AllReadyH.cons (o := { dst := none, op := Go.Op.store 62 (Go.Operand.tmp 11) (Go.Operand.tmp 34), type := 0, pos := "scales.go:36", after := #[{ on := 6, ground := Go.Ground.data }, { on := 4, ground := Go.Ground.data }, { on := 7, ground := Go.Ground.chain }, { on := 0, ground := Go.Ground.phase }, { on := 1, ground := Go.Ground.phase }, { on := 2, ground := Go.Ground.phase }, { on := 3, ground := Go.Ground.phase }, { on := 4, ground := Go.Ground.phase }, { on := 5, ground := Go.Ground.phase }, { on := 6, ground := Go.Ground.phase }, { on := 7, ground := Go.Ground.phase }], guard := none }) rfl (fun K hK => ?_) AllReadyH.nil
            go_simp
            skip
            refine hK.out _ _ ?_ (fun hHeld => ?_)
            · exact set5K hHeld HS6.out
            clear hK K
            try simp only [Act.put, List.setIfInBounds_toArray, List.set_cons_zero, List.set_cons_succ]
            generalize hw8 : World.setCell _ _ _ = w8 at hHeld ⊢
            have HM := mok_far5 HM HKZ hw8
            have HT := tb_far5 HT HKZ hw8
            have HKZ := kb_set (u := knw (nat f) lr) HKZ hw8
            clear hw8
            refine wpAnyH_done (by kernel_rfl) ?_ _
            try simp only [Act.put, List.setIfInBounds_toArray, List.set_cons_zero, List.set_cons_succ]
            exact HREST.out _ _ _ _ _ HS5.out HS6.out HBm.out HT.out HKZ.out HM.out hHeld
          exact AllReadyH.nil
        refine AllReadyH.cons (o := { dst := some 11, op := Go.Op.alloc 62, type := 0, pos := "scales.go:36", after := #[], guard := none }) rfl (fun K hK => ?_) ?_
        · go_simp
          have HS6 : Hid (w2.heap.size ≤ _) := hHeld.size
          refine hK.out _ _ ?_ (fun hHeld => ?_)
          · exact Below.alloc hHeld hHeld.size _
          clear hK K
          try simp only [Act.put, List.setIfInBounds_toArray, List.set_cons_zero, List.set_cons_succ]
          generalize hwa : World.alloc _ _ = wa6 at hHeld ⊢
          have HKZ := kb_new hwa
          try (have HT := tb_al HT hwa)
          try (have HM := mok_of HM hwa)
          clear hwa
          try (have tt0 := HT.out.1.1; have tt1 := HT.out.2.1; have tf0 := HT.out.1.2; have tf1 := HT.out.2.2)
          try (have z0 := (HKZ.out 0 (by decide)).1; have z1 := (HKZ.out 1 (by decide)).1; have z2 := (HKZ.out 2 (by decide)).1; have z3 := (HKZ.out 3 (by decide)).1; have z4 := (HKZ.out 4 (by decide)).1; have y0 := (HKZ.out 0 (by decide)).2; have y1 := (HKZ.out 1 (by decide)).2; have y2 := (HKZ.out 2 (by decide)).2; have y3 := (HKZ.out 3 (by decide)).2; have y4 := (HKZ.out 4 (by decide)).2)
          refine wpAnyH_ready (rs := [4, 5]) (by kernel_rfl) (by simp) ?_
          refine AllReadyH.cons (o := { dst := some 34, op := Go.Op.call { callee := Go.Callee.value (Go.Operand.func 31), args := #[Go.Operand.tmp 33], argTypes := #[24] }, type := 62, pos := "scales.go:36", after := #[{ on := 3, ground := Go.Ground.data }, { on := 2, ground := Go.Ground.chain }], guard := none }) rfl (fun K hK => ?_) ?_
          · go_simp
            refine (knownOf_any lr a cap (nat f) _ h5 (HR.out _ (by assumption))).mono ?_
            rintro e wk ⟨rfl, hbk⟩
            unfold kva
            refine hK.out _ _ ?_ (fun hHeld => ?_)
            · exact Below.then hHeld hbk
            clear hK K
            try simp only [Act.put, List.setIfInBounds_toArray, List.set_cons_zero, List.set_cons_succ]
            have HM := mok_be HM hbk
            try (have HT := tb_be HT hbk)
            try (have HKZ := kb_be HKZ hbk)
            try (have tt0 := HT.out.1.1; have tt1 := HT.out.2.1; have tf0 := HT.out.1.2; have tf1 := HT.out.2.2)
            try (have z0 := (HKZ.out 0 (by decide)).1; have z1 := (HKZ.out 1 (by decide)).1; have z2 := (HKZ.out 2 (by decide)).1; have z3 := (HKZ.out 3 (by decide)).1; have z4 := (HKZ.out 4 (by decide)).1; have y0 := (HKZ.out 0 (by decide)).2; have y1 := (HKZ.out 1 (by decide)).2; have y2 := (HKZ.out 2 (by decide)).2; have y3 := (HKZ.out 3 (by decide)).2; have y4 := (HKZ.out 4 (by decide)).2)
            refine wpAnyH_ready (rs := [5]) (by kernel_rfl) (by simp) ?_
            refine AllReadyH.cons (o := { dst := some 10, op := Go.Op.alloc 58, type := 0, pos := "scales.go:36", after := #[], guard := none }) rfl (fun K hK => ?_) AllReadyH.nil
            go_simp
            have HS5 : Hid (w2.heap.size ≤ _) := hHeld.size
            refine hK.out _ _ ?_ (fun hHeld => ?_)
            · exact Below.alloc hHeld hHeld.size _
            clear hK K
            try simp only [Act.put, List.setIfInBounds_toArray, List.set_cons_zero, List.set_cons_succ]
            generalize hwa : World.alloc _ _ = wa5 at hHeld ⊢
            have HT := tb_new hwa
            try (have HKZ := kb_al HKZ hwa)
            try (have HM := mok_of HM hwa)
            clear hwa
            try (have tt0 := HT.out.1.1; have tt1 := HT.out.2.1; have tf0 := HT.out.1.2; have tf1 := HT.out.2.2)
            try (have z0 := (HKZ.out 0 (by decide)).1; have z1 := (HKZ.out 1 (by decide)).1; have z2 := (HKZ.out 2 (by decide)).1; have z3 := (HKZ.out 3 (by decide)).1; have z4 := (HKZ.out 4 (by decide)).1; have y0 := (HKZ.out 0 (by decide)).2; have y1 := (HKZ.out 1 (by decide)).2; have y2 := (HKZ.out 2 (by decide)).2; have y3 := (HKZ.out 3 (by decide)).2; have y4 := (HKZ.out 4 (by decide)).2)
            refine wpAnyH_ready (rs := [7]) (by kernel_rfl) (by simp) ?_
            refine AllReadyH.cons (o := { dst := none, op := Go.Op.store 58 (Go.Operand.tmp 10) (Go.Operand.tmp 32), type := 0, pos := "scales.go:36", after := #[{ on := 5, ground := Go.Ground.data }, { on := 2, ground := Go.Ground.data }, { on := 4, ground := Go.Ground.chain }, { on := 0, ground := Go.Ground.phase }, { on := 1, ground := Go.Ground.phase }, { on := 2, ground := Go.Ground.phase }, { on := 3, ground := Go.Ground.textOnly Go.Departure.lateStores }, { on := 4, ground := Go.Ground.textOnly Go.Departure.lateStoresUnsure }, { on := 5, ground := Go.Ground.phase }, { on := 6, ground := Go.Ground.phase }], guard := none }) rfl (fun K hK => ?_) AllReadyH.nil
            go_simp
            skip
            refine hK.out _ _ ?_ (fun hHeld => ?_)
            · exact set2K hHeld HS5.out
            clear hK K
            try simp only [Act.put, List.setIfInBounds_toArray, List.set_cons_zero, List.set_cons_succ]
            generalize hw7 : World.setCell _ _ _ = w7 at hHeld ⊢
            have HM := mok_far2 HM HT hw7
            have HKZ := kb_far2 HKZ HT hw7
            have HT := tb_set HT hw7
            clear hw7
            try (have tt0 := HT.out.1.1; have tt1 := HT.out.2.1; have tf0 := HT.out.1.2; have tf1 := HT.out.2.2)
            try (have z0 := (HKZ.out 0 (by decide)).1; have z1 := (HKZ.out 1 (by decide)).1; have z2 := (HKZ.out 2 (by decide)).1; have z3 := (HKZ.out 3 (by decide)).1; have z4 := (HKZ.out 4 (by decide)).1; have y0 := (HKZ.out 0 (by decide)).2; have y1 := (HKZ.out 1 (by decide)).2; have y2 := (HKZ.out 2 (by decide)).2; have y3 := (HKZ.out 3 (by decide)).2; have y4 := (HKZ.out 4 (by decide)).2)
            refine wpAnyH_ready (rs := [8]) (by kernel_rfl) (by simp) ?_
            refine AllReadyH.cons (o := { dst := none, op := Go.Op.store 62 (Go.Operand.tmp 11) (Go.Operand.tmp 34), type := 0, pos := "scales.go:36", after := #[{ on := 6, ground := Go.Ground.data }, { on := 4, ground := Go.Ground.data }, { on := 7, ground := Go.Ground.chain }, { on := 0, ground := Go.Ground.phase }, { on := 1, ground := Go.Ground.phase }, { on := 2, ground := Go.Ground.phase }, { on := 3, ground := Go.Ground.phase }, { on := 4, ground := Go.Ground.phase }, { on := 5, ground := Go.Ground.phase }, { on := 6, ground := Go.Ground.phase }, { on := 7, ground := Go.Ground.phase }], guard := none }) rfl (fun K hK => ?_) AllReadyH.nil
            go_simp
            skip
            refine hK.out _ _ ?_ (fun hHeld => ?_)
            · exact set5K hHeld HS6.out
            clear hK K
            try simp only [Act.put, List.setIfInBounds_toArray, List.set_cons_zero, List.set_cons_succ]
            generalize hw8 : World.setCell _ _ _ = w8 at hHeld ⊢
            have HM := mok_far5 HM HKZ hw8
            have HT := tb_far5 HT HKZ hw8
            have HKZ := kb_set (u := knw (nat f) lr) HKZ hw8
            clear hw8
            refine wpAnyH_done (by kernel_rfl) ?_ _
            try simp only [Act.put, List.setIfInBounds_toArray, List.set_cons_zero, List.set_cons_succ]
            exact HREST.out _ _ _ _ _ HS5.out HS6.out HBm.out HT.out HKZ.out HM.out hHeld
          refine AllReadyH.cons (o := { dst := some 10, op := Go.Op.alloc 58, type := 0, pos := "scales.go:36", after := #[], guard := none }) rfl (fun K hK => ?_) ?_
          · go_simp
            have HS5 : Hid (w2.heap.size ≤ _) := hHeld.size
            refine hK.out _ _ ?_ (fun hHeld => ?_)
            · exact Below.alloc hHeld hHeld.size _
            clear hK K
            try simp only [Act.put, List.setIfInBounds_toArray, List.set_cons_zero, List.set_cons_succ]
            generalize hwa : World.alloc _ _ = wa5 at hHeld ⊢
            have HT := tb_new hwa
            try (have HKZ := kb_al HKZ hwa)
            try (have HM := mok_of HM hwa)
            clear hwa
            try (have tt0 := HT.out.1.1; have tt1 := HT.out.2.1; have tf0 := HT.out.1.2; have tf1 := HT.out.2.2)
            try (have z0 := (HKZ.out 0 (by decide)).1; have z1 := (HKZ.out 1 (by decide)).1; have z2 := (HKZ.out 2 (by decide)).1; have z3 := (HKZ.out 3 (by decide)).1; have z4 := (HKZ.out 4 (by decide)).1; have y0 := (HKZ.out 0 (by decide)).2; have y1 := (HKZ.out 1 (by decide)).2; have y2 := (HKZ.out 2 (by decide)).2; have y3 := (HKZ.out 3 (by decide)).2; have y4 := (HKZ.out 4 (by decide)).2)
            refine wpAnyH_ready (rs := [4]) (by kernel_rfl) (by simp) ?_
            refine AllReadyH.cons (o := { dst := some 34, op := Go.Op.call { callee := Go.Callee.value (Go.Operand.func 31), args := #[Go.Operand.tmp 33], argTypes := #[24] }, type := 62, pos := "scales.go:36", after := #[{ on := 3, ground := Go.Ground.data }, { on := 2, ground := Go.Ground.chain }], guard := none }) rfl (fun K hK => ?_) AllReadyH.nil
            go_simp
            refine (knownOf_any lr a cap (nat f) _ h5 (HR.out _ (by assumption))).mono ?_
            rintro e wk ⟨rfl, hbk⟩
            unfold kva
            refine hK.out _ _ ?_ (fun hHeld => ?_)
            · exact Below.then hHeld hbk
            clear hK K
            try simp only [Act.put, List.setIfInBounds_toArray, List.set_cons_zero, List.set_cons_succ]
            have HM := mok_be HM hbk
            try (have HT := tb_be HT hbk)
            try (have HKZ := kb_be HKZ hbk)
            try (have tt0 := HT.out.1.1; have tt1 := HT.out.2.1; have tf0 := HT.out.1.2; have tf1 := HT.out.2.2)
            try (have z0 := (HKZ.out 0 (by decide)).1; have z1 := (HKZ.out 1 (by decide)).1; have z2 := (HKZ.out 2 (by decide)).1; have z3 := (HKZ.out 3 (by decide)).1; have z4 := (HKZ.out 4 (by decide)).1; have y0 := (HKZ.out 0 (by decide)).2; have y1 := (HKZ.out 1 (by decide)).2; have y2 := (HKZ.out 2 (by decide)).2; have y3 := (HKZ.out 3 (by decide)).2; have y4 := (HKZ.out 4 (by decide)).2)
            refine wpAnyH_ready (rs := [7]) (by kernel_rfl) (by simp) ?_
            refine AllReadyH.cons (o := { dst := none, op := Go.Op.store 58 (Go.Operand.tmp 10) (Go.Operand.tmp 32), type := 0, pos := "scales.go:36", after := #[{ on := 5, ground := Go.Ground.data }, { on := 2, ground := Go.Ground.data }, { on := 4, ground := Go.Ground.chain }, { on := 0, ground := Go.Ground.phase }, { on := 1, ground := Go.Ground.phase }, { on := 2, ground := Go.Ground.phase }, { on := 3, ground := Go.Ground.textOnly Go.Departure.lateStores }, { on := 4, ground := Go.Ground.textOnly Go.Departure.lateStoresUnsure }, { on := 5, ground := Go.Ground.phase }, { on := 6, ground := Go.Ground.phase }], guard := none }) rfl (fun K hK => ?_) AllReadyH.nil
            go_simp
            skip
            refine hK.out _ _ ?_ (fun hHeld => ?_)
            · exact set2K hHeld HS5.out
            clear hK K
            try simp only [Act.put, List.setIfInBounds_toArray, List.set_cons_zero, List.set_cons_succ]
            generalize hw7 : World.setCell _ _ _ = w7 at hHeld ⊢
            have HM := mok_far2 HM HT hw7
            have HKZ := kb_far2 HKZ HT hw7
            have HT := tb_set HT hw7
            clear hw7
            try (have tt0 := HT.out.1.1; have tt1 := HT.out.2.1; have tf0 := HT.out.1.2; have tf1 := HT.out.2.2)
            try (have z0 := (HKZ.out 0 (by decide)).1; have z1 := (HKZ.out 1 (by decide)).1; have z2 := (HKZ.out 2 (by decide)).1; have z3 := (HKZ.out 3 (by decide)).1; have z4 := (HKZ.out 4 (by decide)).1; have y0 := (HKZ.out 0 (by decide)).2; have y1 := (HKZ.out 1 (by decide)).2; have y2 := (HKZ.out 2 (by decide)).2; have y3 := (HKZ.out 3 (by decide)).2; have y4 := (HKZ.out 4 (by decide)).2)
            refine wpAnyH_ready (rs := [8]) (by kernel_rfl) (by simp) ?_
            refine AllReadyH.cons (o := { dst := none, op := Go.Op.store 62 (Go.Operand.tmp 11) (Go.Operand.tmp 34), type := 0, pos := "scales.go:36", after := #[{ on := 6, ground := Go.Ground.data }, { on := 4, ground := Go.Ground.data }, { on := 7, ground := Go.Ground.chain }, { on := 0, ground := Go.Ground.phase }, { on := 1, ground := Go.Ground.phase }, { on := 2, ground := Go.Ground.phase }, { on := 3, ground := Go.Ground.phase }, { on := 4, ground := Go.Ground.phase }, { on := 5, ground := Go.Ground.phase }, { on := 6, ground := Go.Ground.phase }, { on := 7, ground := Go.Ground.phase }], guard := none }) rfl (fun K hK => ?_) AllReadyH.nil
            go_simp
            skip
            refine hK.out _ _ ?_ (fun hHeld => ?_)
            · exact set5K hHeld HS6.out
            clear hK K
            try simp only [Act.put, List.setIfInBounds_toArray, List.set_cons_zero, List.set_cons_succ]
            generalize hw8 : World.setCell _ _ _ = w8 at hHeld ⊢
            have HM := mok_far5 HM HKZ hw8
            have HT := tb_far5 HT HKZ hw8
            have HKZ := kb_set (u := knw (nat f) lr) HKZ hw8
            clear hw8
            refine wpAnyH_done (by kernel_rfl) ?_ _
            try simp only [Act.put, List.setIfInBounds_toArray, List.set_cons_zero, List.set_cons_succ]
            exact HREST.out _ _ _ _ _ HS5.out HS6.out HBm.out HT.out HKZ.out HM.out hHeld
          exact AllReadyH.nil
        exact AllReadyH.nil
      refine AllReadyH.cons (o := { dst := some 10, op := Go.Op.alloc 58, type := 0, pos := "scales.go:36", after := #[], guard := none }) rfl (fun K hK => ?_) ?_
      · go_simp
        have HS5 : Hid (w2.heap.size ≤ _) := hHeld.size
        refine hK.out _ _ ?_ (fun hHeld => ?_)
        · exact Below.alloc hHeld hHeld.size _
        clear hK K
        try simp only [Act.put, List.setIfInBounds_toArray, List.set_cons_zero, List.set_cons_succ]
        generalize hwa : World.alloc _ _ = wa5 at hHeld ⊢
        have HT := tb_new hwa
        try (have HKZ := kb_al HKZ hwa)
        try (have HM := mok_of HM hwa)
        clear hwa
        try (have tt0 := HT.out.1.1; have tt1 := HT.out.2.1; have tf0 := HT.out.1.2; have tf1 := HT.out.2.2)
        try (have z0 := (HKZ.out 0 (by decide)).1; have z1 := (HKZ.out 1 (by decide)).1; have z2 := (HKZ.out 2 (by decide)).1; have z3 := (HKZ.out 3 (by decide)).1; have z4 := (HKZ.out 4 (by decide)).1; have y0 := (HKZ.out 0 (by decide)).2; have y1 := (HKZ.out 1 (by decide)).2; have y2 := (HKZ.out 2 (by decide)).2; have y3 := (HKZ.out 3 (by decide)).2; have y4 := (HKZ.out 4 (by decide)).2)
        refine wpAnyH_ready (rs := [2, 6]) (by kernel_rfl) (by simp) ?_
        refine AllReadyH.cons (o := { dst := some 32, op := Go.Op.call { callee := Go.Callee.value (Go.Operand.func 29), args := #[Go.Operand.tmp 31], argTypes := #[3] }, type := 58, pos := "scales.go:36", after := #[{ on := 1, ground := Go.Ground.data }], guard := none }) rfl (fun K hK => ?_) ?_
        · go_simp
          have hsz := hHeld.size
          refine (tableOf_any lr _).mono ?_
          rintro e wt ⟨⟨Bm, rfl, hBm, hmt⟩, hbt⟩
          refine hK.out _ _ ?_ (fun hHeld => ?_)
          · exact Below.then hHeld hbt
          clear hK K
          try simp only [Act.put, List.setIfInBounds_toArray, List.set_cons_zero, List.set_cons_succ]
          have HM : Hid (MOk lr Bm 0 wt _) := hmt
          have HBm : Hid (w2.heap.size ≤ Bm) := Nat.le_trans hsz hBm
          try (have HT := tb_be HT hbt)
          try (have HKZ := kb_be HKZ hbt)
          try (have tt0 := HT.out.1.1; have tt1 := HT.out.2.1; have tf0 := HT.out.1.2; have tf1 := HT.out.2.2)
          try (have z0 := (HKZ.out 0 (by decide)).1; have z1 := (HKZ.out 1 (by decide)).1; have z2 := (HKZ.out 2 (by decide)).1; have z3 := (HKZ.out 3 (by decide)).1; have z4 := (HKZ.out 4 (by decide)).1; have y0 := (HKZ.out 0 (by decide)).2; have y1 := (HKZ.out 1 (by decide)).2; have y2 := (HKZ.out 2 (by decide)).2; have y3 := (HKZ.out 3 (by decide)).2; have y4 := (HKZ.out 4 (by decide)).2)
          refine wpAnyH_ready (rs := [4, 6]) (by kernel_rfl) (by simp) ?_
          refine AllReadyH.cons (o := { dst := some 34, op := Go.Op.call { callee := Go.Callee.value (Go.Operand.func 31), args := #[Go.Operand.tmp 33], argTypes := #[24] }, type := 62, pos := "scales.go:36", after := #[{ on := 3, ground := Go.Ground.data }, { on := 2, ground := Go.Ground.chain }], guard := none }) rfl (fun K hK => ?_) ?_
          · go_simp
            refine (knownOf_any lr a cap (nat f) _ h5 (HR.out _ (by assumption))).mono ?_
            rintro e wk ⟨rfl, hbk⟩
            unfold kva
            refine hK.out _ _ ?_ (fun hHeld => ?_)
            · exact Below.then hHeld hbk
            clear hK K
            try simp only [Act.put, List.setIfInBounds_toArray, List.set_cons_zero, List.set_cons_succ]
            have HM := mok_be HM hbk
            try (have HT := tb_be HT hbk)
            try (have HKZ := kb_be HKZ hbk)
            try (have tt0 := HT.out.1.1; have tt1 := HT.out.2.1; have tf0 := HT.out.1.2; have tf1 := HT.out.2.2)
            try (have z0 := (HKZ.out 0 (by decide)).1; have z1 := (HKZ.out 1 (by decide)).1; have z2 := (HKZ.out 2 (by decide)).1; have z3 := (HKZ.out 3 (by decide)).1; have z4 := (HKZ.out 4 (by decide)).1; have y0 := (HKZ.out 0 (by decide)).2; have y1 := (HKZ.out 1 (by decide)).2; have y2 := (HKZ.out 2 (by decide)).2; have y3 := (HKZ.out 3 (by decide)).2; have y4 := (HKZ.out 4 (by decide)).2)
            refine wpAnyH_ready (rs := [6]) (by kernel_rfl) (by simp) ?_
            refine AllReadyH.cons (o := { dst := some 11, op := Go.Op.alloc 62, type := 0, pos := "scales.go:36", after := #[], guard := none }) rfl (fun K hK => ?_) AllReadyH.nil
            go_simp
            have HS6 : Hid (w2.heap.size ≤ _) := hHeld.size
            refine hK.out _ _ ?_ (fun hHeld => ?_)
            · exact Below.alloc hHeld hHeld.size _
            clear hK K
            try simp only [Act.put, List.setIfInBounds_toArray, List.set_cons_zero, List.set_cons_succ]
            generalize hwa : World.alloc _ _ = wa6 at hHeld ⊢
            have HKZ := kb_new hwa
            try (have HT := tb_al HT hwa)
            try (have HM := mok_of HM hwa)
            clear hwa
            try (have tt0 := HT.out.1.1; have tt1 := HT.out.2.1; have tf0 := HT.out.1.2; have tf1 := HT.out.2.2)
            try (have z0 := (HKZ.out 0 (by decide)).1; have z1 := (HKZ.out 1 (by decide)).1; have z2 := (HKZ.out 2 (by decide)).1; have z3 := (HKZ.out 3 (by decide)).1; have z4 := (HKZ.out 4 (by decide)).1; have y0 := (HKZ.out 0 (by decide)).2; have y1 := (HKZ.out 1 (by decide)).2; have y2 := (HKZ.out 2 (by decide)).2; have y3 := (HKZ.out 3 (by decide)).2; have y4 := (HKZ.out 4 (by decide)).2)
            refine wpAnyH_ready (rs := [7]) (by kernel_rfl) (by simp) ?_
            refine AllReadyH.cons (o := { dst := none, op := Go.Op.store 58 (Go.Operand.tmp 10) (Go.Operand.tmp 32), type := 0, pos := "scales.go:36", after := #[{ on := 5, ground := Go.Ground.data }, { on := 2, ground := Go.Ground.data }, { on := 4, ground := Go.Ground.chain }, { on := 0, ground := Go.Ground.phase }, { on := 1, ground := Go.Ground.phase }, { on := 2, ground := Go.Ground.phase }, { on := 3, ground := Go.Ground.textOnly Go.Departure.lateStores }, { on := 4, ground := Go.Ground.textOnly Go.Departure.lateStoresUnsure }, { on := 5, ground := Go.Ground.phase }, { on := 6, ground := Go.Ground.phase }], guard := none }) rfl (fun K hK => ?_) AllReadyH.nil
            go_simp
            skip
            refine hK.out _ _ ?_ (fun hHeld => ?_)
            · exact set2K hHeld HS5.out
            clear hK K
            try simp only [Act.put, List.setIfInBounds_toArray, List.set_cons_zero, List.set_cons_succ]
            generalize hw7 : World.setCell _ _ _ = w7 at hHeld ⊢
            have HM := mok_far2 HM HT hw7
            have HKZ := kb_far2 HKZ HT hw7
            have HT := tb_set HT hw7
            clear hw7
            try (have tt0 := HT.out.1.1; have tt1 := HT.out.2.1; have tf0 := HT.out.1.2; have tf1 := HT.out.2.2)
            try (have z0 := (HKZ.out 0 (by decide)).1; have z1 := (HKZ.out 1 (by decide)).1; have z2 := (HKZ.out 2 (by decide)).1; have z3 := (HKZ.out 3 (by decide)).1; have z4 := (HKZ.out 4 (by decide)).1; have y0 := (HKZ.out 0 (by decide)).2; have y1 := (HKZ.out 1 (by decide)).2; have y2 := (HKZ.out 2 (by decide)).2; have y3 := (HKZ.out 3 (by decide)).2; have y4 := (HKZ.out 4 (by decide)).2)
            refine wpAnyH_ready (rs := [8]) (by kernel_rfl) (by simp) ?_
            refine AllReadyH.cons (o := { dst := none, op := Go.Op.store 62 (Go.Operand.tmp 11) (Go.Operand.tmp 34), type := 0, pos := "scales.go:36", after := #[{ on := 6, ground := Go.Ground.data }, { on := 4, ground := Go.Ground.data }, { on := 7, ground := Go.Ground.chain }, { on := 0, ground := Go.Ground.phase }, { on := 1, ground := Go.Ground.phase }, { on := 2, ground := Go.Ground.phase }, { on := 3, ground := Go.Ground.phase }, { on := 4, ground := Go.Ground.phase }, { on := 5, ground := Go.Ground.phase }, { on := 6, ground := Go.Ground.phase }, { on := 7, ground := Go.Ground.phase }], guard := none }) rfl (fun K hK => ?_) AllReadyH.nil
            go_simp
            skip
            refine hK.out _ _ ?_ (fun hHeld => ?_)
            · exact set5K hHeld HS6.out
            clear hK K
            try simp only [Act.put, List.setIfInBounds_toArray, List.set_cons_zero, List.set_cons_succ]
            generalize hw8 : World.setCell _ _ _ = w8 at hHeld ⊢
            have HM := mok_far5 HM HKZ hw8
            have HT := tb_far5 HT HKZ hw8
            have HKZ := kb_set (u := knw (nat f) lr) HKZ hw8
            clear hw8
            refine wpAnyH_done (by kernel_rfl) ?_ _
            try simp only [Act.put, List.setIfInBounds_toArray, List.set_cons_zero, List.set_cons_succ]
            exact HREST.out _ _ _ _ _ HS5.out HS6.out HBm.out HT.out HKZ.out HM.out hHeld
          refine AllReadyH.cons (o := { dst := some 11, op := Go.Op.alloc 62, type := 0, pos := "scales.go:36", after := #[], guard := none }) rfl (fun K hK => ?_) ?_
          · go_simp
            have HS6 : Hid (w2.heap.size ≤ _) := hHeld.size
            refine hK.out _ _ ?_ (fun hHeld => ?_)
            · exact Below.alloc hHeld hHeld.size _
            clear hK K
            try simp only [Act.put, List.setIfInBounds_toArray, List.set_cons_zero, List.set_cons_succ]
            generalize hwa : World.alloc _ _ = wa6 at hHeld ⊢
            have HKZ := kb_new hwa
            try (have HT := tb_al HT hwa)
            try (have HM := mok_of HM hwa)
            clear hwa
            try (have tt0 := HT.out.1.1; have tt1 := HT.out.2.1; have tf0 := HT.out.1.2; have tf1 := HT.out.2.2)
            try (have z0 := (HKZ.out 0 (by decide)).1; have z1 := (HKZ.out 1 (by decide)).1; have z2 := (HKZ.out 2 (by decide)).1; have z3 := (HKZ.out 3 (by decide)).1; have z4 := (HKZ.out 4 (by decide)).1; have y0 := (HKZ.out 0 (by decide)).2; have y1 := (HKZ.out 1 (by decide)).2; have y2 := (HKZ.out 2 (by decide)).2; have y3 := (HKZ.out 3 (by decide)).2; have y4 := (HKZ.out 4 (by decide)).2)
            refine wpAnyH_ready (rs := [4]) (by kernel_rfl) (by simp) ?_
            refine AllReadyH.cons (o := { dst := some 34, op := Go.Op.call { callee := Go.Callee.value (Go.Operand.func 31), args := #[Go.Operand.tmp 33], argTypes := #[24] }, type := 62, pos := "scales.go:36", after := #[{ on := 3, ground := Go.Ground.data }, { on := 2, ground := Go.Ground.chain }], guard := none }) rfl (fun K hK => ?_) AllReadyH.nil
            go_simp
            refine (knownOf_any lr a cap (nat f) _ h5 (HR.out _ (by assumption))).mono ?_
            rintro e wk ⟨rfl, hbk⟩
            unfold kva
            refine hK.out _ _ ?_ (fun hHeld => ?_)
            · exact Below.then hHeld hbk
            clear hK K
            try simp only [Act.put, List.setIfInBounds_toArray, List.set_cons_zero, List.set_cons_succ]
            have HM := mok_be HM hbk
            try (have HT := tb_be HT hbk)
            try (have HKZ := kb_be HKZ hbk)
            try (have tt0 := HT.out.1.1; have tt1 := HT.out.2.1; have tf0 := HT.out.1.2; have tf1 := HT.out.2.2)
            try (have z0 := (HKZ.out 0 (by decide)).1; have z1 := (HKZ.out 1 (by decide)).1; have z2 := (HKZ.out 2 (by decide)).1; have z3 := (HKZ.out 3 (by decide)).1; have z4 := (HKZ.out 4 (by decide)).1; have y0 := (HKZ.out 0 (by decide)).2; have y1 := (HKZ.out 1 (by decide)).2; have y2 := (HKZ.out 2 (by decide)).2; have y3 := (HKZ.out 3 (by decide)).2; have y4 := (HKZ.out 4 (by decide)).2)
            refine wpAnyH_ready (rs := [7]) (by kernel_rfl) (by simp) ?_
            refine AllReadyH.cons (o := { dst := none, op := Go.Op.store 58 (Go.Operand.tmp 10) (Go.Operand.tmp 32), type := 0, pos := "scales.go:36", after := #[{ on := 5, ground := Go.Ground.data }, { on := 2, ground := Go.Ground.data }, { on := 4, ground := Go.Ground.chain }, { on := 0, ground := Go.Ground.phase }, { on := 1, ground := Go.Ground.phase }, { on := 2, ground := Go.Ground.phase }, { on := 3, ground := Go.Ground.textOnly Go.Departure.lateStores }, { on := 4, ground := Go.Ground.textOnly Go.Departure.lateStoresUnsure }, { on := 5, ground := Go.Ground.phase }, { on := 6, ground := Go.Ground.phase }], guard := none }) rfl (fun K hK => ?_) AllReadyH.nil
            go_simp
            skip
            refine hK.out _ _ ?_ (fun hHeld => ?_)
            · exact set2K hHeld HS5.out
            clear hK K
            try simp only [Act.put, List.setIfInBounds_toArray, List.set_cons_zero, List.set_cons_succ]
            generalize hw7 : World.setCell _ _ _ = w7 at hHeld ⊢
            have HM := mok_far2 HM HT hw7
            have HKZ := kb_far2 HKZ HT hw7
            have HT := tb_set HT hw7
            clear hw7
            try (have tt0 := HT.out.1.1; have tt1 := HT.out.2.1; have tf0 := HT.out.1.2; have tf1 := HT.out.2.2)
            try (have z0 := (HKZ.out 0 (by decide)).1; have z1 := (HKZ.out 1 (by decide)).1; have z2 := (HKZ.out 2 (by decide)).1; have z3 := (HKZ.out 3 (by decide)).1; have z4 := (HKZ.out 4 (by decide)).1; have y0 := (HKZ.out 0 (by decide)).2; have y1 := (HKZ.out 1 (by decide)).2; have y2 := (HKZ.out 2 (by decide)).2; have y3 := (HKZ.out 3 (by decide)).2; have y4 := (HKZ.out 4 (by decide)).2)
            refine wpAnyH_ready (rs := [8]) (by kernel_rfl) (by simp) ?_
            refine AllReadyH.cons (o := { dst := none, op := Go.Op.store 62 (Go.Operand.tmp 11) (Go.Operand.tmp 34), type := 0, pos := "scales.go:36", after := #[{ on := 6, ground := Go.Ground.data }, { on := 4, ground := Go.Ground.data }, { on := 7, ground := Go.Ground.chain }, { on := 0, ground := Go.Ground.phase }, { on := 1, ground := Go.Ground.phase }, { on := 2, ground := Go.Ground.phase }, { on := 3, ground := Go.Ground.phase }, { on := 4, ground := Go.Ground.phase }, { on := 5, ground := Go.Ground.phase }, { on := 6, ground := Go.Ground.phase }, { on := 7, ground := Go.Ground.phase }], guard := none }) rfl (fun K hK => ?_) AllReadyH.nil
            go_simp
            skip
            refine hK.out _ _ ?_ (fun hHeld => ?_)
            · exact set5K hHeld HS6.out
            clear hK K
            try simp only [Act.put, List.setIfInBounds_toArray, List.set_cons_zero, List.set_cons_succ]
            generalize hw8 : World.setCell _ _ _ = w8 at hHeld ⊢
            have HM := mok_far5 HM HKZ hw8
            have HT := tb_far5 HT HKZ hw8
            have HKZ := kb_set (u := knw (nat f) lr) HKZ hw8
            clear hw8
            refine wpAnyH_done (by kernel_rfl) ?_ _
            try simp only [Act.put, List.setIfInBounds_toArray, List.set_cons_zero, List.set_cons_succ]
            exact HREST.out _ _ _ _ _ HS5.out HS6.out HBm.out HT.out HKZ.out HM.out hHeld
          exact AllReadyH.nil
        refine AllReadyH.cons (o := { dst := some 11, op := Go.Op.alloc 62, type := 0, pos := "scales.go:36", after := #[], guard := none }) rfl (fun K hK => ?_) ?_
        · go_simp
          have HS6 : Hid (w2.heap.size ≤ _) := hHeld.size
          refine hK.out _ _ ?_ (fun hHeld => ?_)
          · exact Below.alloc hHeld hHeld.size _
          clear hK K
          try simp only [Act.put, List.setIfInBounds_toArray, List.set_cons_zero, List.set_cons_succ]
          generalize hwa : World.alloc _ _ = wa6 at hHeld ⊢
          have HKZ := kb_new hwa
          try (have HT := tb_al HT hwa)
          try (have HM := mok_of HM hwa)
          clear hwa
          try (have tt0 := HT.out.1.1; have tt1 := HT.out.2.1; have tf0 := HT.out.1.2; have tf1 := HT.out.2.2)
          try (have z0 := (HKZ.out 0 (by decide)).1; have z1 := (HKZ.out 1 (by decide)).1; have z2 := (HKZ.out 2 (by decide)).1; have z3 := (HKZ.out 3 (by decide)).1; have z4 := (HKZ.out 4 (by decide)).1; have y0 := (HKZ.out 0 (by decide)).2; have y1 := (HKZ.out 1 (by decide)).2; have y2 := (HKZ.out 2 (by decide)).2; have y3 := (HKZ.out 3 (by decide)).2; have y4 := (HKZ.out 4 (by decide)).2)
          refine wpAnyH_ready (rs := [2]) (by kernel_rfl) (by simp) ?_
          refine AllReadyH.cons (o := { dst := some 32, op := Go.Op.call { callee := Go.Callee.value (Go.Operand.func 29), args := #[Go.Operand.tmp 31], argTypes := #[3] }, type := 58, pos := "scales.go:36", after := #[{ on := 1, ground := Go.Ground.data }], guard := none }) rfl (fun K hK => ?_) AllReadyH.nil
          go_simp
          have hsz := hHeld.size
          refine (tableOf_any lr _).mono ?_
          rintro e wt ⟨⟨Bm, rfl, hBm, hmt⟩, hbt⟩
          refine hK.out _ _ ?_ (fun hHeld => ?_)
          · exact Below.then hHeld hbt
          clear hK K
          try simp only [Act.put, List.setIfInBounds_toArray, List.set_cons_zero, List.set_cons_succ]
          have HM : Hid (MOk lr Bm 0 wt _) := hmt
          have HBm : Hid (w2.heap.size ≤ Bm) := Nat.le_trans hsz hBm
          try (have HT := tb_be HT hbt)
          try (have HKZ := kb_be HKZ hbt)
          try (have tt0 := HT.out.1.1; have tt1 := HT.out.2.1; have tf0 := HT.out.1.2; have tf1 := HT.out.2.2)
          try (have z0 := (HKZ.out 0 (by decide)).1; have z1 := (HKZ.out 1 (by decide)).1; have z2 := (HKZ.out 2 (by decide)).1; have z3 := (HKZ.out 3 (by decide)).1; have z4 := (HKZ.out 4 (by decide)).1; have y0 := (HKZ.out 0 (by decide)).2; have y1 := (HKZ.out 1 (by decide)).2; have y2 := (HKZ.out 2 (by decide)).2; have y3 := (HKZ.out 3 (by decide)).2; have y4 := (HKZ.out 4 (by decide)).2)
          refine wpAnyH_ready (rs := [4]) (by kernel_rfl) (by simp) ?_
          refine AllReadyH.cons (o := { dst := some 34, op := Go.Op.call { callee := Go.Callee.value (Go.Operand.func 31), args := #[Go.Operand.tmp 33], argTypes := #[24] }, type := 62, pos := "scales.go:36", after := #[{ on := 3, ground := Go.Ground.data }, { on := 2, ground := Go.Ground.chain }], guard := none }) rfl (fun K hK => ?_) AllReadyH.nil
          go_simp
          refine (knownOf_any lr a cap (nat f) _ h5 (HR.out _ (by assumption))).mono ?_
          rintro e wk ⟨rfl, hbk⟩
          unfold kva
          refine hK.out _ _ ?_ (fun hHeld => ?_)
          · exact Below.then hHeld hbk
          clear hK K
          try simp only [Act.put, List.setIfInBounds_toArray, List.set_cons_zero, List.set_cons_succ]
          have HM := mok_be HM hbk
          try (have HT := tb_be HT hbk)
          try (have HKZ := kb_be HKZ hbk)
          try (have tt0 := HT.out.1.1; have tt1 := HT.out.2.1; have tf0 := HT.out.1.2; have tf1 := HT.out.2.2)
          try (have z0 := (HKZ.out 0 (by decide)).1; have z1 := (HKZ.out 1 (by decide)).1; have z2 := (HKZ.out 2 (by decide)).1; have z3 := (HKZ.out 3 (by decide)).1; have z4 := (HKZ.out 4 (by decide)).1; have y0 := (HKZ.out 0 (by decide)).2; have y1 := (HKZ.out 1 (by decide)).2; have y2 := (HKZ.out 2 (by decide)).2; have y3 := (HKZ.out 3 (by decide)).2; have y4 := (HKZ.out 4 (by decide)).2)
          refine wpAnyH_ready (rs := [7]) (by kernel_rfl) (by simp) ?_
          refine AllReadyH.cons (o := { dst := none, op := Go.Op.store 58 (Go.Operand.tmp 10) (Go.Operand.tmp 32), type := 0, pos := "scales.go:36", after := #[{ on := 5, ground := Go.Ground.data }, { on := 2, ground := Go.Ground.data }, { on := 4, ground := Go.Ground.chain }, { on := 0, ground := Go.Ground.phase }, { on := 1, ground := Go.Ground.phase }, { on := 2, ground := Go.Ground.phase }, { on := 3, ground := Go.Ground.textOnly Go.Departure.lateStores }, { on := 4, ground := Go.Ground.textOnly Go.Departure.lateStoresUnsure }, { on := 5, ground := Go.Ground.phase }, { on := 6, ground := Go.Ground.phase }], guard := none }) rfl (fun K hK => ?_) AllReadyH.nil
          go_simp
          skip
          refine hK.out _ _ ?_ (fun hHeld => ?_)
          · exact set2K hHeld HS5.out
          clear hK K
          try simp only [Act.put, List.setIfInBounds_toArray, List.set_cons_zero, List.set_cons_succ]
          generalize hw7 : World.setCell _ _ _ = w7 at hHeld ⊢
          have HM := mok_far2 HM HT hw7
          have HKZ := kb_far2 HKZ HT hw7
          have HT := tb_set HT hw7
          clear hw7
          try (have tt0 := HT.out.1.1; have tt1 := HT.out.2.1; have tf0 := HT.out.1.2; have tf1 := HT.out.2.2)
          try (have z0 := (HKZ.out 0 (by decide)).1; have z1 := (HKZ.out 1 (by decide)).1; have z2 := (HKZ.out 2 (by decide)).1; have z3 := (HKZ.out 3 (by decide)).1; have z4 := (HKZ.out 4 (by decide)).1; have y0 := (HKZ.out 0 (by decide)).2; have y1 := (HKZ.out 1 (by decide)).2; have y2 := (HKZ.out 2 (by decide)).2; have y3 := (HKZ.out 3 (by decide)).2; have y4 := (HKZ.out 4 (by decide)).2)
          refine wpAnyH_ready (rs := [8]) (by kernel_rfl) (by simp) ?_
          refine AllReadyH.cons (o := { dst := none, op := Go.Op.store 62 (Go.Operand.tmp 11) (Go.Operand.tmp 34), type := 0, pos := "scales.go:36", after := #[{ on := 6, ground := Go.Ground.data }, { on := 4, ground := Go.Ground.data }, { on := 7, ground := Go.Ground.chain }, { on := 0, ground := Go.Ground.phase }, { on := 1, ground := Go.Ground.phase }, { on := 2, ground := Go.Ground.phase }, { on := 3, ground := Go.Ground.phase }, { on := 4, ground := Go.Ground.phase }, { on := 5, ground := Go.Ground.phase }, { on := 6, ground := Go.Ground.phase }, { on := 7, ground := Go.Ground.phase }], guard := none }) rfl (fun K hK => ?_) AllReadyH.nil
          go_simp
          skip
          refine hK.out _ _ ?_ (fun hHeld => ?_)
          · exact set5K hHeld HS6.out
          clear hK K
          try simp only [Act.put, List.setIfInBounds_toArray, List.set_cons_zero, List.set_cons_succ]
          generalize hw8 : World.setCell _ _ _ = w8 at hHeld ⊢
          have HM := mok_far5 HM HKZ hw8
          have HT := tb_far5 HT HKZ hw8
          have HKZ := kb_set (u := knw (nat f) lr) HKZ hw8
          clear hw8
          refine wpAnyH_done (by kernel_rfl) ?_ _
          try simp only [Act.put, List.setIfInBounds_toArray, List.set_cons_zero, List.set_cons_succ]
          exact HREST.out _ _ _ _ _ HS5.out HS6.out HBm.out HT.out HKZ.out HM.out hHeld
        exact AllReadyH.nil
      refine AllReadyH.cons (o := { dst := some 11, op := Go.Op.alloc 62, type := 0, pos := "scales.go:36", after := #[], guard := none }) rfl (fun K hK => ?_) ?_
      · go_simp
        have HS6 : Hid (w2.heap.size ≤ _) := hHeld.size
        refine hK.out _ _ ?_ (fun hHeld => ?_)
        · exact Below.alloc hHeld hHeld.size _
        clear hK K
        try simp only [Act.put, List.setIfInBounds_toArray, List.set_cons_zero, List.set_cons_succ]
        generalize hwa : World.alloc _ _ = wa6 at hHeld ⊢
        have HKZ := kb_new hwa
        try (have HT := tb_al HT hwa)
        try (have HM := mok_of HM hwa)
        clear hwa
        try (have tt0 := HT.out.1.1; have tt1 := HT.out.2.1; have tf0 := HT.out.1.2; have tf1 := HT.out.2.2)
        try (have z0 := (HKZ.out 0 (by decide)).1; have z1 := (HKZ.out 1 (by decide)).1; have z2 := (HKZ.out 2 (by decide)).1; have z3 := (HKZ.out 3 (by decide)).1; have z4 := (HKZ.out 4 (by decide)).1; have y0 := (HKZ.out 0 (by decide)).2; have y1 := (HKZ.out 1 (by decide)).2; have y2 := (HKZ.out 2 (by decide)).2; have y3 := (HKZ.out 3 (by decide)).2; have y4 := (HKZ.out 4 (by decide)).2)
        refine wpAnyH_ready (rs := [2, 5]) (by kernel_rfl) (by simp) ?_
        refine AllReadyH.cons (o := { dst := some 32, op := Go.Op.call { callee := Go.Callee.value (Go.Operand.func 29), args := #[Go.Operand.tmp 31], argTypes := #[3] }, type := 58, pos := "scales.go:36", after := #[{ on := 1, ground := Go.Ground.data }], guard := none }) rfl (fun K hK => ?_) ?_
        · go_simp
          have hsz := hHeld.size
          refine (tableOf_any lr _).mono ?_
          rintro e wt ⟨⟨Bm, rfl, hBm, hmt⟩, hbt⟩
          refine hK.out _ _ ?_ (fun hHeld => ?_)
          · exact Below.then hHeld hbt
          clear hK K
          try simp only [Act.put, List.setIfInBounds_toArray, List.set_cons_zero, List.set_cons_succ]
          have HM : Hid (MOk lr Bm 0 wt _) := hmt
          have HBm : Hid (w2.heap.size ≤ Bm) := Nat.le_trans hsz hBm
          try (have HT := tb_be HT hbt)
          try (have HKZ := kb_be HKZ hbt)
          try (have tt0 := HT.out.1.1; have tt1 := HT.out.2.1; have tf0 := HT.out.1.2; have tf1 := HT.out.2.2)
          try (have z0 := (HKZ.out 0 (by decide)).1; have z1 := (HKZ.out 1 (by decide)).1; have z2 := (HKZ.out 2 (by decide)).1; have z3 := (HKZ.out 3 (by decide)).1; have z4 := (HKZ.out 4 (by decide)).1; have y0 := (HKZ.out 0 (by decide)).2; have y1 := (HKZ.out 1 (by decide)).2; have y2 := (HKZ.out 2 (by decide)).2; have y3 := (HKZ.out 3 (by decide)).2; have y4 := (HKZ.out 4 (by decide)).2)
          refine wpAnyH_ready (rs := [4, 5]) (by kernel_rfl) (by simp) ?_
          refine AllReadyH.cons (o := { dst := some 34, op := Go.Op.call { callee := Go.Callee.value (Go.Operand.func 31), args := #[Go.Operand.tmp 33], argTypes := #[24] }, type := 62, pos := "scales.go:36", after := #[{ on := 3, ground := Go.Ground.data }, { on := 2, ground := Go.Ground.chain }], guard := none }) rfl (fun K hK => ?_) ?_
          · go_simp
            refine (knownOf_any lr a cap (nat f) _ h5 (HR.out _ (by assumption))).mono ?_
            rintro e wk ⟨rfl, hbk⟩
            unfold kva
            refine hK.out _ _ ?_ (fun hHeld => ?_)
            · exact Below.then hHeld hbk
            clear hK K
            try simp only [Act.put, List.setIfInBounds_toArray, List.set_cons_zero, List.set_cons_succ]
            have HM := mok_be HM hbk
            try (have HT := tb_be HT hbk)
            try (have HKZ := kb_be HKZ hbk)
            try (have tt0 := HT.out.1.1; have tt1 := HT.out.2.1; have tf0 := HT.out.1.2; have tf1 := HT.out.2.2)
            try (have z0 := (HKZ.out 0 (by decide)).1; have z1 := (HKZ.out 1 (by decide)).1; have z2 := (HKZ.out 2 (by decide)).1; have z3 := (HKZ.out 3 (by decide)).1; have z4 := (HKZ.out 4 (by decide)).1; have y0 := (HKZ.out 0 (by decide)).2; have y1 := (HKZ.out 1 (by decide)).2; have y2 := (HKZ.out 2 (by decide)).2; have y3 := (HKZ.out 3 (by decide)).2; have y4 := (HKZ.out 4 (by decide)).2)
            refine wpAnyH_ready (rs := [5]) (by kernel_rfl) (by simp) ?_
            refine AllReadyH.cons (o := { dst := some 10, op := Go.Op.alloc 58, type := 0, pos := "scales.go:36", after := #[], guard := none }) rfl (fun K hK => ?_) AllReadyH.nil
            go_simp
            have HS5 : Hid (w2.heap.size ≤ _) := hHeld.size
            refine hK.out _ _ ?_ (fun hHeld => ?_)
            · exact Below.alloc hHeld hHeld.size _
            clear hK K
            try simp only [Act.put, List.setIfInBounds_toArray, List.set_cons_zero, List.set_cons_succ]
            generalize hwa : World.alloc _ _ = wa5 at hHeld ⊢
            have HT := tb_new hwa
            try (have HKZ := kb_al HKZ hwa)
            try (have HM := mok_of HM hwa)
            clear hwa
            try (have tt0 := HT.out.1.1; have tt1 := HT.out.2.1; have tf0 := HT.out.1.2; have tf1 := HT.out.2.2)
            try (have z0 := (HKZ.out 0 (by decide)).1; have z1 := (HKZ.out 1 (by decide)).1; have z2 := (HKZ.out 2 (by decide)).1; have z3 := (HKZ.out 3 (by decide)).1; have z4 := (HKZ.out 4 (by decide)).1; have y0 := (HKZ.out 0 (by decide)).2; have y1 := (HKZ.out 1 (by decide)).2; have y2 := (HKZ.out 2 (by decide)).2; have y3 := (HKZ.out 3 (by decide)).2; have y4 := (HKZ.out 4 (by decide)).2)
            refine wpAnyH_ready (rs := [7]) (by kernel_rfl) (by simp) ?_
            refine AllReadyH.cons (o := { dst := none, op := Go.Op.store 58 (Go.Operand.tmp 10) (Go.Operand.tmp 32), type := 0, pos := "scales.go:36", after := #[{ on := 5, ground := Go.Ground.data }, { on := 2, ground := Go.Ground.data }, { on := 4, ground := Go.Ground.chain }, { on := 0, ground := Go.Ground.phase }, { on := 1, ground := Go.Ground.phase }, { on := 2, ground := Go.Ground.phase }, { on := 3, ground := Go.Ground.textOnly Go.Departure.lateStores }, { on := 4, ground := Go.Ground.textOnly Go.Departure.lateStoresUnsure }, { on := 5, ground := Go.Ground.phase }, { on := 6, ground := Go.Ground.phase }], guard := none }) rfl (fun K hK => ?_) AllReadyH.nil
            go_simp
            skip
            refine hK.out _ _ ?_ (fun hHeld => ?_)
            · exact set2K hHeld HS5.out
            clear hK K
            try simp only [Act.put, List.setIfInBounds_toArray, List.set_cons_zero, List.set_cons_succ]
            generalize hw7 : World.setCell _ _ _ = w7 at hHeld ⊢
            have HM := mok_far2 HM HT hw7
            have HKZ := kb_far2 HKZ HT hw7
            have HT := tb_set HT hw7
            clear hw7
            try (have tt0 := HT.out.1.1; have tt1 := HT.out.2.1; have tf0 := HT.out.1.2; have tf1 := HT.out.2.2)
            try (have z0 := (HKZ.out 0 (by decide)).1; have z1 := (HKZ.out 1 (by decide)).1; have z2 := (HKZ.out 2 (by decide)).1; have z3 := (HKZ.out 3 (by decide)).1; have z4 := (HKZ.out 4 (by decide)).1; have y0 := (HKZ.out 0 (by decide)).2; have y1 := (HKZ.out 1 (by decide)).2; have y2 := (HKZ.out 2 (by decide)).2; have y3 := (HKZ.out 3 (by decide)).2; have y4 := (HKZ.out 4 (by decide)).2)
            refine wpAnyH_ready (rs := [8]) (by kernel_rfl) (by simp) ?_
            refine AllReadyH.cons (o := { dst := none, op := Go.Op.store 62 (Go.Operand.tmp 11) (Go.Operand.tmp 34), type := 0, pos := "scales.go:36", after := #[{ on := 6, ground := Go.Ground.data }, { on := 4, ground := Go.Ground.data }, { on := 7, ground := Go.Ground.chain }, { on := 0, ground := Go.Ground.phase }, { on := 1, ground := Go.Ground.phase }, { on := 2, ground := Go.Ground.phase }, { on := 3, ground := Go.Ground.phase }, { on := 4, ground := Go.Ground.phase }, { on := 5, ground := Go.Ground.phase }, { on := 6, ground := Go.Ground.phase }, { on := 7, ground := Go.Ground.phase }], guard := none }) rfl (fun K hK => ?_) AllReadyH.nil
            go_simp
            skip
            refine hK.out _ _ ?_ (fun hHeld => ?_)
            · exact set5K hHeld HS6.out
            clear hK K
            try simp only [Act.put, List.setIfInBounds_toArray, List.set_cons_zero, List.set_cons_succ]
            generalize hw8 : World.setCell _ _ _ = w8 at hHeld ⊢
            have HM := mok_far5 HM HKZ hw8
            have HT := tb_far5 HT HKZ hw8
            have HKZ := kb_set (u := knw (nat f) lr) HKZ hw8
            clear hw8
            refine wpAnyH_done (by kernel_rfl) ?_ _
            try simp only [Act.put, List.setIfInBounds_toArray, List.set_cons_zero, List.set_cons_succ]
            exact HREST.out _ _ _ _ _ HS5.out HS6.out HBm.out HT.out HKZ.out HM.out hHeld
          refine AllReadyH.cons (o := { dst := some 10, op := Go.Op.alloc 58, type := 0, pos := "scales.go:36", after := #[], guard := none }) rfl (fun K hK => ?_) ?_
          · go_simp
            have HS5 : Hid (w2.heap.size ≤ _) := hHeld.size
            refine hK.out _ _ ?_ (fun hHeld => ?_)
            · exact Below.alloc hHeld hHeld.size _
            clear hK K
            try simp only [Act.put, List.setIfInBounds_toArray, List.set_cons_zero, List.set_cons_succ]
            generalize hwa : World.alloc _ _ = wa5 at hHeld ⊢
            have HT := tb_new hwa
            try (have HKZ := kb_al HKZ hwa)
            try (have HM := mok_of HM hwa)
            clear hwa
            try (have tt0 := HT.out.1.1; have tt1 := HT.out.2.1; have tf0 := HT.out.1.2; have tf1 := HT.out.2.2)
            try (have z0 := (HKZ.out 0 (by decide)).1; have z1 := (HKZ.out 1 (by decide)).1; have z2 := (HKZ.out 2 (by decide)).1; have z3 := (HKZ.out 3 (by decide)).1; have z4 := (HKZ.out 4 (by decide)).1; have y0 := (HKZ.out 0 (by decide)).2; have y1 := (HKZ.out 1 (by decide)).2; have y2 := (HKZ.out 2 (by decide)).2; have y3 := (HKZ.out 3 (by decide)).2; have y4 := (HKZ.out 4 (by decide)).2)
            refine wpAnyH_ready (rs := [4]) (by kernel_rfl) (by simp) ?_
            refine AllReadyH.cons (o := { dst := some 34, op := Go.Op.call { callee := Go.Callee.value (Go.Operand.func 31), args := #[Go.Operand.tmp 33], argTypes := #[24] }, type := 62, pos := "scales.go:36", after := #[{ on := 3, ground := Go.Ground.data }, { on := 2, ground := Go.Ground.chain }], guard := none }) rfl (fun K hK => ?_) AllReadyH.nil
            go_simp
            refine (knownOf_any lr a cap (nat f) _ h5 (HR.out _ (by assumption))).mono ?_
            rintro e wk ⟨rfl, hbk⟩
            unfold kva
            refine hK.out _ _ ?_ (fun hHeld => ?_)
            · exact Below.then hHeld hbk
            clear hK K
            try simp only [Act.put, List.setIfInBounds_toArray, List.set_cons_zero, List.set_cons_succ]
            have HM := mok_be HM hbk
            try (have HT := tb_be HT hbk)
            try (have HKZ := kb_be HKZ hbk)
            try (have tt0 := HT.out.1.1; have tt1 := HT.out.2.1; have tf0 := HT.out.1.2; have tf1 := HT.out.2.2)
            try (have z0 := (HKZ.out 0 (by decide)).1; have z1 := (HKZ.out 1 (by decide)).1; have z2 := (HKZ.out 2 (by decide)).1; have z3 := (HKZ.out 3 (by decide)).1; have z4 := (HKZ.out 4 (by decide)).1; have y0 := (HKZ.out 0 (by decide)).2; have y1 := (HKZ.out 1 (by decide)).2; have y2 := (HKZ.out 2 (by decide)).2; have y3 := (HKZ.out 3 (by decide)).2; have y4 := (HKZ.out 4 (by decide)).2)
            refine wpAnyH_ready (rs := [7]) (by kernel_rfl) (by simp) ?_
            refine AllReadyH.cons (o := { dst := none, op := Go.Op.store 58 (Go.Operand.tmp 10) (Go.Operand.tmp 32), type := 0, pos := "scales.go:36", after := #[{ on := 5, ground := Go.Ground.data }, { on := 2, ground := Go.Ground.data }, { on := 4, ground := Go.Ground.chain }, { on := 0, ground := Go.Ground.phase }, { on := 1, ground := Go.Ground.phase }, { on := 2, ground := Go.Ground.phase }, { on := 3, ground := Go.Ground.textOnly Go.Departure.lateStores }, { on := 4, ground := Go.Ground.textOnly Go.Departure.lateStoresUnsure }, { on := 5, ground := Go.Ground.phase }, { on := 6, ground := Go.Ground.phase }], guard := none }) rfl (fun K hK => ?_) AllReadyH.nil
            go_simp
            skip
            refine hK.out _ _ ?_ (fun hHeld => ?_)
            · exact set2K hHeld HS5.out
            clear hK K
            try simp only [Act.put, List.setIfInBounds_toArray, List.set_cons_zero, List.set_cons_succ]
            generalize hw7 : World.setCell _ _ _ = w7 at hHeld ⊢
            have HM := mok_far2 HM HT hw7
            have HKZ := kb_far2 HKZ HT hw7
            have HT := tb_set HT hw7
            clear hw7
            try (have tt0 := HT.out.1.1; have tt1 := HT.out.2.1; have tf0 := HT.out.1.2; have tf1 := HT.out.2.2)
            try (have z0 := (HKZ.out 0 (by decide)).1; have z1 := (HKZ.out 1 (by decide)).1; have z2 := (HKZ.out 2 (by decide)).1; have z3 := (HKZ.out 3 (by decide)).1; have z4 := (HKZ.out 4 (by decide)).1; have y0 := (HKZ.out 0 (by decide)).2; have y1 := (HKZ.out 1 (by decide)).2; have y2 := (HKZ.out 2 (by decide)).2; have y3 := (HKZ.out 3 (by decide)).2; have y4 := (HKZ.out 4 (by decide)).2)
            refine wpAnyH_ready (rs := [8]) (by kernel_rfl) (by simp) ?_
            refine AllReadyH.cons (o := { dst := none, op := Go.Op.store 62 (Go.Operand.tmp 11) (Go.Operand.tmp 34), type := 0, pos := "scales.go:36", after := #[{ on := 6, ground := Go.Ground.data }, { on := 4, ground := Go.Ground.data }, { on := 7, ground := Go.Ground.chain }, { on := 0, ground := Go.Ground.phase }, { on := 1, ground := Go.Ground.phase }, { on := 2, ground := Go.Ground.phase }, { on := 3, ground := Go.Ground.phase }, { on := 4, ground := Go.Ground.phase }, { on := 5, ground := Go.Ground.phase }, { on := 6, ground := Go.Ground.phase }, { on := 7, ground := Go.Ground.phase }], guard := none }) rfl (fun K hK => ?_) AllReadyH.nil
            go_simp
            skip
            refine hK.out _ _ ?_ (fun hHeld => ?_)
            · exact set5K hHeld HS6.out
            clear hK K
            try simp only [Act.put, List.setIfInBounds_toArray, List.set_cons_zero, List.set_cons_succ]
            generalize hw8 : World.setCell _ _ _ = w8 at hHeld ⊢
            have HM := mok_far5 HM HKZ hw8
            have HT := tb_far5 HT HKZ hw8
            have HKZ := kb_set (u := knw (nat f) lr) HKZ hw8
            clear hw8
            refine wpAnyH_done (by kernel_rfl) ?_ _
            try simp only [Act.put, List.setIfInBounds_toArray, List.set_cons_zero, List.set_cons_succ]
            exact HREST.out _ _ _ _ _ HS5.out HS6.out HBm.out HT.out HKZ.out HM.out hHeld
          exact AllReadyH.nil
        refine AllReadyH.cons (o := { dst := some 10, op := Go.Op.alloc 58, type := 0, pos := "scales.go:36", after := #[], guard := none }) rfl (fun K hK => ?_) ?_
        · go_simp
          have HS5 : Hid (w2.heap.size ≤ _) := hHeld.size
          refine hK.out _ _ ?_ (fun hHeld => ?_)
          · exact Below.alloc hHeld hHeld.size _
          clear hK K
          try simp only [Act.put, List.setIfInBounds_toArray, List.set_cons_zero, List.set_cons_succ]
          generalize hwa : World.alloc _ _ = wa5 at hHeld ⊢
          have HT := tb_new hwa
          try (have HKZ := kb_al HKZ hwa)
          try (have HM := mok_of HM hwa)
          clear hwa
          try (have tt0 := HT.out.1.1; have tt1 := HT.out.2.1; have tf0 := HT.out.1.2; have tf1 := HT.out.2.2)
          try (have z0 := (HKZ.out 0 (by decide)).1; have z1 := (HKZ.out 1 (by decide)).1; have z2 := (HKZ.out 2 (by decide)).1; have z3 := (HKZ.out 3 (by decide)).1; have z4 := (HKZ.out 4 (by decide)).1; have y0 := (HKZ.out 0 (by decide)).2; have y1 := (HKZ.out 1 (by decide)).2; have y2 := (HKZ.out 2 (by decide)).2; have y3 := (HKZ.out 3 (by decide)).2; have y4 := (HKZ.out 4 (by decide)).2)
          refine wpAnyH_ready (rs := [2]) (by kernel_rfl) (by simp) ?_
          refine AllReadyH.cons (o := { dst := some 32, op := Go.Op.call { callee := Go.Callee.value (Go.Operand.func 29), args := #[Go.Operand.tmp 31], argTypes := #[3] }, type := 58, pos := "scales.go:36", after := #[{ on := 1, ground := Go.Ground.data }], guard := none }) rfl (fun K hK => ?_) AllReadyH.nil
          go_simp
          have hsz := hHeld.size
          refine (tableOf_any lr _).mono ?_
          rintro e wt ⟨⟨Bm, rfl, hBm, hmt⟩, hbt⟩
          refine hK.out _ _ ?_ (fun hHeld => ?_)
          · exact Below.then hHeld hbt
          clear hK K
          try simp only [Act.put, List.setIfInBounds_toArray, List.set_cons_zero, List.set_cons_succ]
          have HM : Hid (MOk lr Bm 0 wt _) := hmt
          have HBm : Hid (w2.heap.size ≤ Bm) := Nat.le_trans hsz hBm
          try (have HT := tb_be HT hbt)
          try (have HKZ := kb_be HKZ hbt)
          try (have tt0 := HT.out.1.1; have tt1 := HT.out.2.1; have tf0 := HT.out.1.2; have tf1 := HT.out.2.2)
          try (have z0 := (HKZ.out 0 (by decide)).1; have z1 := (HKZ.out 1 (by decide)).1; have z2 := (HKZ.out 2 (by decide)).1; have z3 := (HKZ.out 3 (by decide)).1; have z4 := (HKZ.out 4 (by decide)).1; have y0 := (HKZ.out 0 (by decide)).2; have y1 := (HKZ.out 1 (by decide)).2; have y2 := (HKZ.out 2 (by decide)).2; have y3 := (HKZ.out 3 (by decide)).2; have y4 := (HKZ.out 4 (by decide)).2)
          refine wpAnyH_ready (rs := [4]) (by kernel_rfl) (by simp) ?_
          refine AllReadyH.cons (o := { dst := some 34, op := Go.Op.call { callee := Go.Callee.value (Go.Operand.func 31), args := #[Go.Operand.tmp 33], argTypes := #[24] }, type := 62, pos := "scales.go:36", after := #[{ on := 3, ground := Go.Ground.data }, { on := 2, ground := Go.Ground.chain }], guard := none }) rfl (fun K hK => ?_) AllReadyH.nil
          go_simp
          refine (knownOf_any lr a cap (nat f) _ h5 (HR.out _ (by assumption))).mono ?_
          rintro e wk ⟨rfl, hbk⟩
          unfold kva
          refine hK.out _ _ ?_ (fun hHeld => ?_)
          · exact Below.then hHeld hbk
          clear hK K
          try simp only [Act.put, List.setIfInBounds_toArray, List.set_cons_zero, List.set_cons_succ]
          have HM := mok_be HM hbk
          try (have HT := tb_be HT hbk)
          try (have HKZ := kb_be HKZ hbk)
          try (have tt0 := HT.out.1.1; have tt1 := HT.out.2.1; have tf0 := HT.out.1.2; have tf1 := HT.out.2.2)
          try (have z0 := (HKZ.out 0 (by decide)).1; have z1 := (HKZ.out 1 (by decide)).1; have z2 := (HKZ.out 2 (by decide)).1; have z3 := (HKZ.out 3 (by decide)).1; have z4 := (HKZ.out 4 (by decide)).1; have y0 := (HKZ.out 0 (by decide)).2; have y1 := (HKZ.out 1 (by decide)).2; have y2 := (HKZ.out 2 (by decide)).2; have y3 := (HKZ.out 3 (by decide)).2; have y4 := (HKZ.out 4 (by decide)).2)
          refine wpAnyH_ready (rs := [7]) (by kernel_rfl) (by simp) ?_
          refine AllReadyH.cons (o := { dst := none, op := Go.Op.store 58 (Go.Operand.tmp 10) (Go.Operand.tmp 32), type := 0, pos := "scales.go:36", after := #[{ on := 5, ground := Go.Ground.data }, { on := 2, ground := Go.Ground.data }, { on := 4, ground := Go.Ground.chain }, { on := 0, ground := Go.Ground.phase }, { on := 1, ground := Go.Ground.phase }, { on := 2, ground := Go.Ground.phase }, { on := 3, ground := Go.Ground.textOnly Go.Departure.lateStores }, { on := 4, ground := Go.Ground.textOnly Go.Departure.lateStoresUnsure }, { on := 5, ground := Go.Ground.phase }, { on := 6, ground := Go.Ground.phase }], guard := none }) rfl (fun K hK => ?_) AllReadyH.nil
          go_simp
          skip
          refine hK.out _ _ ?_ (fun hHeld => ?_)
          · exact set2K hHeld HS5.out
          clear hK K
          try simp only [Act.put, List.setIfInBounds_toArray, List.set_cons_zero, List.set_cons_succ]
          generalize hw7 : World.setCell _ _ _ = w7 at hHeld ⊢
          have HM := mok_far2 HM HT hw7
          have HKZ := kb_far2 HKZ HT hw7
          have HT := tb_set HT hw7
          clear hw7
          try (have tt0 := HT.out.1.1; have tt1 := HT.out.2.1; have tf0 := HT.out.1.2; have tf1 := HT.out.2.2)
          try (have z0 := (HKZ.out 0 (by decide)).1; have z1 := (HKZ.out 1 (by decide)).1; have z2 := (HKZ.out 2 (by decide)).1; have z3 := (HKZ.out 3 (by decide)).1; have z4 := (HKZ.out 4 (by decide)).1; have y0 := (HKZ.out 0 (by decide)).2; have y1 := (HKZ.out 1 (by decide)).2; have y2 := (HKZ.out 2 (by decide)).2; have y3 := (HKZ.out 3 (by decide)).2; have y4 := (HKZ.out 4 (by decide)).2)
          refine wpAnyH_ready (rs := [8]) (by kernel_rfl) (by simp) ?_
          refine AllReadyH.cons (o := { dst := none, op := Go.Op.store 62 (Go.Operand.tmp 11) (Go.Operand.tmp 34), type := 0, pos := "scales.go:36", after := #[{ on := 6, ground := Go.Ground.data }, { on := 4, ground := Go.Ground.data }, { on := 7, ground := Go.Ground.chain }, { on := 0, ground := Go.Ground.phase }, { on := 1, ground := Go.Ground.phase }, { on := 2, ground := Go.Ground.phase }, { on := 3, ground := Go.Ground.phase }, { on := 4, ground := Go.Ground.phase }, { on := 5, ground := Go.Ground.phase }, { on := 6, ground := Go.Ground.phase }, { on := 7, ground := Go.Ground.phase }], guard := none }) rfl (fun K hK => ?_) AllReadyH.nil
          go_simp
          skip
          refine hK.out _ _ ?_ (fun hHeld => ?_)
          · exact set5K hHeld HS6.out
          clear hK K
          try simp only [Act.put, List.setIfInBounds_toArray, List.set_cons_zero, List.set_cons_succ]
          generalize hw8 : World.setCell _ _ _ = w8 at hHeld ⊢
          have HM := mok_far5 HM HKZ hw8
          have HT := tb_far5 HT HKZ hw8
          have HKZ := kb_set (u := knw (nat f) lr) HKZ hw8
          clear hw8
          refine wpAnyH_done (by kernel_rfl) ?_ _
          try simp only [Act.put, List.setIfInBounds_toArray, List.set_cons_zero, List.set_cons_succ]
          exact HREST.out _ _ _ _ _ HS5.out HS6.out HBm.out HT.out HKZ.out HM.out hHeld
        exact AllReadyH.nil
      exact AllReadyH.nil
  · have hne : (c != 0) = true := by simpa using h0
    clear K1
    go_wp2_with fail
    go_ret3
    exact ⟨⟨c, _, _, rfl, .inl ⟨h0, HC.out⟩, .inl ⟨h0, rfl, rfl⟩⟩, HB1.out⟩
end Go.Proofs.Ytipgojoiakbaiaa
