/-
  What lies where in a round of hasselaw.RestLattices: rows, boxes, results; and what stays. No condition but those that each theorem names.
-/
import Derived.Test.YthhnngmfbbljaaaGreatRtM
import Derived.Test.YthhnngmfbbljaaaGreatRtO
namespace Go.Proofs.YthhnngmfbbljaaaGreat
set_option maxRecDepth 100000
open Go.RowKit

abbrev FR (w : World) (K : Nat) (a : Option Addr) (n : Nat) (f : Nat → Int) : Prop := FRow w K w.heap.size a n f
/-- A row lies in another block than X. -/
def NeX (X : Nat) (a : Option Addr) (n : Nat) : Prop := 0 < n → bkO a ≠ X
def NeT (X : Nat) (a : Option Addr) (n : Nat) (S : Nat → Option Addr × Nat × Nat) (LS : Nat → Nat) : Prop := (0 < n → bkO a ≠ X) ∧ ∀ k, k < n → 0 < LS k → bkO (S k).1 ≠ X
/-- Cells of block X alone were written. -/
def SetX (X : Nat) (w w' : World) : Prop := w'.heap.size = w.heap.size ∧ (∀ p : Addr, p.block ≠ X → w'.cell? p = w.cell? p) ∧ ∀ p : Addr, w'.frozen? p = w.frozen? p
theorem setX2 {w w' : World} {X : Nat} {x y : Value} (e : (w.setCell ⟨X, 0, none⟩ x).setCell ⟨X, 1, none⟩ y = w') : SetX X w w' := by
  subst e
  refine ⟨by simp, fun p hp => ?_, fun p => by rw [World.frozen?_setCell, World.frozen?_setCell]⟩
  rw [World.cell?_setCell_other _ _ _ _ (fun q => hp (by rw [← q])), World.cell?_setCell_other _ _ _ _ (fun q => hp (by rw [← q]))]
theorem setX3 {w w' : World} {X : Nat} {x y z : Value} (e : ((w.setCell ⟨X, 0, none⟩ x).setCell ⟨X, 1, none⟩ y).setCell ⟨X, 2, none⟩ z = w') : SetX X w w' := by
  subst e
  refine ⟨by simp, fun p hp => ?_, fun p => by rw [World.frozen?_setCell, World.frozen?_setCell, World.frozen?_setCell]⟩
  rw [World.cell?_setCell_other _ _ _ _ (fun q => hp (by rw [← q])), World.cell?_setCell_other _ _ _ _ (fun q => hp (by rw [← q])), World.cell?_setCell_other _ _ _ _ (fun q => hp (by rw [← q]))]
theorem gen_al {C : World → Prop} {w : World} {o : Obj} (h : ∀ wa, w.alloc o = wa → C wa) : C (w.alloc o) := h _ rfl
theorem gen_set2 {C : World → Prop} {w : World} {p q : Addr} {x y : Value} (h : ∀ wa, (w.setCell p x).setCell q y = wa → C wa) : C ((w.setCell p x).setCell q y) := h _ rfl
theorem gen_set3 {C : World → Prop} {w : World} {p q r : Addr} {x y z : Value} (h : ∀ wa, ((w.setCell p x).setCell q y).setCell r z = wa → C wa) : C (((w.setCell p x).setCell q y).setCell r z) := h _ rfl
theorem alB {W w wa : World} {o : Obj} (h : Below W.heap.size W w) (e : w.alloc o = wa) : Below W.heap.size W wa := by rw [← e]; exact h.alloc h.size _
theorem stB2 {W w wa : World} {X : Nat} {x y : Value} (h : Below W.heap.size W w) (hz : W.heap.size ≤ X) (e : (w.setCell ⟨X, 0, none⟩ x).setCell ⟨X, 1, none⟩ y = wa) : Below W.heap.size W wa := by
  rw [← e]; exact (h.setCell (p := ⟨X, 0, none⟩) hz _).setCell (p := ⟨X, 1, none⟩) hz _
theorem stB3 {W w wa : World} {X : Nat} {x y z : Value} (h : Below W.heap.size W w) (hz : W.heap.size ≤ X) (e : ((w.setCell ⟨X, 0, none⟩ x).setCell ⟨X, 1, none⟩ y).setCell ⟨X, 2, none⟩ z = wa) : Below W.heap.size W wa := by
  rw [← e]; exact ((h.setCell (p := ⟨X, 0, none⟩) hz _).setCell (p := ⟨X, 1, none⟩) hz _).setCell (p := ⟨X, 2, none⟩) hz _
theorem FRow.setX {w w' : World} {K K' X : Nat} {a : Option Addr} {n : Nat} {f : Nat → Int} (h : FRow w K K' a n f) (hn : NeX X a n) (hs : SetX X w w') : FRow w' K K' a n f := fun k hk => by
  obtain ⟨b, rfl, hK, hc, hz⟩ := h k hk
  have hb : b ≠ X := hn (by omega)
  exact ⟨b, rfl, hK, (hs.2.1 ⟨b, k, none⟩ hb).trans hc, (hs.2.2 _).trans hz⟩
theorem frS {w w' : World} {K : Nat} {a : Option Addr} {n : Nat} {f : Nat → Int} (h : Hid (FR w K a n f)) (hb : Below w.heap.size w w') : Hid (FR w' K a n f) := (h.out.step hb).wide (Nat.le_refl _) hb.size
theorem frA {w w' : World} {K : Nat} {a : Option Addr} {n : Nat} {f : Nat → Int} {o : Obj} (h : Hid (FR w K a n f)) (e : w.alloc o = w') : Hid (FR w' K a n f) := by rw [← e]; exact frS h ((Below.refl _ _).alloc (Nat.le_refl _) _)
theorem frX {w w' : World} {K X : Nat} {a : Option Addr} {n : Nat} {f : Nat → Int} (h : Hid (FR w K a n f)) (hn : Hid (NeX X a n)) (hs : SetX X w w') : Hid (FR w' K a n f) := by
  have h1 := h.out.setX hn.out hs
  rw [Hid]; unfold FR; rw [hs.1]; exact h1
theorem neF_old {w w' : World} {X K' : Nat} {a : Option Addr} {n : Nat} {f : Nat → Int} (h : Hid (X < w.heap.size)) (hf : FRow w' w.heap.size K' a n f) : Hid (NeX X a n) := fun hn e => by
  obtain ⟨b, rfl, hK, _⟩ := hf 0 hn
  have h1 := h.out
  have : b = X := e
  omega
theorem neF_new {w wa : World} {K : Nat} {a : Option Addr} {n : Nat} {f : Nat → Int} {o : Obj} (h : Hid (FR w K a n f)) (_ : w.alloc o = wa) : Hid (NeX w.heap.size a n) := fun hn e => by
  obtain ⟨b, rfl, hK, _⟩ := h.out 0 hn
  have : b = w.heap.size := e
  omega
theorem twS {w w' : World} {K : Nat} {a : Option Addr} {n : Nat} {S : Nat → Option Addr × Nat × Nat} {LS : Nat → Nat} {F : Nat → Nat → Int} (h : Hid (Tws w K a n S LS F)) (hb : Below w.heap.size w w') : Hid (Tws w' K a n S LS F) := h.out.step hb
theorem twA {w w' : World} {K : Nat} {a : Option Addr} {n : Nat} {S : Nat → Option Addr × Nat × Nat} {LS : Nat → Nat} {F : Nat → Nat → Int} {o : Obj} (h : Hid (Tws w K a n S LS F)) (e : w.alloc o = w') : Hid (Tws w' K a n S LS F) := by rw [← e]; exact h.out.step ((Below.refl _ _).alloc (Nat.le_refl _) _)
theorem twX {w w' : World} {K X : Nat} {a : Option Addr} {n : Nat} {S : Nat → Option Addr × Nat × Nat} {LS : Nat → Nat} {F : Nat → Nat → Int} (h : Hid (Tws w K a n S LS F)) (hn : Hid (NeT X a n S LS)) (hs : SetX X w w') : Hid (Tws w' K a n S LS F) := fun k hk => by
  obtain ⟨⟨b, rfl, h1, h2⟩, h3, h4⟩ := h.out k hk
  have hb : b ≠ X := hn.out.1 (by omega)
  exact ⟨⟨b, rfl, by rw [hs.1]; exact h1, (hs.2.1 ⟨b, k, none⟩ hb).trans h2⟩, h3, by rw [hs.1]; exact h4.setX (hn.out.2 k hk) hs⟩
theorem tw_wide {w : World} {K K' : Nat} {a : Option Addr} {n : Nat} {S : Nat → Option Addr × Nat × Nat} {LS : Nat → Nat} {F : Nat → Nat → Int} (h : Tws w K a n S LS F) (hK : K' ≤ K) : Tws w K' a n S LS F := fun k hk => by
  obtain ⟨⟨b, e, h1, h2⟩, h3, h4⟩ := h k hk
  exact ⟨⟨b, e, ⟨by omega, h1.2⟩, h2⟩, h3, h4.wide hK (Nat.le_refl _)⟩
theorem neT_old {w w' : World} {X : Nat} {a : Option Addr} {n : Nat} {S : Nat → Option Addr × Nat × Nat} {LS : Nat → Nat} {F : Nat → Nat → Int} (h : Hid (X < w.heap.size)) (ht : Tws w' w.heap.size a n S LS F) : Hid (NeT X a n S LS) := by
  have h1 := h.out
  refine ⟨fun hn e => ?_, fun k hk hl e => ?_⟩
  · obtain ⟨⟨b, rfl, h2, _⟩, _⟩ := ht 0 hn
    have : b = X := e
    omega
  · obtain ⟨_, _, h4⟩ := ht k hk
    obtain ⟨b, e2, hK, _⟩ := h4 0 hl
    rw [e2] at e
    have : b = X := e
    omega
theorem neT_new {w wa : World} {K : Nat} {a : Option Addr} {n : Nat} {S : Nat → Option Addr × Nat × Nat} {LS : Nat → Nat} {F : Nat → Nat → Int} {o : Obj} (h : Hid (Tws w K a n S LS F)) (_ : w.alloc o = wa) : Hid (NeT w.heap.size a n S LS) := by
  refine ⟨fun hn e => ?_, fun k hk hl e => ?_⟩
  · obtain ⟨⟨b, rfl, h2, _⟩, _⟩ := h.out 0 hn
    have : b = w.heap.size := e
    omega
  · obtain ⟨_, _, h4⟩ := h.out k hk
    obtain ⟨b, e2, hK, _⟩ := h4 0 hl
    rw [e2] at e
    have : b = w.heap.size := e
    omega
theorem newLt {w wa : World} {o : Obj} (e : w.alloc o = wa) : Hid (w.heap.size < wa.heap.size) := by rw [Hid, ← e]; simp
theorem ltS {w w' : World} {X : Nat} (h : Hid (X < w.heap.size)) (hb : Below w.heap.size w w') : Hid (X < w'.heap.size) := Nat.lt_of_lt_of_le h.out hb.size
/-- Boxes. -/
def Bx2 (w : World) (X : Nat) (x y : Value) : Prop := w.cell? ⟨X, 0, none⟩ = some x ∧ w.cell? ⟨X, 1, none⟩ = some y
def Bx3 (w : World) (X : Nat) (x y z : Value) : Prop := w.cell? ⟨X, 0, none⟩ = some x ∧ w.cell? ⟨X, 1, none⟩ = some y ∧ w.cell? ⟨X, 2, none⟩ = some z
def Zf2 (w : World) (X : Nat) (x y : Value) : Prop := Bx2 w X x y ∧ w.frozen? ⟨X, 0, none⟩ = false ∧ w.frozen? ⟨X, 1, none⟩ = false
def Zf3 (w : World) (X : Nat) (x y z : Value) : Prop := Bx3 w X x y z ∧ w.frozen? ⟨X, 0, none⟩ = false ∧ w.frozen? ⟨X, 1, none⟩ = false ∧ w.frozen? ⟨X, 2, none⟩ = false
theorem cellS {w w' : World} {p : Addr} {v : Value} (hb : Below w.heap.size w w') (h : w.cell? p = some v) : w'.cell? p = some v := (hb.cell (World.block_lt_of_cell? _ _ h)).trans h
theorem frozS {w w' : World} {p : Addr} {v : Value} (hb : Below w.heap.size w w') (h : w.cell? p = some v) (hf : w.frozen? p = false) : w'.frozen? p = false := (hb.frozen (World.block_lt_of_cell? _ _ h)).trans hf
theorem Bx2.step {w w' : World} {X : Nat} {x y : Value} (h : Bx2 w X x y) (hb : Below w.heap.size w w') : Bx2 w' X x y := ⟨cellS hb h.1, cellS hb h.2⟩
theorem Bx3.step {w w' : World} {X : Nat} {x y z : Value} (h : Bx3 w X x y z) (hb : Below w.heap.size w w') : Bx3 w' X x y z := ⟨cellS hb h.1, cellS hb h.2.1, cellS hb h.2.2⟩
theorem zf2S {w w' : World} {X : Nat} {x y : Value} (h : Hid (Zf2 w X x y)) (hb : Below w.heap.size w w') : Hid (Zf2 w' X x y) := ⟨h.out.1.step hb, frozS hb h.out.1.1 h.out.2.1, frozS hb h.out.1.2 h.out.2.2⟩
theorem zf3S {w w' : World} {X : Nat} {x y z : Value} (h : Hid (Zf3 w X x y z)) (hb : Below w.heap.size w w') : Hid (Zf3 w' X x y z) := ⟨h.out.1.step hb, frozS hb h.out.1.1 h.out.2.1, frozS hb h.out.1.2.1 h.out.2.2.1, frozS hb h.out.1.2.2 h.out.2.2.2⟩
theorem zf2N {w wa : World} {x y : Value} {t : TypeId} (e : w.alloc (.cells #[x, y] t) = wa) : Hid (Zf2 wa w.heap.size x y) := by
  rw [← e]
  exact ⟨⟨by simp, by simp⟩, World.frozen?_alloc_at _ _ _ _ rfl, World.frozen?_alloc_at _ _ _ _ rfl⟩
theorem zf3N {w wa : World} {x y z : Value} {t : TypeId} (e : w.alloc (.cells #[x, y, z] t) = wa) : Hid (Zf3 wa w.heap.size x y z) := by
  rw [← e]
  exact ⟨⟨by simp, by simp, by simp⟩, World.frozen?_alloc_at _ _ _ _ rfl, World.frozen?_alloc_at _ _ _ _ rfl, World.frozen?_alloc_at _ _ _ _ rfl⟩
theorem bx2P {w w' : World} {X : Nat} {x y u v : Value} (h : Hid (Zf2 w X x y)) (e : (w.setCell ⟨X, 0, none⟩ u).setCell ⟨X, 1, none⟩ v = w') : Hid (Bx2 w' X u v) := by
  obtain ⟨⟨z0, z1⟩, _⟩ := h.out
  have ne : ∀ {i k : Nat}, i ≠ k → (⟨X, i, none⟩ : Addr) ≠ ⟨X, k, none⟩ := fun h e => h (by injection e)
  rw [← e]
  refine ⟨?_, ?_⟩
  · rw [World.cell?_setCell_other _ _ _ _ (ne (by decide))]; exact World.cell?_setCell_same _ _ _ z0
  · exact World.cell?_setCell_same _ _ _ ((World.cell?_setCell_other _ _ _ _ (ne (by decide))).trans z1)
theorem bx3P {w w' : World} {X : Nat} {x y z u v t : Value} (h : Hid (Zf3 w X x y z)) (e : ((w.setCell ⟨X, 0, none⟩ u).setCell ⟨X, 1, none⟩ v).setCell ⟨X, 2, none⟩ t = w') : Hid (Bx3 w' X u v t) := by
  obtain ⟨⟨z0, z1, z2⟩, _⟩ := h.out
  have ne : ∀ {i k : Nat}, i ≠ k → (⟨X, i, none⟩ : Addr) ≠ ⟨X, k, none⟩ := fun h e => h (by injection e)
  rw [← e]
  refine ⟨?_, ?_, ?_⟩
  · rw [World.cell?_setCell_other _ _ _ _ (ne (by decide)), World.cell?_setCell_other _ _ _ _ (ne (by decide))]; exact World.cell?_setCell_same _ _ _ z0
  · rw [World.cell?_setCell_other _ _ _ _ (ne (by decide))]
    exact World.cell?_setCell_same _ _ _ ((World.cell?_setCell_other _ _ _ _ (ne (by decide))).trans z1)
  · exact World.cell?_setCell_same _ _ _ ((World.cell?_setCell_other _ _ _ _ (ne (by decide))).trans ((World.cell?_setCell_other _ _ _ _ (ne (by decide))).trans z2))
theorem Bx3.setX {w w' : World} {X Y : Nat} {x y z : Value} (h : Bx3 w Y x y z) (hn : Y ≠ X) (hs : SetX X w w') : Bx3 w' Y x y z := ⟨(hs.2.1 _ hn).trans h.1, (hs.2.1 _ hn).trans h.2.1, (hs.2.1 _ hn).trans h.2.2⟩
theorem Zf3.setX {w w' : World} {X Y : Nat} {x y z : Value} (h : Zf3 w Y x y z) (hn : Y ≠ X) (hs : SetX X w w') : Zf3 w' Y x y z := ⟨h.1.setX hn hs, (hs.2.2 _).trans h.2.1, (hs.2.2 _).trans h.2.2.1, (hs.2.2 _).trans h.2.2.2⟩
theorem Bx3.off {w w' : World} {K K' X : Nat} {x y z : Value} (h : Bx3 w X x y z) (hX : X < K ∨ K' ≤ X) (ho : Off K K' w w') : Bx3 w' X x y z := ⟨ho.cell hX h.1, ho.cell hX h.2.1, ho.cell hX h.2.2⟩
theorem SetX.off {X : Nat} {w w' : World} (h : SetX X w w') : Off X (X + 1) w w' := ⟨by rw [h.1]; exact Nat.le_refl _, fun p hp => by
  have hn : p.block ≠ X := by omega
  exact ⟨fun v hv => (h.2.1 p hn).trans hv, fun v _ hf => (h.2.2 p).trans hf⟩⟩
theorem LatR.setX {B U X : Nat} {w w' : World} {N : Nat} {m j : Nat → Nat → Nat} {a1 : Option Addr} {c1 : Nat} {a2 : Option Addr} {c2 : Nat} (h : LatR B U w N m j a1 c1 a2 c2) (hX : X < B) (hs : SetX X w w') : LatR B U w' N m j a1 c1 a2 c2 := h.off (K' := X + 1) hX hs.off
/-- What is spoilt in a round, and where it is told. -/
structure Ws (K K' : Nat) (w : World) (P M D : Nat) (a2 : Option Addr) (la c2 : Nat) (m1 : Option Addr) (l1 d1 : Nat) (T1 : Nat → Option Addr × Nat × Nat) (m2 : Option Addr) (l2 d2 : Nat) (T2 : Nat → Option Addr × Nat × Nat) (dd : Option Addr) (ld cd : Nat) (tt : Option Addr) (q : Nat) : Prop where
  pc : w.cell? ⟨P, 1, none⟩ = some (.slice a2 la c2)
  mc : w.cell? ⟨M, 1, none⟩ = some (.slice m1 l1 d1)
  nc : w.cell? ⟨M, 2, none⟩ = some (.slice m2 l2 d2)
  dc : w.cell? ⟨D, 2, none⟩ = some (.slice dd ld cd)
  rp : Wr w K K' a2 la
  r1 : Wrs w K K' m1 l1 T1
  r2 : Wrs w K K' m2 l2 T2
  rd : Wr w K K' dd ld
  rt : Wr w K K' tt q
theorem Ws.kp {K K' : Nat} {w w' : World} {P M D : Nat} {a2 : Option Addr} {la c2 : Nat} {m1 : Option Addr} {l1 d1 : Nat} {T1 : Nat → Option Addr × Nat × Nat} {m2 : Option Addr} {l2 d2 : Nat} {T2 : Nat → Option Addr × Nat × Nat} {dd : Option Addr} {ld cd : Nat} {tt : Option Addr} {q : Nat} (h : Ws K K' w P M D a2 la c2 m1 l1 d1 T1 m2 l2 d2 T2 dd ld cd tt q) (hk : Kp w w') : Ws K K' w' P M D a2 la c2 m1 l1 d1 T1 m2 l2 d2 T2 dd ld cd tt q :=
  ⟨hk.1 _ _ (fun _ _ e => by cases e) h.pc, hk.1 _ _ (fun _ _ e => by cases e) h.mc, hk.1 _ _ (fun _ _ e => by cases e) h.nc, hk.1 _ _ (fun _ _ e => by cases e) h.dc, hk.2 _ _ _ _ h.rp, h.r1.kp hk, h.r2.kp hk, hk.2 _ _ _ _ h.rd, hk.2 _ _ _ _ h.rt⟩
/-- The two results in their boxes. -/
def Two2 (w : World) (X Y N : Nat) (m j : Nat → Nat → Nat) (U1 U2 V1 V2 : Nat) (a1 : Option Addr) (c1 : Nat) (a2 : Option Addr) (c2 : Nat) (b1 : Option Addr) (d1 : Nat) (b2 : Option Addr) (d2 : Nat) : Prop :=
  (Bx3 w X (.int .i64 (N : Nat)) (.slice a1 N c1) (.slice a2 N c2) ∧ Bx3 w Y (.int .i64 (N : Nat)) (.slice b1 N d1) (.slice b2 N d2)) ∧ LatR U1 U2 w N m j a1 c1 a2 c2 ∧ LatR V1 V2 w N m j b1 d1 b2 d2 ∧ (X < U1 ∧ Y < U1) ∧ U1 ≤ U2 ∧ U2 ≤ V1
theorem Two2.off {w w' : World} {X Y N : Nat} {m j : Nat → Nat → Nat} {U1 U2 V1 V2 : Nat} {a1 : Option Addr} {c1 : Nat} {a2 : Option Addr} {c2 : Nat} {b1 : Option Addr} {d1 : Nat} {b2 : Option Addr} {d2 : Nat} {K K' : Nat} (h : Two2 w X Y N m j U1 U2 V1 V2 a1 c1 a2 c2 b1 d1 b2 d2) (hK : K' ≤ X ∧ K' ≤ Y) (ho : Off K K' w w') : Two2 w' X Y N m j U1 U2 V1 V2 a1 c1 a2 c2 b1 d1 b2 d2 :=
  ⟨⟨h.1.1.off (.inr hK.1) ho, h.1.2.off (.inr hK.2) ho⟩, h.2.1.off (by have := h.2.2.2.1; omega) ho, h.2.2.1.off (by have := h.2.2.2.1; have := h.2.2.2.2; omega) ho, h.2.2.2⟩
theorem Two2.step {w w' : World} {X Y N : Nat} {m j : Nat → Nat → Nat} {U1 U2 V1 V2 : Nat} {a1 : Option Addr} {c1 : Nat} {a2 : Option Addr} {c2 : Nat} {b1 : Option Addr} {d1 : Nat} {b2 : Option Addr} {d2 : Nat} (h : Two2 w X Y N m j U1 U2 V1 V2 a1 c1 a2 c2 b1 d1 b2 d2) (hb : Below w.heap.size w w') : Two2 w' X Y N m j U1 U2 V1 V2 a1 c1 a2 c2 b1 d1 b2 d2 :=
  ⟨⟨h.1.1.step hb, h.1.2.step hb⟩, h.2.1.step hb, h.2.2.1.step hb, h.2.2.2⟩
/-- A lattice that came is one by Check. -/
theorem LatR.chk {B U : Nat} {w : World} {N : Nat} {m j : Nat → Nat → Nat} {a1 : Option Addr} {c1 : Nat} {a2 : Option Addr} {c2 : Nat} (h : LatR B U w N m j a1 c1 a2 c2) (hN : 1 ≤ N) : ∃ SA SB, RR w a1 N SA (fun x y => (m x y : Nat)) ∧ RR w a2 N SB (fun x y => (j x y : Nat)) ∧ LCk (N : Int) N SA (fun x y => (m x y : Nat)) N SB (fun x y => (j x y : Nat)) 0 := by
  rcases h with ⟨h0, _⟩ | ⟨h1, h2, h3, T1, T2, R1, R2, ⟨rfl, rfl, rfl, rfl⟩, h5, h6, _⟩
  · omega
  · exact ⟨_, _, h5.rr (by unfold maxLen; omega), h6.rr (by unfold maxLen; omega), LCk.of h1 h2 (fun _ _ => rfl) (fun _ _ => rfl) h3⟩
end Go.Proofs.YthhnngmfbbljaaaGreat
