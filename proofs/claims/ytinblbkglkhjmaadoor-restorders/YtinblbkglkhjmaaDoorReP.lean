/-
  One round of the law: the boxes, what is spoiled and what stays, the two results side by side. No condition.
-/
import Derived.Test.YtinblbkglkhjmaaDoorReN
namespace Go.Proofs.YtinblbkglkhjmaaDoor
open Go.RowKit

theorem gen_al {C : World → Prop} {w : World} {o : Obj} (h : ∀ wa, w.alloc o = wa → C wa) : C (w.alloc o) := h _ rfl
theorem gen_set2 {C : World → Prop} {w : World} {p q : Addr} {x y : Value} (h : ∀ wa, (w.setCell p x).setCell q y = wa → C wa) : C ((w.setCell p x).setCell q y) := h _ rfl
theorem alB {W w wa : World} {o : Obj} (h : Below W.heap.size W w) (e : w.alloc o = wa) : Below W.heap.size W wa := by rw [← e]; exact h.alloc h.size _
theorem stB {W w wa : World} {X : Nat} {x y : Value} (h : Below W.heap.size W w) (hz : Hid (W.heap.size ≤ X)) (e : (w.setCell ⟨X, 0, none⟩ x).setCell ⟨X, 1, none⟩ y = wa) : Below W.heap.size W wa := by rw [← e]; exact keepZ h hz
theorem szP {W w wa : World} {o : Obj} (h : Below W.heap.size W w) (_ : w.alloc o = wa) : Hid (W.heap.size ≤ w.heap.size) := h.size
theorem zbNe {w wa : World} {o : Obj} {X : Nat} (h : Hid (ZBox w X)) (_ : w.alloc o = wa) : Hid (X ≠ w.heap.size) := Nat.ne_of_lt (zbLt h)
theorem neS {a b : Nat} (h : Hid (a ≠ b)) : Hid (b ≠ a) := fun e => h.out e.symm
theorem ne_rows {w w' : World} {K K' : Nat} {a b : Option Addr} {la lb : Nat} {fa fb : Nat → Int} (h : Hid (FR w K a la fa)) (hf : FRow w' w.heap.size K' b lb fb) : Hid (0 < la → NeX (bk a) b lb) := fun ha hb e => by
  have h1 := (h.out.at' ha).2.2
  have h2 := (hf.at' hb).2.1
  omega
/-- Of what is there, only the row's own block was written. -/
def OffB (a : Option Addr) (n : Nat) (w w' : World) : Prop := w.heap.size ≤ w'.heap.size ∧ ∀ p : Addr, (0 < n → p.block ≠ bk a) →
  (∀ v, w.cell? p = some v → w'.cell? p = some v) ∧ (∀ v, w.cell? p = some v → w.frozen? p = false → w'.frozen? p = false)
theorem spoil_fine (K : Nat) (a : Option Addr) (n cap : Nat) (f : Nat → Int) (w : World) (hn : n ≤ 17592186043904) (h : FR w K a n f) :
    Calls Tryd.prog 13 #[.slice a n cap] w fun e w' => e = .returned (.tuple #[]) ∧ OffB a n w w' ∧ (∀ w0 : World, w0.heap.size ≤ K → Below w0.heap.size w0 w → Below w0.heap.size w0 w') := by
  by_cases h0 : n = 0
  · subst h0
    refine (spoil_any K K a 0 cap f w hn (fun k hk => absurd hk (Nat.not_lt_zero _))).mono ?_
    rintro e w' ⟨rfl, ho, hb⟩
    exact ⟨rfl, ⟨ho.1, fun p _ => ho.2 p (by omega)⟩, hb⟩
  · have hp : 0 < n := by omega
    have hK := (h.at' hp).2.1
    refine (spoil_any (bk a) (bk a + 1) a n cap f w hn h.lone).mono ?_
    rintro e w' ⟨rfl, ho, hb⟩
    exact ⟨rfl, ⟨ho.1, fun p hne => ho.2 p (by have := hne hp; omega)⟩, fun w0 h1 h2 => hb w0 (by omega) h2⟩
theorem bxB {w w' : World} {X n : Nat} {x a : Option Addr} {N : Int} {l cap : Nat} (h : Hid (Bxd w X N a l cap)) (ho : OffB x n w w') (hn : Hid (NeX X x n)) : Hid (Bxd w' X N a l cap) :=
  ⟨(ho.2 _ fun h0 e => hn.out h0 e.symm).1 _ h.out.1, (ho.2 _ fun h0 e => hn.out h0 e.symm).1 _ h.out.2⟩
theorem frB {w w' : World} {K n : Nat} {x a : Option Addr} {l : Nat} {f : Nat → Int} (h : Hid (FR w K a l f)) (ho : OffB x n w w') (hn : Hid (0 < n → NeX (bk x) a l)) : Hid (FR w' K a l f) := fun k hk => by
  obtain ⟨b, rfl, ⟨h1, h2⟩, h3, h4⟩ := h.out k hk
  have hp := ho.2 ⟨b, k, none⟩ (fun h0 e => hn.out h0 (by omega) e)
  exact ⟨b, rfl, ⟨h1, Nat.lt_of_lt_of_le h2 ho.1⟩, hp.1 _ h3, hp.2 _ h3 h4⟩
/-- The two twins, and what the call gave, each in its box. -/
structure PX (P0 : Prop) (l0 : Nat) (G0 : Nat → Nat) (S0 : Nat) (w : World) (na : Int) (la : Nat) (fa : Nat → Int) (nb : Int) (lb : Nat) (fb : Nat → Int) (P Q X : Nat) (a : Option Addr) (ca : Nat) (b : Option Addr) (cb : Nat) (N : Int) (x : Option Addr) (lx cx : Nat) (G : Nat → Nat) : Prop where
  bp : Bxd w P na a la ca
  bq : Bxd w Q nb b lb cb
  bx : Bxd w X N x lx cx
  ra : FR w S0 a la fa
  rb : FR w S0 b lb fb
  rx : FR w S0 x lx (fun j => (G j : Nat))
  aq : NeX Q a la
  ax : NeX X a la
  bx' : NeX X b lb
  ab : 0 < la → NeX (bk a) b lb
  xa : 0 < la → NeX (bk a) x lx
  xb : 0 < lb → NeX (bk b) x lx
  det : Det P0 l0 G0 N lx G
theorem wrb_fr {K : Nat} {w : World} {N : Value} {x : Option Addr} {lx cx : Nat} {f : Nat → Int} (hr : Row w x lx f) (hw : WrB K w (.agg #[N, .slice x lx cx])) : FRow w K w.heap.size x lx f := fun k hk => by
  obtain ⟨b, e, h1, h2⟩ := hw _ _ _ _ rfl k hk
  obtain ⟨b', off, e', hc⟩ := hr k hk
  subst e
  injection e' with e'
  injection e' with e1 e2
  subst e1 e2
  rw [Nat.zero_add] at hc
  exact ⟨b, rfl, h1, hc, h2⟩
theorem px_mk {P0 : Prop} {l0 : Nat} {G0 : Nat → Nat} {S0 : Nat} {wv wc wd : World} {na : Int} {la : Nat} {fa : Nat → Int} {nb : Int} {lb : Nat} {fb : Nat → Int} {P Q X : Nat} {a : Option Addr} {ca : Nat} {b : Option Addr} {cb : Nat} {N : Int} {x : Option Addr} {lx cx : Nat} {G : Nat → Nat}
    (h : Hid (PQ S0 wv na la fa nb lb fb P Q a ca b cb)) (hz : Hid (ZBox wv X)) (hXa : Hid (NeX X a la)) (hXb : Hid (NeX X b lb)) (hP : Hid (X ≠ P)) (hQ : Hid (X ≠ Q)) (hS : Hid (S0 ≤ wv.heap.size)) (hb : Below wv.heap.size wv wc) (hd : Det P0 l0 G0 N lx G) (hr : Row wc x lx (fun j => (G j : Nat))) (hw : WrB wv.heap.size wc (.agg #[.int .i64 N, .slice x lx cx]))
    (e : (wc.setCell ⟨X, 0, none⟩ (.int .i64 N)).setCell ⟨X, 1, none⟩ (.slice x lx cx) = wd) : Hid (PX P0 l0 G0 S0 wd na la fa nb lb fb P Q X a ca b cb N x lx cx G) := by
  have hF := wrb_fr hr hw
  obtain ⟨p1, p2, p3, p4, p5, p6, p7, p8, p9, _, _⟩ := h.out
  have hxX : Hid (NeX X x lx) := neF_old hz hF
  have hF' : Hid (FR wc S0 x lx (fun j => (G j : Nat))) := hF.wide hS.out (Nat.le_refl _)
  exact { bp := (bxO (bxS p1 hb) hP e).out, bq := (bxO (bxS p2 hb) hQ e).out, bx := (bxZ (zbS hz hb) e).out, ra := (frZ (frS p3 hb) hXa e).out, rb := (frZ (frS p4 hb) hXb e).out, rx := (frZ hF' hxX e).out, aq := p6, ax := hXa.out, bx' := hXb.out, ab := p9, xa := (ne_rows p3 hF).out, xb := (ne_rows p4 hF).out, det := hd }
/-- The two results side by side, the first i of them told. -/
structure OSt (P0 : Prop) (l0 : Nat) (G0 : Nat → Nat) (O i : Nat) (w : World) : Prop where
  c : ∀ j, j < 4 → ∃ v, w.cell? ⟨O, j, none⟩ = some v
  f : ∀ j, j < 4 → w.frozen? ⟨O, j, none⟩ = false
  e : ∀ j, j < i → ∃ (N : Int) (a : Option Addr) (l cap : Nat) (G : Nat → Nat), w.cell? ⟨O, 2 * j, none⟩ = some (.int .i64 N) ∧ w.cell? ⟨O, 2 * j + 1, none⟩ = some (.slice a l cap) ∧ Det P0 l0 G0 N l G ∧ FR w (O + 1) a l (fun j => (G j : Nat))
theorem OSt.new {P0 : Prop} {l0 : Nat} {G0 : Nat → Nat} {w wa : World} (e : w.alloc (.cells #[.int .i64 0, .slice none 0 0, .int .i64 0, .slice none 0 0] 26) = wa) : Hid (OSt P0 l0 G0 w.heap.size 0 wa) := by
  rw [← e]
  refine { c := fun j hj => ?_, f := fun j hj => ?_, e := fun j hj => absurd hj (Nat.not_lt_zero _) }
  · match j, hj with
    | 0, _ => exact ⟨_, by simp; rfl⟩
    | 1, _ => exact ⟨_, by simp; rfl⟩
    | 2, _ => exact ⟨_, by simp; rfl⟩
    | 3, _ => exact ⟨_, by simp; rfl⟩
  · simp
theorem OSt.lt {P0 : Prop} {l0 : Nat} {G0 : Nat → Nat} {O i : Nat} {w : World} (h : Hid (OSt P0 l0 G0 O i w)) : O < w.heap.size := by
  obtain ⟨v, hv⟩ := h.out.c 0 (by omega)
  exact World.block_lt_of_cell? _ _ hv
theorem OSt.step {P0 : Prop} {l0 : Nat} {G0 : Nat → Nat} {O i : Nat} {w w' : World} (h : Hid (OSt P0 l0 G0 O i w)) (hb : Below w.heap.size w w') : Hid (OSt P0 l0 G0 O i w') := by
  have hlt := OSt.lt h
  refine { c := fun j hj => ?_, f := fun j hj => ?_, e := fun j hj => ?_ }
  · obtain ⟨v, hv⟩ := h.out.c j hj; exact ⟨v, cellS hb hv⟩
  · exact (hb.frozen (p := ⟨O, j, none⟩) hlt).trans (h.out.f j hj)
  · obtain ⟨N, a, l, cap, G, h1, h2, h3, h4⟩ := h.out.e j hj
    exact ⟨N, a, l, cap, G, cellS hb h1, cellS hb h2, h3, (frS h4 hb).out⟩
theorem OSt.lows {P0 : Prop} {l0 : Nat} {G0 : Nat → Nat} {O i : Nat} {w w' : World} (h : Hid (OSt P0 l0 G0 O i w)) (hb : Below w.heap.size w w') : ∀ j, j < i → ∀ N a l cap, w'.cell? ⟨O, 2 * j, none⟩ = some (.int .i64 N) → w'.cell? ⟨O, 2 * j + 1, none⟩ = some (.slice a l cap) → 0 < l → bk a < w.heap.size := fun j hj N a l cap _ h1 hl => by
  obtain ⟨N', a', l', cap', G', k1, k2, _, k4⟩ := h.out.e j hj
  have e := (cellS hb k2).symm.trans h1
  injection e with e
  injection e with e1 e2 e3
  subst e1 e2
  exact (k4.at' hl).2.2
theorem OSt.last {P0 : Prop} {l0 : Nat} {G0 : Nat → Nat} {O i S0 : Nat} {wy wz wu wv : World} {x a : Option Addr} {lx : Nat} {gx : Nat → Int} {N : Int} {l cap : Nat} {G : Nat → Nat} (hi : i < 2) (h : Hid (OSt P0 l0 G0 O i wy)) (hO : O < S0) (hS : ∀ j, j < i → ∀ N a l cap, wy.cell? ⟨O, 2 * j, none⟩ = some (.int .i64 N) → wy.cell? ⟨O, 2 * j + 1, none⟩ = some (.slice a l cap) → 0 < l → bk a < S0)
    (hx : Hid (FR wy S0 x lx gx)) (hb : Below wy.heap.size wy wz) (hF : FRow wz wy.heap.size wz.heap.size a l (fun j => (G j : Nat))) (hd : Det P0 l0 G0 N l G) (e : (wz.setCell ⟨O, 2 * i, none⟩ (.int .i64 N)).setCell ⟨O, 2 * i + 1, none⟩ (.slice a l cap) = wu) (ho : OffB x lx wu wv) : Hid (OSt P0 l0 G0 O (i + 1) wv) := by
  have hz := (OSt.step h hb).out
  have hlt := OSt.lt h
  have hxO : 0 < lx → O ≠ bk x := fun h0 e => by have := (hx.out.at' h0).2.1; omega
  have hsz : wu.heap.size = wz.heap.size := by rw [← e]; simp
  have hsame : ∀ p : Addr, (p.block ≠ O ∨ (p.off ≠ 2 * i ∧ p.off ≠ 2 * i + 1)) → wu.cell? p = wz.cell? p := fun p hp => by
    rw [← e, World.cell?_setCell_other _ _ _ _ (fun q => by subst q; simp at hp), World.cell?_setCell_other _ _ _ _ (fun q => by subst q; simp at hp)]
  have hfr : ∀ p, wu.frozen? p = wz.frozen? p := fun p => by rw [← e, World.frozen?_setCell, World.frozen?_setCell]
  have c0 : wu.cell? ⟨O, 2 * i, none⟩ = some (.int .i64 N) := by
    obtain ⟨v, hv⟩ := hz.c (2 * i) (by omega)
    rw [← e, World.cell?_setCell_other _ _ _ _ (fun q => by injection q with _ q2; omega)]
    exact World.cell?_setCell_same _ _ _ hv
  have c1 : wu.cell? ⟨O, 2 * i + 1, none⟩ = some (.slice a l cap) := by
    obtain ⟨v, hv⟩ := hz.c (2 * i + 1) (by omega)
    rw [← e]
    exact World.cell?_setCell_same _ _ _ ((World.cell?_setCell_other _ _ _ _ (fun q => by injection q with _ q2; omega)).trans hv)
  have hc : ∀ j, j < 4 → ∃ v, wu.cell? ⟨O, j, none⟩ = some v := fun j hj => by
    by_cases h1 : j = 2 * i
    · subst h1; exact ⟨_, c0⟩
    · by_cases h2 : j = 2 * i + 1
      · subst h2; exact ⟨_, c1⟩
      · obtain ⟨v, hv⟩ := hz.c j hj
        exact ⟨v, (hsame _ (.inr ⟨h1, h2⟩)).trans hv⟩
  refine { c := fun j hj => ?_, f := fun j hj => ?_, e := fun j hj => ?_ }
  · obtain ⟨v, hv⟩ := hc j hj
    exact ⟨v, (ho.2 ⟨O, j, none⟩ hxO).1 v hv⟩
  · obtain ⟨v, hv⟩ := hc j hj
    exact (ho.2 ⟨O, j, none⟩ hxO).2 v hv ((hfr _).trans (hz.f j hj))
  · by_cases hji : j = i
    · subst hji
      refine ⟨N, a, l, cap, G, (ho.2 ⟨O, _, none⟩ hxO).1 _ c0, (ho.2 ⟨O, _, none⟩ hxO).1 _ c1, hd, fun k hk => ?_⟩
      obtain ⟨b, rfl, ⟨h1, h2⟩, h3, h4⟩ := hF k hk
      have hp := ho.2 ⟨b, k, none⟩ (fun h0 e => by have := (hx.out.at' h0).2.2; have e' : b = bk x := e; omega)
      have h3' := (hsame ⟨b, k, none⟩ (.inl (by show b ≠ O; omega))).trans h3
      exact ⟨b, rfl, ⟨by omega, by have := ho.1; omega⟩, hp.1 _ h3', hp.2 _ h3' ((hfr _).trans h4)⟩
    · obtain ⟨N', a', l', cap', G', k1, k2, k3, k4⟩ := h.out.e j (by omega)
      have k5 := (frS k4 hb).out
      have q0 := (hsame ⟨O, 2 * j, none⟩ (.inr ⟨by show 2 * j ≠ _; omega, by show 2 * j ≠ _; omega⟩)).trans (cellS hb k1)
      have q1 := (hsame ⟨O, 2 * j + 1, none⟩ (.inr ⟨by show 2 * j + 1 ≠ _; omega, by show 2 * j + 1 ≠ _; omega⟩)).trans (cellS hb k2)
      refine ⟨N', a', l', cap', G', (ho.2 ⟨O, _, none⟩ hxO).1 _ q0, (ho.2 ⟨O, _, none⟩ hxO).1 _ q1, k3, fun k hk => ?_⟩
      have hlo := hS j (by omega) _ _ _ _ k1 k2 (by omega)
      obtain ⟨b, rfl, ⟨h1, h2⟩, h3, h4⟩ := k5 k hk
      have hlo' : b < S0 := hlo
      have hp := ho.2 ⟨b, k, none⟩ (fun h0 e => by have := (hx.out.at' h0).2.1; have e' : b = bk x := e; omega)
      have h3' := (hsame ⟨b, k, none⟩ (.inl (by show b ≠ O; omega))).trans h3
      exact ⟨b, rfl, ⟨h1, by have := ho.1; omega⟩, hp.1 _ h3', hp.2 _ h3' ((hfr _).trans h4)⟩
theorem ost_two {na : Int} {la : Nat} {fa : Nat → Int} {nb : Int} {lb : Nat} {fb : Nat → Int} {set : Int} {k : Nat} (hk : k < 7) {O : Nat} {w : World} (h : Hid (OSt (PP na la fa nb lb fb set k) (LL la lb set k) (GG la fa lb fb set k) O 2 w)) :
    ∃ (N : Int) (a0 a1 : Option Addr) (l c0 c1 : Nat) (g : Nat → Nat), w.cell? ⟨O, 0, none⟩ = some (.int .i64 N) ∧ w.cell? ⟨O, 1, none⟩ = some (.slice a0 l c0) ∧ w.cell? ⟨O, 2, none⟩ = some (.int .i64 N) ∧ w.cell? ⟨O, 3, none⟩ = some (.slice a1 l c1) ∧ l ≤ 10 ∧ Row w a0 l (fun j => (g j : Nat)) ∧ Row w a1 l (fun j => (g j : Nat)) ∧ (0 < N → Chk N l (fun j => (g j : Nat)) 0) := by
  obtain ⟨N, a0, l, c0, G, h1, h2, hd, hF⟩ := h.out.e 0 (by omega)
  obtain ⟨N', a1, l', c1, G', k1, k2, hd', hF'⟩ := h.out.e 1 (by omega)
  obtain ⟨rfl, rfl, hg⟩ := hd.one hd'
  rcases hd with ⟨_, rfl, rfl⟩ | ⟨hP, rfl, rfl, hgg⟩
  · exact ⟨0, a0, a1, 0, c0, c1, G, h1, h2, k1, k2, by omega, hF.row, fun j hj => absurd hj (Nat.not_lt_zero _), fun h => by omega⟩
  · obtain ⟨h10, hs, ho⟩ := pp_good k hk hP
    refine ⟨_, a0, a1, _, c0, c1, GG la fa lb fb set k, h1, h2, k1, k2, h10, fun j hj => ?_, fun j hj => ?_, fun _ => chk_of h10 hs ho⟩
    · obtain ⟨b, off, e, hc⟩ := hF.row j hj
      exact ⟨b, off, e, by rw [hc]; simp only [hgg j hj]⟩
    · obtain ⟨b, off, e, hc⟩ := hF'.row j hj
      exact ⟨b, off, e, by rw [hc]; simp only [← hg j hj, hgg j hj]⟩
end Go.Proofs.YtinblbkglkhjmaaDoor
