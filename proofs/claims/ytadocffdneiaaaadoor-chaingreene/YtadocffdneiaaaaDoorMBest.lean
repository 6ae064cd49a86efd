/-
  What match.best answers. Conditions: a graph of at most ten points on either side that lies in a slice of numbers.
-/
import Derived.Test.YtadocffdneiaaaaDoorRepeat
import Derived.Deep.CutRange
namespace Go.Proofs.YtadocffdneiaaaaDoor
open Go.RowKit

/-- What holds when the first k on the left were seated as far as could be. -/
structure BestI (t : Nat → Nat) (l r k : Nat) (H : Nat → Int) : Prop where
  val : Val t l r H
  inj : InjOff r 0 H
  held : ∀ u, HeldOff r 0 H u → u < k
  lost : ∀ u, u < k → HeldOff r 0 H u ∨ ∃ C, C < pw r ∧ Clo t l r H C ∧ Sub (t u) C
theorem BestI.start (t : Nat → Nat) (l r : Nat) {H : Nat → Int} (h : ∀ k, k < r → H k = -1) : BestI t l r 0 H :=
  ⟨fun k hk => .inl (h k hk), fun j _ hj _ _ _ _ hne => absurd (h j hj) hne, fun u ⟨k, hk, _, e⟩ => by rw [h k hk] at e; omega, fun u hu => absurd hu (Nat.not_lt_zero _)⟩
theorem BestI.no {t : Nat → Nat} {l r k : Nat} {H : Nat → Int} (h : BestI t l r k H) : ¬ HeldOff r 0 H k := fun hh => by have := h.held k hh; omega
theorem clo_kept {t : Nat → Nat} {l r C : Nat} {H H' : Nat → Int} (h : Clo t l r H C) (hk : ∀ k, k < r → C.testBit k = true → H' k = H k) : Clo t l r H' C := fun k hkr hC => by
  obtain ⟨u, hu, e, hs⟩ := h k hkr hC
  exact ⟨u, hu, (hk k hkr hC).trans e, hs⟩
theorem BestI.yes {t : Nat → Nat} {l r k : Nat} {H H' : Nat → Int} {T' : Nat} (h : BestI t l r k H) (R : SeatT t l r 0 H k H' T') : BestI t l r (k + 1) H' := by
  refine ⟨R.val, R.inj, fun u hu => ?_, fun u hu => ?_⟩
  · rcases (R.held u).1 hu with h1 | h1
    · have := h.held u h1; omega
    · omega
  · by_cases e : u = k
    · exact .inl ((R.held u).2 (.inr e))
    · rcases h.lost u (by omega) with h1 | ⟨C, hC, hc, hs⟩
      · exact .inl ((R.held u).2 (.inl h1))
      · exact .inr ⟨C, hC, clo_kept hc (R.clo C hc).2, hs⟩
theorem BestI.none {t : Nat → Nat} {l r k : Nat} {H : Nat → Int} {T' : Nat} (h : BestI t l r k H) (R : SeatF t l r 0 H k T') : BestI t l r (k + 1) H := by
  refine ⟨h.val, h.inj, fun u hu => by have := h.held u hu; omega, fun u hu => ?_⟩
  by_cases e : u = k
  · refine .inr ⟨T', R.lt, fun j hj hT => R.clo j hj hT (by simp), ?_⟩
    rw [e]; exact R.all
  · exact h.lost u (by omega)
/-- Of the first k on the right, who goes with u on the left. -/
def GI (l k : Nat) (H G : Nat → Int) : Prop := ∀ u : Nat, u < l → (G u = -1 ∧ ∀ j, j < k → H j ≠ u) ∨ ∃ j : Nat, j < k ∧ G u = j ∧ H j = u
theorem GI.start (l : Nat) {H G : Nat → Int} (h : ∀ u, u < l → G u = -1) : GI l 0 H G := fun u hu => .inl ⟨h u hu, fun _ hj => absurd hj (Nat.not_lt_zero _)⟩
theorem GI.skip {l k : Nat} {H G : Nat → Int} (h : GI l k H G) (hk : H k = -1) : GI l (k + 1) H G := fun u hu => by
  rcases h u hu with ⟨h1, h2⟩ | ⟨j, hj, h1, h2⟩
  · exact .inl ⟨h1, upto_succ h2 (by rw [hk]; omega)⟩
  · exact .inr ⟨j, by omega, h1, h2⟩
theorem GI.put {l k v : Nat} {H G : Nat → Int} (h : GI l k H G) (hk : H k = v) : GI l (k + 1) H (updI G v k) := fun u hu => by
  by_cases e : u = v
  · subst e; exact .inr ⟨k, by omega, updI_same _ _ _, hk⟩
  · rw [updI_other e]
    rcases h u hu with ⟨h1, h2⟩ | ⟨j, hj, h1, h2⟩
    · exact .inl ⟨h1, upto_succ h2 (by rw [hk]; omega)⟩
    · exact .inr ⟨j, by omega, h1, h2⟩
/-- What best leaves: a row of those who go with the left ones. -/
def Mates (t : Nat → Nat) (l r : Nat) (G : Nat → Int) : Prop := ∃ H, BestI t l r l H ∧ GI l r H G
/-- A row of numbers of the call's own. -/
def OwnI (w : World) (b n : Nat) (G : Nat → Int) : Prop := ∀ k, k < n → w.cell? ⟨b, k, none⟩ = some (.int .i64 (G k)) ∧ w.frozen? ⟨b, k, none⟩ = false
theorem OwnI.set {w : World} {b n : Nat} {G : Nat → Int} (h : OwnI w b n G) (u : Nat) (v : Int) : OwnI (w.setCell ⟨b, u, none⟩ (.int .i64 v)) b n (updI G u v) := by
  intro k hk
  refine ⟨?_, by rw [World.frozen?_setCell]; exact (h k hk).2⟩
  by_cases e : k = u
  · subst e; rw [updI_same]; exact World.cell?_setCell_same _ _ _ (h k hk).1
  · rw [updI_other e, World.cell?_setCell_other _ _ _ _ (fun e2 => e (by injection e2 with _ h2; exact h2.symm))]; exact (h k hk).1
theorem OwnI.row {w : World} {b n : Nat} {G : Nat → Int} (h : OwnI w b n G) : Row w (some ⟨b, 0, none⟩) n G := fun k hk => ⟨b, 0, rfl, by rw [Nat.zero_add]; exact (h k hk).1⟩
theorem ownI_of {w : World} {base b n : Nat} {z : Int} (h : w.ownsRow base 3 1 (.slice (some ⟨b, 0, none⟩) n n) n (List.replicate n (.int .i64 z))) : OwnI w b n (fun _ => z) := fun k hk =>
  ⟨by rw [h.cellAt k (by omega), List.getElem?_replicate, if_pos hk], h.frozenAt k⟩

/-- The matching's box, and who is held. -/
structure Mid (W0 wx : World) (bm bh l r : Nat) (a : Option Addr) (cap : Nat) (H : Nat → Int) : Prop where
  c0 : wx.cell? ⟨bm, 0, none⟩ = some (.int .i64 (l : Int))
  c1 : wx.cell? ⟨bm, 1, none⟩ = some (.int .i64 (r : Int))
  c2 : wx.cell? ⟨bm, 2, none⟩ = some (.slice a l cap)
  c3 : wx.cell? ⟨bm, 3, none⟩ = some (.slice (some ⟨bh, 0, none⟩) r r)
  own : OwnI wx bh r H
  n1 : bm ≠ bh
  m1 : W0.heap.size ≤ bm
  m2 : W0.heap.size ≤ bh
  m3 : bh < wx.heap.size
  m4 : bm < wx.heap.size
  bel : Below W0.heap.size W0 wx
theorem below_al {W X : World} {o : Obj} (h : Below W.heap.size W X) : Below W.heap.size W (X.alloc o) := h.alloc h.size o
theorem below_set4 {W X : World} {b : Nat} {v0 v1 v2 v3 : Value} (h : Below W.heap.size W X) (hb : W.heap.size ≤ b) : Below W.heap.size W ((((X.setCell ⟨b, 0, none⟩ v0).setCell ⟨b, 1, none⟩ v1).setCell ⟨b, 2, none⟩ v2).setCell ⟨b, 3, none⟩ v3) :=
  Below.setCell (p := ⟨b, 3, none⟩) (Below.setCell (p := ⟨b, 2, none⟩) (Below.setCell (p := ⟨b, 1, none⟩) (Below.setCell (p := ⟨b, 0, none⟩) h hb _) hb _) hb _) hb _
theorem cell_one (W : World) (z : Int) : (W.alloc (.cells #[.int .i64 z] 3)).cell? ⟨W.heap.size, 0, none⟩ = some (.int .i64 z) := by simp

theorem below_chg {B bh bt : Nat} {W0 X w5 : World} (h : Below B W0 X) (c : Chg bh bt X w5) (hB : B ≤ W0.heap.size) (h1 : B ≤ bh) (h2 : B ≤ bt) : Below B W0 w5 :=
  h.trans ⟨c.os, c.tape, c.output, c.size, fun k hk => c.block k (by have := h.size; omega) (by omega) (by omega)⟩
theorem Mid.mw {W0 wx : World} {bm bh l r : Nat} {a : Option Addr} {cap : Nat} {t : Nat → Nat} {H : Nat → Int} (h : Mid W0 wx bm bh l r a cap H) (hr : Row W0 a l (fun k => (t k : Nat))) : MW (wx.alloc (.cells #[.int .i64 0] 3)) bm bh wx.heap.size l r a cap t H 0 := by
  have hb := (Below.refl wx.heap.size wx).alloc (Nat.le_refl _) (.cells #[.int .i64 0] 3)
  have hm4 := h.m4
  have hm3 := h.m3
  refine ⟨(hb.cell (p := ⟨bm, 0, none⟩) hm4).trans h.c0, (hb.cell (p := ⟨bm, 1, none⟩) hm4).trans h.c1, (hb.cell (p := ⟨bm, 2, none⟩) hm4).trans h.c2, (hb.cell (p := ⟨bm, 3, none⟩) hm4).trans h.c3, fun k hk => ?_, fun k hk => ⟨(hb.cell (p := ⟨bh, k, none⟩) hm3).trans (h.own k hk).1, (hb.frozen (p := ⟨bh, k, none⟩) hm3).trans (h.own k hk).2⟩, by simp, by simp, h.n1, by omega, by omega⟩
  obtain ⟨b, off, e, hc⟩ := hr k hk
  have hlt : b < W0.heap.size := World.block_lt_of_cell? _ _ hc
  have hm2 := h.m2
  have hsz := h.bel.size
  refine ⟨b, off, e, by omega, by omega, ?_⟩
  have hc2 : wx.cell? ⟨b, off + k, none⟩ = some (.int .i64 (t k : Nat)) := (h.bel.cell (p := ⟨b, off + k, none⟩) hlt).trans hc
  exact (hb.cell (p := ⟨b, off + k, none⟩) (by show b < wx.heap.size; omega)).trans hc2
theorem Mid.next {W0 wx w5 : World} {bm bh l r : Nat} {a : Option Addr} {cap : Nat} {t : Nat → Nat} {H H' : Nat → Int} {T' : Nat} (h : Mid W0 wx bm bh l r a cap H) (hW : MW w5 bm bh wx.heap.size l r a cap t H' T') (hC : Chg bh wx.heap.size (wx.alloc (.cells #[.int .i64 0] 3)) w5) : Mid W0 w5 bm bh l r a cap H' :=
  ⟨hW.c0, hW.c1, hW.c2, hW.c3, hW.hold, h.n1, h.m1, h.m2, by have := hC.size; have := h.m3; simp at *; omega, by have := hC.size; have := h.m4; simp at *; omega,
   below_chg (below_al h.bel) hC (Nat.le_refl _) h.m2 h.bel.size⟩
theorem size_drew (W : World) : W.drew.heap.size = W.heap.size := rfl
theorem fresh_set {W0 w1 : World} {base b bh l r : Nat} {a : Option Addr} {cap : Nat} {v0 v1 v2 v3 : Value} (hown : w1.ownsRow base 3 1 (.slice (some ⟨bh, 0, none⟩) r r) r (List.replicate r (.int .i64 (-1))))
    (h0 : w1.cell? ⟨b, 0, none⟩ = some v0) (h1 : w1.cell? ⟨b, 1, none⟩ = some v1) (h2 : w1.cell? ⟨b, 2, none⟩ = some v2) (h3 : w1.cell? ⟨b, 3, none⟩ = some v3) (hne : b ≠ bh) (m1 : W0.heap.size ≤ b) (m2 : W0.heap.size ≤ bh) (hw : Below W0.heap.size W0 w1) :
    Mid W0 ((((w1.setCell ⟨b, 0, none⟩ (.int .i64 (l : Int))).setCell ⟨b, 1, none⟩ (.int .i64 (r : Int))).setCell ⟨b, 2, none⟩ (.slice a l cap)).setCell ⟨b, 3, none⟩ (.slice (some ⟨bh, 0, none⟩) r r)) b bh l r a cap (fun _ => -1) where
  c0 := by
    rw [World.cell?_setCell_other _ _ _ _ (by simp), World.cell?_setCell_other _ _ _ _ (by simp), World.cell?_setCell_other _ _ _ _ (by simp)]
    exact World.cell?_setCell_same _ _ _ h0
  c1 := by
    rw [World.cell?_setCell_other _ _ _ _ (by simp), World.cell?_setCell_other _ _ _ _ (by simp)]
    exact World.cell?_setCell_same _ _ _ (by rw [World.cell?_setCell_other _ _ _ _ (by simp)]; exact h1)
  c2 := by
    rw [World.cell?_setCell_other _ _ _ _ (by simp)]
    exact World.cell?_setCell_same _ _ _ (by rw [World.cell?_setCell_other _ _ _ _ (by simp), World.cell?_setCell_other _ _ _ _ (by simp)]; exact h2)
  c3 := World.cell?_setCell_same _ _ _ (by rw [World.cell?_setCell_other _ _ _ _ (by simp), World.cell?_setCell_other _ _ _ _ (by simp), World.cell?_setCell_other _ _ _ _ (by simp)]; exact h3)
  own := fun k hk => by
    have hk1 := (ownI_of hown) k hk
    have hn : bh ≠ b := fun e => hne e.symm
    refine ⟨?_, ?_⟩
    · rw [set_far _ _ _ _ _ _ hn, set_far _ _ _ _ _ _ hn, set_far _ _ _ _ _ _ hn, set_far _ _ _ _ _ _ hn]; exact hk1.1
    · rw [World.frozen?_setCell, World.frozen?_setCell, World.frozen?_setCell, World.frozen?_setCell]; exact hk1.2
  n1 := hne
  m1 := m1
  m2 := m2
  m3 := by have := (hown.lt bh rfl).2; simpa using this
  m4 := by have := World.block_lt_of_cell? _ _ h0; simpa using this
  bel := below_set4 hw m1
theorem fresh_new {W0 w1 : World} {base bh l r : Nat} {a : Option Addr} {cap : Nat} (hown : w1.ownsRow base 3 1 (.slice (some ⟨bh, 0, none⟩) r r) r (List.replicate r (.int .i64 (-1)))) (m2 : W0.heap.size ≤ bh) (hw : Below W0.heap.size W0 w1) :
    Mid W0 (w1.alloc (.cells #[.int .i64 (l : Int), .int .i64 (r : Int), .slice a l cap, .slice (some ⟨bh, 0, none⟩) r r] 59)) w1.heap.size bh l r a cap (fun _ => -1) where
  c0 := by simp
  c1 := by simp
  c2 := by simp
  c3 := by simp
  own := fun k hk => by
    have hk1 := (ownI_of hown) k hk
    have hlt := (hown.lt bh rfl).2
    have hb := (Below.refl w1.heap.size w1).alloc (Nat.le_refl _) (.cells #[.int .i64 (l : Int), .int .i64 (r : Int), .slice a l cap, .slice (some ⟨bh, 0, none⟩) r r] 59)
    exact ⟨(hb.cell (p := ⟨bh, k, none⟩) hlt).trans hk1.1, (hb.frozen (p := ⟨bh, k, none⟩) hlt).trans hk1.2⟩
  n1 := by have := (hown.lt bh rfl).2; omega
  m1 := hw.size
  m2 := m2
  m3 := by have := (hown.lt bh rfl).2; simp; omega
  m4 := by simp
  bel := below_al hw

set_option maxHeartbeats 1000000 in
theorem best_any (l r : Nat) (a : Option Addr) (cap : Nat) (t : Nat → Nat) (w : World) (hl : l ≤ 10) (hr10 : r ≤ 10) (ht : Sm r l t) (hr : Row w a l (fun k => (t k : Nat))) :
    Calls Tryd.prog 26 #[.agg #[.int .i64 (l : Int), .int .i64 (r : Int), .slice a l cap]] w fun e w' => (∃ b G, e = .returned (.slice (some ⟨b, 0, none⟩) l l) ∧ Row w' (some ⟨b, 0, none⟩) l G ∧ Mates t l r G) ∧ Below w.heap.size w w' := by
  have K0 : GHeld (w.alloc (.cells #[.int .i64 (l : Int), .int .i64 (r : Int), .slice a l cap] 43)) w.heap.size l r a l cap (fun k => (t k : Nat)) := GHeld.box hr
  have HB0 : Hid (Below w.heap.size w (w.alloc (.cells #[.int .i64 (l : Int), .int .i64 (r : Int), .slice a l cap] 43))) := (Below.refl _ _).alloc (Nat.le_refl _) _
  clear hr
  go_enter Tryd.func26, Tryd.ntmps26
  go_wp2_with fail
  obtain ⟨W0, HW0⟩ : ∃ W0, Hid (W0 = w.alloc (.cells #[.int .i64 (l : Int), .int .i64 (r : Int), .slice a l cap] 43)) := ⟨_, rfl⟩
  rw [← HW0.out] at K0 HB0 ⊢
  have l0 : ∀ w', Below W0.heap.size W0 w' → w'.cell? ⟨w.heap.size, 0, none⟩ = some (.int .i64 (l : Int)) := fun w' h => (K0.step h).c0
  have l1 : ∀ w', Below W0.heap.size W0 w' → w'.cell? ⟨w.heap.size, 1, none⟩ = some (.int .i64 (r : Int)) := fun w' h => (K0.step h).c1
  have l2 : ∀ w', Below W0.heap.size W0 w' → w'.cell? ⟨w.heap.size, 2, none⟩ = some (.slice a l cap) := fun w' h => (K0.step h).c2
  have KK : Below W0.heap.size W0 W0.drew := (Below.refl _ _).drew
  have HK : Hid (∀ w', Below W0.heap.size W0 w' → GHeld w' w.heap.size l r a l cap (fun k => (t k : Nat))) := fun w' h => K0.step h
  clear K0 HW0
  go_cut [3] from 9 to 14 (fun v3 wx => ∃ bm bh : Nat, v3 = .pointer (some ⟨bm, 0, none⟩) ∧ Hid (Mid W0 wx bm bh l r a cap (fun _ => -1)))
  case first =>
    go_region_held3 (fun w' => Below W0.heap.size W0 w')
      (first | exact KK | assumption | (refine Below.then ?_ hb1; assumption) | (refine below_set4 ?_ ?_; assumption; omega) | exact Below.drew (below_al (Below.refl _ _)) | exact Below.drew (below_al (below_al (Below.refl _ _))) | exact below_al (Below.then (Below.drew (below_al (Below.refl _ _))) hb1) | (refine below_al ?_; assumption))
      ((go_at_call 33; refine (repeat_any r (-1) _ 1 _ hr10 (by simp)).mono ?_; rintro e w1 ⟨⟨rfl, hown1⟩, hb1⟩; have qA := fun k => hb1.cell (p := ⟨W0.heap.size, k, none⟩); have qC := fun k => hb1.frozen (p := ⟨W0.heap.size, k, none⟩); have qB := fun k => hb1.cell (p := ⟨W0.heap.size + 1, k, none⟩); have qD := fun k => hb1.frozen (p := ⟨W0.heap.size + 1, k, none⟩)))
    all_goals go_wp2_with fail
    all_goals go_meet
    · have hO := hown1
      simp only [size_drew, World.size_alloc] at hO
      exact ⟨_, _, rfl, fresh_new hO (by omega) (Below.then (Below.drew (below_al (Below.refl _ _))) hb1)⟩
    · have hO := hown1
      simp only [size_drew, World.size_alloc] at hO
      exact ⟨_, _, rfl, fresh_set (v0 := .int .i64 0) (v1 := .int .i64 0) (v2 := .slice none 0 0) (v3 := .slice none 0 0) hO ((qB 0 (by simp)).trans (by simp)) ((qB 1 (by simp)).trans (by simp)) ((qB 2 (by simp)).trans (by simp)) ((qB 3 (by simp)).trans (by simp)) (by omega) (by omega) (by omega) (Below.then (Below.drew (below_al (below_al (Below.refl _ _)))) hb1)⟩
    · have hO := hown1
      simp only [size_drew, World.size_alloc] at hO
      exact ⟨_, _, rfl, fresh_set (v0 := .int .i64 0) (v1 := .int .i64 0) (v2 := .slice none 0 0) (v3 := .slice none 0 0) hO ((qA 0 (by simp; omega)).trans (by simp)) ((qA 1 (by simp; omega)).trans (by simp)) ((qA 2 (by simp; omega)).trans (by simp)) ((qA 3 (by simp; omega)).trans (by simp)) (by omega) (by omega) (by omega) (Below.then (Below.drew (below_al (below_al (Below.refl _ _)))) hb1)⟩
  case rest =>
    obtain ⟨bm, bh, rfl, HF⟩ := hcut
    have hH := HK.out _ HF.out.bel
    have c0 := hH.c0
    have HRW : Hid (Row W0 a l (fun k => (t k : Nat))) := (HK.out _ (Below.refl _ _)).row
    have HB1 : Hid (BestI t l r 0 (fun _ => -1)) := BestI.start t l r (fun _ _ => rfl)
    clear hH l0 l1 l2 KK
    go_wp2_with fail
    clear c0
    go_loopw [17] (fun x wx => ∃ (k : Nat) (H : Nat → Int), k ≤ l ∧ x = .int .i64 k ∧ Hid (Mid W0 wx bm bh l r a cap H) ∧ Hid (BestI t l r k H)) (fun x _ => l - (intOf x).toNat)
    case atStart => exact ⟨0, _, Nat.zero_le _, rfl, HF.out, HB1.out⟩
    case round =>
      clear HF HB1
      obtain ⟨k, H, hk, rfl, HM, HI⟩ := hrel
      by_cases hlt : k < l
      · have hlk : (k : Int) < (l : Int) := by omega
        go_wp2_with fail
        refine (seat_any bm bh wr.heap.size l r a cap t H hl hr10 ht HI.out.val (pw r + 1) 0 k _ (by omega) (pw_pos r) hlt HI.out.inj HI.out.no (HM.out.mw HRW.out)).mono ?_
        rintro e w5 ⟨b5, H5, T5, rfl, hW5, hC5, hT5, hF5⟩
        have HM5 : Hid (Mid W0 w5 bm bh l r a cap H5) := HM.out.next hW5 hC5
        have HI5 : Hid (BestI t l r (k + 1) H5) := by
          cases b5
          · obtain ⟨rfl, hF⟩ := hF5 rfl
            exact HI.out.none hF
          · exact HI.out.yes (hT5 rfl)
        clear hW5 hC5 hT5 hF5 HM HI
        go_wp2_with fail
        go_roundw
        case rel => exact ⟨k + 1, H5, by omega, by go_num, HM5.out, HI5.out⟩
        case measure => simp [intOf]; omega
      · have hkn : k = l := by omega
        have HIL : Hid (BestI t l r l H) := by have h := HI.out; rw [hkn] at h; exact h
        have hH := HK.out _ HM.out.bel
        have c0 := (HK.out _ (below_al (o := .cells #[.int .i64 (-1)] 3) HM.out.bel)).c0
        clear HI hkn hH
        go_wp2_with fail
        refine (repeat_any l (-1) _ 1 _ hl (by simp)).mono ?_
        rintro e w6 ⟨⟨rfl, hown6⟩, hb6⟩
        simp only [World.size_alloc] at hown6 ⊢
        have HO6 : Hid (OwnI w6 (wr.heap.size + 1) l (fun _ => -1)) := ownI_of hown6
        have HB6 : Hid (Below wr.heap.size wr w6) := Below.then (below_al (Below.refl _ _)) hb6
        have HG6 : Hid (GI l 0 H (fun _ => -1)) := GI.start l (fun _ _ => rfl)
        have j1 := (HK.out _ (Below.then HM.out.bel HB6.out)).c1
        clear hown6 hb6 c0
        go_wp2_with fail
        clear j1
        go_loopw [29] (fun x wx => ∃ (q : Nat) (G : Nat → Int), q ≤ r ∧ x = .int .i64 q ∧ Hid (OwnI wx (wr.heap.size + 1) l G) ∧ Hid (GI l q H G) ∧ Hid (Below wr.heap.size wr wx)) (fun x _ => r - (intOf x).toNat)
        case atStart => exact ⟨0, _, Nat.zero_le _, rfl, HO6.out, HG6.out, HB6.out⟩
        case round =>
          clear HO6 HG6 HB6
          obtain ⟨q, G, hq, rfl, hO, hG, hB⟩ := hrel
          by_cases hqr : q < r
          · have hlq : (q : Int) < (r : Int) := by omega
            have c3 := (hB.out.cell (p := ⟨bm, 3, none⟩) HM.out.m4).trans HM.out.c3
            have g4 := (hB.out.cell (p := ⟨bh, q, none⟩) HM.out.m3).trans (HM.out.own q hqr).1
            rcases HIL.out.val q hqr with hf | ⟨u, hul, hu, _⟩
            · have hz : (H q != -1) = false := by rw [hf]; rfl
              have HG1 : Hid (GI l (q + 1) H G) := hG.out.skip hf
              clear hf
              go_wp2_with fail
              go_roundw
              case rel => exact ⟨q + 1, G, by omega, by go_num, hO.out, HG1.out, hB.out⟩
              case measure => simp [intOf]; omega
            · have hz : (((u : Nat) : Int) != -1) = true := by simp
              have HG1 : Hid (GI l (q + 1) H (updI G u q)) := hG.out.put hu
              rw [hu] at g4
              have hlu : (u : Int) < (l : Int) := by omega
              have k4 := (hO.out u hul).1
              have k5 := (hO.out u hul).2
              clear hu
              go_wp2_with fail
              go_roundw
              case rel => exact ⟨q + 1, updI G u q, by omega, by go_num, hO.out.set u q, HG1.out, Below.setCell hB.out (Nat.le_succ _) _⟩
              case measure => simp [intOf]; omega
          · have hqn : q = r := by omega
            have HG1 : Hid (GI l r H G) := by have h := hG.out; rw [hqn] at h; exact h
            clear hG hqn
            go_wp2_with fail
            go_ret
            exact ⟨⟨_, G, rfl, hO.out.row, H, HIL.out, HG1.out⟩, Below.then HB0.out (Below.then HM.out.bel hB.out)⟩
end Go.Proofs.YtadocffdneiaaaaDoor
