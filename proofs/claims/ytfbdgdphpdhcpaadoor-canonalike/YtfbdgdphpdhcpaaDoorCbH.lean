/-
  What the reference's Before and FormOf answer: the least order by all lists, and the first list by which it is that. Conditions: an order of at most six points.
  What canon.Form answers, list and all; hasselaw.given, formed. Conditions: a slice reads as a slice of numbers; the library's table.
  What is left of a region, as a piece; the call of canonBegun at an operation of a region. Conditions: as told.
  What stays where all blocks stay. No condition.
-/
import Derived.Test.YtfbdgdphpdhcpaaDoorRfP
import Derived.Test.YtfbdgdphpdhcpaaDoorGqD
namespace Go.Proofs.YtfbdgdphpdhcpaaDoor
open Go.RowKit Go.Shelf
set_option maxRecDepth 100000

theorem cmpI_lt {x y : Nat} (h : x ≠ y) : (cmpI x y < 0) ↔ x < y := by
  unfold cmpI
  rcases Nat.lt_or_ge x y with h1 | h1
  · simp [h1]
  · simp [show ¬ x < y by omega, show y < x by omega]
set_option maxHeartbeats 1000000 in
theorem before_any (q : Nat) (a b : Option Addr) (ca cb : Nat) (f g : Nat → Nat) (w : World) (h40 : q ≤ 40) (ha : Row w a q (fun k => (f k : Nat))) (hb : Row w b q (fun k => (g k : Nat))) :
    Calls Tryd.prog 24 #[.slice a q ca, .slice b q cb] w fun e w' => e = .returned (.bool (decide (cmpF f g q 0 < 0))) ∧ Below w.heap.size w w' := by
  have HA : Hid (Row w a q (fun k => (f k : Nat))) := ha
  have HB : Hid (Row w b q (fun k => (g k : Nat))) := hb
  clear ha hb
  go_enter Tryd.func24, Tryd.ntmps24
  go_wp2_with fail
  go_loopw [5] (fun t wx => ∃ k : Nat, k ≤ q ∧ t = .int .i64 k ∧ Hid (cmpF f g q 0 = cmpF f g (q - k) k) ∧ Hid (Below w.heap.size w wx)) (fun t _ => q - (intOf t).toNat)
  case atStart => exact ⟨0, Nat.zero_le _, rfl, rfl, Below.refl _ _⟩
  case round =>
    obtain ⟨k, hk, rfl, HE, HW⟩ := hrel
    by_cases hlt : k < q
    · have hlt' : (k : Int) < (q : Int) := by omega
      obtain ⟨ba, oa, rfl, e1'⟩ := (HA.out.below HW.out).at hlt
      obtain ⟨bb, ob, rfl, e2'⟩ := (HB.out.below HW.out).at hlt
      have e1 : wr.cell? ⟨ba, oa + k, none⟩ = some (.int .i64 (f k : Nat)) := e1' k hlt
      have e2 : wr.cell? ⟨bb, ob + k, none⟩ = some (.int .i64 (g k : Nat)) := e2' k hlt
      clear e1' e2'
      have HS : Hid (cmpF f g (q - k) k = if f k = g k then cmpF f g (q - (k + 1)) (k + 1) else cmpI (f k) (g k)) := by
        rw [show q - k = (q - (k + 1)) + 1 by omega]; rfl
      generalize hx : f k = x at e1
      generalize hy : g k = y at e2
      rw [hx, hy] at HS
      by_cases e : x = y
      · have hne : ((x : Int) != (y : Int)) = false := by simp; omega
        have HS2 : Hid (cmpF f g q 0 = cmpF f g (q - (k + 1)) (k + 1)) := HE.out.trans (HS.out.trans (if_pos e))
        clear HS HE hx hy e
        go_wp2
        go_quiet (fail)
        go_wp2
        go_roundw
        case rel => exact ⟨k + 1, by omega, by go_num, HS2.out, below_drewN HW.out _⟩
        case measure => simp [intOf]; omega
      · have hne : ((x : Int) != (y : Int)) = true := by simp; omega
        have HS2 : Hid (decide (cmpF f g q 0 < 0) = decide (x < y)) := by
          have h1 : cmpF f g q 0 = cmpI x y := HE.out.trans (HS.out.trans (if_neg e))
          rw [Hid, h1, decide_eq_decide, cmpI_lt e]
        clear HS HE hx hy e
        go_wp2
        go_quiet (fail)
        go_wp2
        go_quiet (fail)
        go_wp2
        go_ret
        exact ⟨by rw [HS2.out]; rfl, below_drewN (below_drewN HW.out _) _⟩
    · obtain rfl : k = q := by omega
      have hno : ¬ ((k : Int) < (k : Int)) := by omega
      have HF : Hid (cmpF f g k 0 = 0) := by rw [Hid, HE.out, Nat.sub_self]; rfl
      go_wp2_with fail
      go_ret
      exact ⟨by rw [HF.out]; simp, HW.out⟩
theorem field_b (A B : Value) (w : World) : Sem.run Tryd.prog (Instr.field 24 (.agg #[A, B]) 1) w = .ok B w := by simp [go_sem, Instr.field, asAgg]
attribute [local go_sem] field_b
theorem p4_step {w w1 w2 : World} {p0 p1 p2 p3 : Addr} {u0 u1 u2 u3 : Value} (h : w1.cell? p0 = some u0 ∧ w1.cell? p1 = some u1 ∧ w1.cell? p2 = some u2 ∧ w1.cell? p3 = some u3 ∧ Below w.heap.size w w1) (hb : Below w1.heap.size w1 w2) :
    w2.cell? p0 = some u0 ∧ w2.cell? p1 = some u1 ∧ w2.cell? p2 = some u2 ∧ w2.cell? p3 = some u3 ∧ Below w.heap.size w w2 :=
  ⟨cell_stp hb h.1, cell_stp hb h.2.1, cell_stp hb h.2.2.1, cell_stp hb h.2.2.2.1, Below.then h.2.2.2.2 hb⟩
theorem p4_below {w w1 : World} {p0 p1 p2 p3 : Addr} {u0 u1 u2 u3 : Value} (h : w1.cell? p0 = some u0 ∧ w1.cell? p1 = some u1 ∧ w1.cell? p2 = some u2 ∧ w1.cell? p3 = some u3 ∧ Below w.heap.size w w1) : Below w.heap.size w w1 := h.2.2.2.2
theorem p4_set {w w1 : World} {p2 p3 : Addr} {u0 u1 u2 u3 s t : Value} (h : w1.cell? ⟨w.heap.size, 0, none⟩ = some u0 ∧ w1.cell? ⟨w.heap.size, 1, none⟩ = some u1 ∧ w1.cell? p2 = some u2 ∧ w1.cell? p3 = some u3 ∧ Below w.heap.size w w1) (h2 : p2.block ≠ w.heap.size + 1) (h3 : p3.block ≠ w.heap.size + 1) :
    ((w1.setCell ⟨w.heap.size + 1, 0, none⟩ s).setCell ⟨w.heap.size + 1, 1, none⟩ t).cell? ⟨w.heap.size, 0, none⟩ = some u0 ∧ ((w1.setCell ⟨w.heap.size + 1, 0, none⟩ s).setCell ⟨w.heap.size + 1, 1, none⟩ t).cell? ⟨w.heap.size, 1, none⟩ = some u1 ∧ ((w1.setCell ⟨w.heap.size + 1, 0, none⟩ s).setCell ⟨w.heap.size + 1, 1, none⟩ t).cell? p2 = some u2 ∧ ((w1.setCell ⟨w.heap.size + 1, 0, none⟩ s).setCell ⟨w.heap.size + 1, 1, none⟩ t).cell? p3 = some u3 ∧ Below w.heap.size w ((w1.setCell ⟨w.heap.size + 1, 0, none⟩ s).setCell ⟨w.heap.size + 1, 1, none⟩ t) := by
  refine ⟨?_, ?_, ?_, ?_, set2B h.2.2.2.2 (by omega)⟩
  · rw [World.cell?_setCell_other _ _ _ _ (fun e => by injection e with e1; omega), World.cell?_setCell_other _ _ _ _ (fun e => by injection e with e1; omega)]; exact h.1
  · rw [World.cell?_setCell_other _ _ _ _ (fun e => by injection e with e1; omega), World.cell?_setCell_other _ _ _ _ (fun e => by injection e with e1; omega)]; exact h.2.1
  · rw [World.cell?_setCell_other _ _ _ _ (fun e => h2 (by rw [← e])), World.cell?_setCell_other _ _ _ _ (fun e => h2 (by rw [← e]))]; exact h.2.2.1
  · rw [World.cell?_setCell_other _ _ _ _ (fun e => h3 (by rw [← e])), World.cell?_setCell_other _ _ _ _ (fun e => h3 (by rw [← e]))]; exact h.2.2.2.1
theorem owns_set2 {X : World} {B base : Nat} {v : Value} {n : Nat} {xs : List Value} {s t : Value} (h : X.ownsRow base 3 1 v n xs) (hb : B < base) : ((X.setCell ⟨B, 0, none⟩ s).setCell ⟨B, 1, none⟩ t).ownsRow base 3 1 v n xs :=
  ownsRow_setCell_below (a := ⟨B, 1, none⟩) (ownsRow_setCell_below (a := ⟨B, 0, none⟩) h hb _) hb _
/-- The step that the loop takes. -/
theorem bst_next {g : Nat → Nat} {n : Nat} {l : List (List Nat)} {i b : Nat} {x y : List Nat} (hb : bst g n (l.take i) = l[b]?) (hx : l[i]? = some x) (hy : l[b]? = some y) :
    bst g n (l.take (i + 1)) = if cmpF (prt g x) (prt g y) n 0 < 0 then l[i]? else l[b]? := by
  rw [List.take_add_one, hx, Option.toList_some, bst_snoc, hb, hy]
  rfl
/-- What FormOf hands back. -/
def FofPost (B : Nat) (n : Nat) (g : Nat → Nat) (e : Ending) (w' : World) : Prop :=
  ∃ x a c v, bst g n (per n [] (pw n - 1)) = some x ∧ e = .returned (.tuple #[.agg #[.int .i64 (n : Nat), .slice a n c], v]) ∧ Row w' a n (fun k => (prt g x k : Nat)) ∧ w'.ownsRow B 3 1 v x.length (natVals x) ∧ Fresh B a n
set_option maxHeartbeats 4000000 in
theorem fofR_any (n : Nat) (a : Option Addr) (cap : Nat) (g : Nat → Nat) (w : World) (hn : n ≤ 6) (hg : ∀ k, k < n → g k < 1024) (hr : Row w a n (fun k => (g k : Nat))) :
    Calls Tryd.prog 11 #[.agg #[.int .i64 (n : Nat), .slice a n cap]] w fun e w' => FofPost w.heap.size n g e w' ∧ Below w.heap.size w w' := by
  obtain ⟨W, HWE⟩ : ∃ W, Hid (W = (w.alloc (.cells #[.int .i64 (n : Nat), .slice a n cap] 24)).alloc (.cells #[.int .i64 0, .slice none 0 0] 24)) := ⟨_, rfl⟩
  have HB : Hid (Below w.heap.size w W) := by rw [HWE.out]; exact ((Below.refl _ _).alloc (Nat.le_refl _) _).alloc (by simp) _
  have HX : Hid (∀ w', Below W.heap.size W w' → w'.cell? ⟨w.heap.size, 0, none⟩ = some (.int .i64 (n : Nat)) ∧ w'.cell? ⟨w.heap.size, 1, none⟩ = some (.slice a n cap)) := fun w' h =>
    ⟨cell_stp h (by rw [HWE.out]; exact cell_al (by simp)), cell_stp h (by rw [HWE.out]; exact cell_al (by simp))⟩
  have HZ : Hid (∀ w', Below W.heap.size W w' → ZBox w' (w.heap.size + 1)) := fun w' h => by
    refine ZBox.step ?_ h
    rw [HWE.out]
    have := ZBox.new (w.alloc (.cells #[.int .i64 (n : Nat), .slice a n cap] 24))
    rw [World.size_alloc] at this
    exact this
  have hsw : W.heap.size = w.heap.size + 2 := by rw [HWE.out]; simp
  have HSW : Hid (W.heap.size = w.heap.size + 2) := hsw
  have HR : Hid (Row w a n (fun k => (g k : Nat))) := hr
  have HG : Hid (∀ k, k < n → g k < 1024) := hg
  obtain ⟨P, HP⟩ : ∃ P, Hid (P = per n [] (pw n - 1)) := ⟨_, rfl⟩
  have HNE : Hid (P ≠ []) := by rw [HP.out]; exact per_ne n [] _ (pc_all (by omega)).1 (pc_all (by omega)).2
  have HGD : Hid (∀ y, y ∈ P → y.length = n ∧ (∀ k, k < n → nth y k < n)) := fun y hy => by
    rw [HP.out] at hy
    have := per_good (by omega) hy
    exact ⟨this.1, this.2.1⟩
  have HPB := per_bound hn
  rw [← HP.out] at HPB
  obtain ⟨z0, z1⟩ := HX.out W (Below.refl _ _)
  clear hr hg hsw
  go_enter Tryd.func11, Tryd.ntmps11
  go_wp2_with (rw [← HWE.out])
  refine (perms_any n W hn).mono ?_
  rintro e w1 ⟨⟨z, rfl, hz⟩, hb1⟩
  rw [← HP.out] at hz
  have HM : Hid (MLst w1 W.heap.size z P) := hz
  have HB1 : Hid (Below W.heap.size W w1) := hb1
  obtain ⟨az, cz, rfl, hrd⟩ := hz.rd
  have HRD : Hid (LRd w1 az P) := hrd
  have HPL : Hid (0 < P.length) := List.length_pos_iff.2 HNE.out
  clear hb1 hz hrd z0 z1
  go_wp2_with fail
  go_loopw [5, 6] (fun t s wx => ∃ b i : Nat, t = .int .i64 b ∧ s = .int .i64 i ∧ b < i ∧ i ≤ P.length ∧ Hid (bst g n (P.take i) = P[b]?) ∧ Hid (Below w1.heap.size w1 wx)) (fun _ s _ => P.length - (intOf s).toNat)
  case atStart => exact ⟨0, 1, rfl, rfl, by omega, HPL.out, by
    have h := HPL.out
    obtain ⟨y, l, rfl⟩ := List.exists_cons_of_length_pos h
    show bst g n (List.take 1 (y :: l)) = (y :: l)[0]?
    simp [bst, bstS], Below.refl _ _⟩
  case round =>
    obtain ⟨b, i, rfl, rfl, hbi, hi, HI, HW⟩ := hrel
    by_cases hil : i < P.length
    · have hil' : (i : Int) < (P.length : Int) := by omega
      have hbl : (b : Int) < (P.length : Int) := by omega
      obtain ⟨x, hx⟩ : ∃ x, P[i]? = some x := ⟨_, List.getElem?_eq_getElem hil⟩
      obtain ⟨y, hy⟩ : ∃ y, P[b]? = some y := ⟨_, List.getElem?_eq_getElem (by omega)⟩
      obtain ⟨gx, vx, e1, cx, sx⟩ := HRD.out.below HW.out i x hx
      obtain ⟨gy, vy, e2, cy, sy⟩ := HRD.out.below HW.out b y hy
      subst e1
      cases e2
      have HNXT := (show Hid _ from bst_next HI.out hx hy)
      obtain ⟨hxl, hxn⟩ := HGD.out x (List.mem_of_getElem? hx)
      obtain ⟨hyl, hyn⟩ := HGD.out y (List.mem_of_getElem? hy)
      obtain ⟨ax, cpx, evx, hrx⟩ := sx.row
      obtain ⟨ay, cpy, evy, hry⟩ := sy.row
      have HBW : Hid (Below W.heap.size W wr) := Below.then HB1.out HW.out
      have HRX : Hid (∀ w', Below wr.heap.size wr w' → Calls Tryd.prog 28 #[.agg #[.int .i64 (n : Nat), .slice a n cap], vx] w' fun e w2 => OrderPost w' n (prt g x) e w2 ∧ Below w'.heap.size w' w2) := fun w' hb => by
        rw [evx, hxl]
        exact rnR_any n a cap g ax cpx x w' (by omega) HG.out hxl hxn (HR.out.below (Below.then (Below.then HB.out HBW.out) hb)) (by rw [hxl] at hrx; exact hrx.below hb)
      have HRY : Hid (∀ w', Below wr.heap.size wr w' → Calls Tryd.prog 28 #[.agg #[.int .i64 (n : Nat), .slice a n cap], vy] w' fun e w2 => OrderPost w' n (prt g y) e w2 ∧ Below w'.heap.size w' w2) := fun w' hb => by
        rw [evy, hyl]
        exact rnR_any n a cap g ay cpy y w' (by omega) HG.out hyl hyn (HR.out.below (Below.then (Below.then HB.out HBW.out) hb)) (by rw [hyl] at hry; exact hry.below hb)
      have hX := HX.out wr HBW.out
      have KK : wr.drew.cell? ⟨w.heap.size, 0, none⟩ = some (.int .i64 (n : Nat)) ∧ wr.drew.cell? ⟨w.heap.size, 1, none⟩ = some (.slice a n cap) ∧ wr.drew.cell? ⟨gx, i, none⟩ = some vx ∧ wr.drew.cell? ⟨gx, b, none⟩ = some vy ∧ Below wr.heap.size wr wr.drew := ⟨hX.1, hX.2, cx, cy, (Below.refl _ _).drew⟩
      have HWB : Hid (∀ w', Below wr.heap.size wr w' → Below w1.heap.size w1 w') := fun w' hb => Below.then HW.out hb
      clear hX cx cy sx sy evx evy hrx hry hx hy hxn hyn
      obtain ⟨q, HQ⟩ : ∃ q : Bool, Hid (q = decide (cmpF (prt g x) (prt g y) n 0 < 0)) := ⟨_, rfl⟩
      go_wp2_with fail
      go_region_held3 (fun w' => w'.cell? ⟨w.heap.size, 0, none⟩ = some (.int .i64 (n : Nat)) ∧ w'.cell? ⟨w.heap.size, 1, none⟩ = some (.slice a n cap) ∧ w'.cell? ⟨gx, i, none⟩ = some vx ∧ w'.cell? ⟨gx, b, none⟩ = some vy ∧ Below wr.heap.size wr w')
        (first | exact KK | assumption | exact p4_step (by assumption) (by assumption))
        (first
          | (go_at_call 28; refine (HRX.out _ (p4_below (by assumption))).mono ?_; rintro e w2 ⟨⟨ar1, cr1, rfl, hrow1, _⟩, hb2⟩)
          | (go_at_call 28; refine (HRY.out _ (p4_below (by assumption))).mono ?_; rintro e w3 ⟨⟨ar2, cr2, rfl, hrow2, _⟩, hb3⟩)
          | (go_at_call 24; refine (before_any n _ _ _ _ _ _ _ (by omega) (hrow1.below hb3) hrow2).mono ?_; rintro e w4 ⟨rfl, hb4⟩; rw [← HQ.out]))
      all_goals (
        rcases (Bool.eq_false_or_eq_true q).symm with hq | hq
        · subst hq
          have HN2 : Hid (bst g n (P.take (i + 1)) = P[b]?) := by
            have h := HNXT.out
            rw [if_neg (of_decide_eq_false HQ.out.symm)] at h
            exact h
          have HW2 := (show Hid _ from HWB.out _ (p4_below (by assumption)))
          go_wp2
          go_roundw
          case rel => exact ⟨b, i + 1, rfl, by go_num, by omega, by omega, HN2.out, HW2.out⟩
          case measure => simp [intOf]; omega
        · subst hq
          have HN2 : Hid (bst g n (P.take (i + 1)) = P[i]?) := by
            have h := HNXT.out
            rw [if_pos (of_decide_eq_true HQ.out.symm)] at h
            exact h
          have HW2 := (show Hid _ from HWB.out _ (p4_below (by assumption)))
          go_wp2
          go_roundw
          case rel => exact ⟨i, i + 1, rfl, by go_num, by omega, by omega, HN2.out, HW2.out⟩
          case measure => simp [intOf]; omega)
    · obtain rfl : i = P.length := by omega
      have hbl : (b : Int) < (P.length : Int) := by omega
      obtain ⟨y, hy⟩ : ∃ y, P[b]? = some y := ⟨_, List.getElem?_eq_getElem (by omega)⟩
      have HBY : Hid (bst g n P = some y) := by
        have h := HI.out
        rw [List.take_length] at h
        exact h.trans hy
      obtain ⟨vs, ho, hv⟩ := HM.out.below HW.out
      obtain ⟨vy, qy, oy⟩ := hv b y hy
      obtain ⟨gy, vy', e2, cy, sy⟩ := HRD.out.below HW.out b y hy
      subst e2
      have hgy : W.heap.size ≤ gy := owns_block ho gy rfl
      have cy2 : wr.cell? ⟨gy, b, none⟩ = some vy := by
        rw [ho.cellAt b (by have := ho.1; have := (List.getElem?_eq_some_iff.1 hy).1; omega)]; exact qy
      obtain rfl : vy' = vy := Option.some.inj (cy.symm.trans cy2)
      obtain ⟨hyl, hyn⟩ := HGD.out y (List.mem_of_getElem? hy)
      obtain ⟨ay, cpy, evy, hry⟩ := sy.row
      have HBW : Hid (Below W.heap.size W wr) := Below.then HB1.out HW.out
      have HRY : Hid (∀ w', Below wr.heap.size wr w' → Calls Tryd.prog 28 #[.agg #[.int .i64 (n : Nat), .slice a n cap], vy'] w' fun e w2 => OrderPost w' n (prt g y) e w2 ∧ Below w'.heap.size w' w2) := fun w' hb => by
        rw [evy, hyl]
        exact rnR_any n a cap g ay cpy y w' (by omega) HG.out hyl hyn (HR.out.below (Below.then (Below.then HB.out HBW.out) hb)) (by rw [hyl] at hry; exact hry.below hb)
      have HOY : Hid (wr.ownsRow W.heap.size 3 1 vy' y.length (natVals y)) := oy
      have hX := HX.out wr HBW.out
      have hgne : gy ≠ w.heap.size + 1 := by have := HSW.out; omega
      have KK : wr.drew.cell? ⟨w.heap.size, 0, none⟩ = some (.int .i64 (n : Nat)) ∧ wr.drew.cell? ⟨w.heap.size, 1, none⟩ = some (.slice a n cap) ∧ wr.drew.cell? ⟨gy, b, none⟩ = some vy' ∧ wr.drew.cell? ⟨gy, b, none⟩ = some vy' ∧ Below w.heap.size w wr.drew := ⟨hX.1, hX.2, cy, cy, (Below.then HB.out HBW.out).drew⟩
      clear hX cy cy2 sy evy hry hy hyn qy hv ho oy
      go_wp2_with fail
      go_region_held3 (fun w' => w'.cell? ⟨w.heap.size, 0, none⟩ = some (.int .i64 (n : Nat)) ∧ w'.cell? ⟨w.heap.size, 1, none⟩ = some (.slice a n cap) ∧ w'.cell? ⟨gy, b, none⟩ = some vy' ∧ w'.cell? ⟨gy, b, none⟩ = some vy' ∧ Below w.heap.size w w')
        (first | exact KK | assumption | exact p4_step (by assumption) (by assumption) | exact p4_set (by assumption) hgne hgne)
        (first
          | (go_at_call 28; refine (HRY.out _ (Below.refl _ _).drew).mono ?_; rintro e w2 ⟨⟨ar1, cr1, rfl, hrow1, hfr1⟩, hb2⟩; obtain ⟨r0, r1, r2, r3⟩ := HZ.out _ (Below.then HBW.out (Below.then ((Below.refl _ _).drew) hb2))))
      all_goals go_wp2
      all_goals (
        have hs1 := HSW.out
        have hwz := HBW.out.size
        refine bodyPost_ret (v := .tuple #[.agg #[.int .i64 (n : Int), .slice ar1 n cr1], vy']) (by simp [results, Tryd.results11, go_sem, r0, r1]) rfl ⟨⟨y, ar1, cr1, vy', by rw [← HP.out]; exact HBY.out, rfl, row_set2 hrow1 (hfr1.mono (by show _ ≤ wr.heap.size; omega)), ?_, hfr1.mono (by show _ ≤ wr.heap.size; omega)⟩, set2B (Below.then (Below.then HB.out HBW.out) (Below.then ((Below.refl _ _).drew) hb2)) (by omega)⟩
        exact owns_mono (owns_set2 (owns_below HOY.out (Below.then ((Below.refl _ _).drew) hb2)) (by omega)) (by omega))
end Go.Proofs.YtfbdgdphpdhcpaaDoor
namespace Go.Proofs.YtfbdgdphpdhcpaaDoor
open Go.RowKit Go.Shelf
set_option maxRecDepth 100000

/-- What Form answers; the order's row is new and may be written. -/
def FormPost2 (K : Nat) (n : Int) (len : Nat) (f : Nat → Int) (e : Ending) (w' : World) : Prop :=
  ∃ c, FCk n len f c ∧ ((c ≠ 0 ∧ e = .returned (.tuple #[noOrder, .slice none 0 0, .int .i64 c])) ∨
    (c = 0 ∧ ∃ x bl bv, bst (nat f) len (per len [] (pw len - 1)) = some x ∧ e = .returned (.tuple #[.agg #[.int .i64 (len : Nat), .slice (some ⟨bl, 0, none⟩) len len], bv, .int .i64 0]) ∧ Own w' bl len (prt (nat f) x) ∧ K ≤ bl ∧ bl < w'.heap.size ∧ w'.ownsRow K 3 1 bv x.length (natVals x)))
set_option maxHeartbeats 2000000 in
theorem form2_any (n : Int) (a : Option Addr) (len cap : Nat) (f : Nat → Int) (w : World) (hl : len ≤ maxLen) (hr : Row w a len f) (hT : Tab w) :
    Calls Tryd.prog 9 #[.agg #[.int .i64 n, .slice a len cap]] w fun e w' => FormPost2 w.heap.size n len f e w' ∧ Below w.heap.size w w' := by
  have HR : Hid (Row w a len f) := hr
  have HT : Hid (Tab w) := hT
  obtain ⟨X1, hX1⟩ : ∃ X1, X1 = w.alloc (.cells #[.int .i64 n, .slice a len cap] 24) := ⟨_, rfl⟩
  obtain ⟨X2, hX2⟩ : ∃ X2, X2 = X1.alloc (.cells #[.int .i64 0, .slice none 0 0] 24) := ⟨_, rfl⟩
  obtain ⟨X3, HX3⟩ : ∃ X3, Hid (X3 = X2.alloc (.cells #[.int .i64 n, .slice a len cap] 24)) := ⟨_, rfl⟩
  have s1 : X1.heap.size = w.heap.size + 1 := by rw [hX1]; simp
  have s2 : X2.heap.size = w.heap.size + 2 := by rw [hX2]; simp [s1]
  have b1 : Below w.heap.size w X1 := by rw [hX1]; exact (Below.refl _ _).alloc (Nat.le_refl _) _
  have b2 : Below X1.heap.size X1 X2 := by rw [hX2]; exact (Below.refl _ _).alloc (Nat.le_refl _) _
  have b3 : Below X2.heap.size X2 X3 := by rw [HX3.out]; exact (Below.refl _ _).alloc (Nat.le_refl _) _
  have hH : Held X3 w.heap.size n a len cap f := by
    have h : Held X1 w.heap.size n a len cap f := by rw [hX1]; exact Held.box hr
    exact (h.step b2).step b3
  have hZ : ZBox X3 (w.heap.size + 1) := by
    have h : ZBox X2 (w.heap.size + 1) := by rw [hX2, ← s1]; exact ZBox.new X1
    exact h.step b3
  have e0 : X3.cell? ⟨w.heap.size + 2, 0, none⟩ = some (.int .i64 n) := by rw [HX3.out, ← s2]; simp
  have e1 : X3.cell? ⟨w.heap.size + 2, 1, none⟩ = some (.slice a len cap) := by rw [HX3.out, ← s2]; simp
  have HB3 : Hid (Below w.heap.size w X3) := Below.then b1 (Below.then b2 b3)
  have HX2 : Hid (X2 = (w.alloc (.cells #[.int .i64 n, .slice a len cap] 24)).alloc (.cells #[.int .i64 0, .slice none 0 0] 24)) := by show _ = _; rw [hX2, hX1]
  have x0 : X2.cell? ⟨w.heap.size, 0, none⟩ = some (.int .i64 n) := by rw [hX2]; exact cellS ((Below.refl _ _).alloc (Nat.le_refl _) _) (by rw [hX1]; exact (Held.box hr).c0)
  have x1 : X2.cell? ⟨w.heap.size, 1, none⟩ = some (.slice a len cap) := by rw [hX2]; exact cellS ((Below.refl _ _).alloc (Nat.le_refl _) _) (by rw [hX1]; exact (Held.box hr).c1)
  have HS2 : Hid (X2.heap.size = w.heap.size + 2) := s2
  clear hX1 hX2 s1 s2 b1 b2 b3 hr hT
  go_enter Tryd.func9, Tryd.ntmps9
  go_wp2_with fail
  rw [← HX2.out]
  go_wp2_with fail
  rw [← HX3.out]
  have HH3 : Hid (∀ w', Below X3.heap.size X3 w' → Held w' w.heap.size n a len cap f ∧ ZBox w' (w.heap.size + 1)) := fun w' hb => ⟨hH.step hb, hZ.step hb⟩
  have HE : Hid (X3.cell? ⟨w.heap.size + 2, 0, none⟩ = some (.int .i64 n) ∧ X3.cell? ⟨w.heap.size + 2, 1, none⟩ = some (.slice a len cap)) := ⟨e0, e1⟩
  clear hH hZ e0 e1 x0 x1 HX2
  try rw [HS2.out]
  refine (check1_any n a len cap f (w.heap.size + 2) _ hl (HR.out.below HB3.out) HE.out.1 HE.out.2).mono ?_
  rintro e w1 ⟨⟨c, rfl, hc⟩, hb1⟩
  have HB1 : Hid (Below w.heap.size w w1) := Below.then HB3.out hb1
  have HC : Hid (FCk n len f c) := hc
  obtain ⟨hH1, hZ1⟩ := HH3.out _ hb1
  have HHZ : Hid (∀ w', Below w1.heap.size w1 w' → Held w' w.heap.size n a len cap f ∧ ZBox w' (w.heap.size + 1)) := fun w' hb => ⟨hH1.step hb, hZ1.step hb⟩
  clear hb1 hc HE HH3
  have c0 := hH1.c0
  have c1 := hH1.c1
  by_cases e0 : c = 0
  · subst e0
    obtain ⟨rfl, h6, hck⟩ := HC.out.good
    obtain ⟨_, h10, hrng, hord⟩ := hck.good
    have HG : Hid (∀ k, k < len → nat f k < 1024) := hrng.small2 h10
    have HRW : Hid (Row w1 a len (fun k => (nat f k : Nat))) := hrng.row hH1.row
    clear hck hrng hord hH1 hZ1
    go_wp2_with fail
    refine (formOf_any len a cap (nat f) _ h10 HG.out HRW.out (HT.out.step HB1.out)).mono ?_
    rintro e w2 ⟨⟨x, bl, bv, hx, rfl, hO, hbl1, ⟨hbl2, _⟩, hbv⟩, hb2⟩
    have hxl : x.length = len := (per_good h10 (bst_mem hx)).1
    obtain ⟨va, vn, vc, rfl⟩ : ∃ va vn vc, bv = .slice va vn vc := by
      rcases hbv.2 with ⟨q0, _⟩ | ⟨q, cap', cur, q1, _⟩
      · exact ⟨_, _, _, q0⟩
      · exact ⟨_, _, _, q1⟩
    obtain ⟨w3, HW3⟩ : ∃ w3, Hid (w3 = w2.alloc (.cells #[.int .i64 (len : Nat), .slice (some ⟨bl, 0, none⟩) len len] 24)) := ⟨_, rfl⟩
    have hb3 : Below w2.heap.size w2 w3 := by rw [HW3.out]; exact (Below.refl _ _).alloc (Nat.le_refl _) _
    have g0 : w3.cell? ⟨w2.heap.size, 0, none⟩ = some (.int .i64 (len : Nat)) := by rw [HW3.out]; simp
    have g1 : w3.cell? ⟨w2.heap.size, 1, none⟩ = some (.slice (some ⟨bl, 0, none⟩) len len) := by rw [HW3.out]; simp
    obtain ⟨_, hZ3⟩ := HHZ.out _ (Below.then hb2 hb3)
    have HZ3 : Hid (ZBox w3 (w.heap.size + 1)) := hZ3
    obtain ⟨z0, z1, z2, z3⟩ := hZ3
    have HO3 : Hid (Own w3 bl len (prt (nat f) x)) := hO.oth (OthS.below (fun _ => False) hb3) id
    have HX : Hid (bst (nat f) len (per len [] (pw len - 1)) = some x) := hx
    have HBV : Hid (w3.ownsRow w1.heap.size 3 1 (.slice va vn vc) x.length (natVals x)) := by rw [hxl]; exact owns_below hbv hb3
    have HB4 : Hid (Below w.heap.size w w3) := Below.then HB1.out (Below.then hb2 hb3)
    have HBL : Hid (w1.heap.size ≤ bl ∧ bl < w3.heap.size) := ⟨by omega, Nat.lt_of_lt_of_le hbl2 hb3.size⟩
    have hw1 := HB1.out.size
    have hz1 : w.heap.size + 1 < w1.heap.size := by
      obtain ⟨_, hq⟩ := HHZ.out _ (Below.refl _ _)
      exact World.block_lt_of_cell? _ _ hq.1
    have HL1 : Hid (w.heap.size + 1 < w1.heap.size) := hz1
    clear hx hO hbl1 hbl2 hbv hb2 hb3 c0 c1 hxl HHZ hw1 hz1
    rw [HW3.out] at g0 g1 z0 z1 z2 z3
    go_wp2_with fail
    rw [← HW3.out]
    rw [← HW3.out] at z0 z1 z2 z3
    refine bodyPost_ret (v := .tuple #[.agg #[.int .i64 (len : Nat), .slice (some ⟨bl, 0, none⟩) len len], .slice va vn vc, .int .i64 0]) (by simp [results, Tryd.results9, go_sem, z0, z1]) rfl ⟨⟨0, HC.out, .inr ⟨rfl, x, bl, _, HX.out, rfl, fun k hk => ?_, ?_, ?_, ?_⟩⟩, set2B HB4.out (by omega)⟩
    · obtain ⟨q1, q2⟩ := HO3.out k hk
      have h1 := HBL.out
      have h2 := HL1.out
      rw [World.frozen?_setCell, World.frozen?_setCell, World.cell?_setCell_other _ _ _ _ (fun e => by injection e with e1; omega), World.cell?_setCell_other _ _ _ _ (fun e => by injection e with e1; omega)]
      exact ⟨q1, q2⟩
    · have h1 := HBL.out
      have h2 := HL1.out
      omega
    · have h1 := HBL.out
      simpa using h1.2
    · have h2 := HL1.out
      exact owns_mono (owns_set2 HBV.out (by omega)) (by omega)
  · have hne : (c != 0) = true := by simpa using e0
    obtain ⟨z0, z1, z2, z3⟩ := hZ1
    clear hH1
    go_wp2_with fail
    exact bodyPost_ret (v := .tuple #[noOrder, .slice none 0 0, .int .i64 c]) (by simp [results, Tryd.results9, go_sem, noOrder, z0, z1]) rfl ⟨⟨c, HC.out, .inl ⟨e0, rfl⟩⟩, set2B HB1.out (by omega)⟩
theorem given_any (c n : Int) (len : Nat) (F : Nat → Int) (x y : Value) (w : World) (hl : len ≤ maxLen) (hx : OrdErr c n len F x w) (hy : OrdErr c n len F y w ∨ (c ≠ 0 ∧ ∃ n' a len' cap', y = .agg #[.int .i64 n', .slice a len' cap'])) :
    Calls Tryd.prog 13 #[x, .int .i64 c, .int .i64 c, y] w fun e w' => e = .returned (.bool true) ∧ Below w.heap.size w w' := by
  have HBE : Hid (∀ o1 o2 : Obj, Below w.heap.size w ((w.alloc o1).alloc o2)) := fun o1 o2 => ((Below.refl _ _).alloc (Nat.le_refl _) _).alloc (by simp) _
  by_cases hc : c = 0
  · subst hc
    rcases hx with ⟨h, _⟩ | ⟨_, a, cap, rfl, hr⟩
    · exact absurd rfl h
    rcases hy with (⟨h, _⟩ | ⟨_, b, cap', rfl, hr'⟩) | ⟨h, _⟩
    · exact absurd rfl h
    · have HA : Hid (Row w a len F) := hr
      have HB : Hid (Row w b len F) := hr'
      clear hr hr'
      go_enter Tryd.func13, Tryd.ntmps13
      go_wp2_with fail
      refine (sameOrder_any n n a b len cap len cap' F F _ hl hl (HA.out.below (HBE.out _ _)) (HB.out.below (HBE.out _ _))).mono ?_
      rintro e w1 ⟨⟨q, rfl, hq⟩, hB⟩
      obtain rfl : q = true := hq.2 ⟨rfl, rfl, fun _ _ => rfl⟩
      have HB2 : Hid (Below w.heap.size w w1) := Below.then (HBE.out _ _) hB
      clear hq hB HBE
      go_wp2_with fail
      go_ret
      exact ⟨rfl, HB2.out⟩
    · exact absurd rfl h
  · have hne : (c != 0) = true := by simpa using hc
    rcases hx with ⟨_, rfl⟩ | ⟨h, _⟩
    · obtain ⟨n', b, len', cap', rfl⟩ : ∃ n' b len' cap', y = .agg #[.int .i64 n', .slice b len' cap'] := by
        rcases hy with (⟨_, rfl⟩ | ⟨h, _⟩) | ⟨_, h⟩
        · exact ⟨0, none, 0, 0, rfl⟩
        · exact absurd h hc
        · exact h
      clear hy hc
      unfold noOrder
      go_enter Tryd.func13, Tryd.ntmps13
      go_wp2_with fail
      refine (sameOrder_any 0 0 none none 0 0 0 0 (fun _ => 0) (fun _ => 0) _ (by unfold maxLen; omega) (by unfold maxLen; omega) (fun k hk => absurd hk (Nat.not_lt_zero _)) (fun k hk => absurd hk (Nat.not_lt_zero _))).mono ?_
      rintro e w1 ⟨⟨q, rfl, hq⟩, hB⟩
      obtain rfl : q = true := hq.2 ⟨rfl, rfl, fun _ _ => rfl⟩
      have HB2 : Hid (Below w.heap.size w w1) := Below.then (HBE.out _ _) hB
      clear hq hB HBE
      go_wp2_with fail
      go_ret
      exact ⟨rfl, HB2.out⟩
    · exact absurd h hc

theorem formed_any (n : Int) (a : Option Addr) (len cap : Nat) (f : Nat → Int) (w : World) (hl : len ≤ maxLen) (hr : Row w a len f) :
    Calls Tryd.prog 10 #[.agg #[.int .i64 n, .slice a len cap]] w fun e w' => (∃ c : Int, e = .returned (.int .i64 c) ∧ FCk n len f c) ∧ Below w.heap.size w w' := by
  obtain ⟨W, HWE⟩ : ∃ W, Hid (W = w.alloc (.cells #[.int .i64 n, .slice a len cap] 24)) := ⟨_, rfl⟩
  have HB : Hid (Below w.heap.size w W) := by rw [HWE.out]; exact (Below.refl _ _).alloc (Nat.le_refl _) _
  have HH : Hid (Held W w.heap.size n a len cap f) := by rw [HWE.out]; exact Held.box hr
  have HCK := (show Hid _ from checkOrder_any n a len cap f W hl (hr.below HB.out))
  have c0 := HH.out.c0
  have c1 := HH.out.c1
  clear hr
  go_enter Tryd.func10, Tryd.ntmps10
  go_wp2_with (rw [← HWE.out])
  refine Calls.mono HCK.out ?_
  rintro e w1 ⟨⟨c, rfl, hc⟩, hb⟩
  have HC : Hid (Chk n len f c) := hc
  have HB1 : Hid (Below w.heap.size w w1) := Below.then HB.out hb
  have hH1 := HH.out.step hb
  have d0 := hH1.c0
  have d1 := hH1.c1
  clear hb hc HCK c0 c1 hH1
  by_cases e0 : c = 0
  · subst e0
    by_cases h6 : 6 < n
    · have HF : Hid (FCk n len f 2) := ⟨0, HC.out, by rw [if_pos rfl, if_pos h6]⟩
      go_wp2_with fail
      go_ret
      exact ⟨⟨2, rfl, HF.out⟩, HB1.out⟩
    · have HF : Hid (FCk n len f 0) := ⟨0, HC.out, by rw [if_pos rfl, if_neg h6]⟩
      go_wp2_with fail
      go_ret
      exact ⟨⟨0, rfl, HF.out⟩, HB1.out⟩
  · have hne : (c == 0) = false := by simpa using e0
    have HF : Hid (FCk n len f c) := ⟨c, HC.out, by rw [if_neg e0]⟩
    clear e0
    go_wp2_with fail
    go_ret
    exact ⟨⟨c, rfl, HF.out⟩, HB1.out⟩
end Go.Proofs.YtfbdgdphpdhcpaaDoor
namespace Go.Proofs.YtfbdgdphpdhcpaaDoor
open Go Go.Conc Go.RowKit Sm
set_option maxRecDepth 100000

theorem rest_of_wp {P : Program} {fn : FuncId} {ops : Array Oper} {l : List Nat} {tm : Array Value} {v : World} {Q : Act → World → Prop} (h : wpOps P ops (fun e a w => e = .normal ∧ a.defers = [] ∧ Q a w) l ⟨tm, []⟩ v) :
    ∃ a' v', a'.defers = [] ∧ Q a' v' ∧ Steps P (lone (pf fn ⟨tm, []⟩ [.inRegion ops l, mkI]) [dum] v) (lone (pf fn a' [mkI]) [dum] v') := by
  obtain ⟨e, a', w', ⟨rfl, hd, hq⟩, har⟩ := wp_ops _ _ _ h (pf fn ⟨tm, []⟩ []) [mkI] [dum]
  exact ⟨a', w', hd, hq, har⟩
section
variable {Fin : Value → World → Prop} {K : World} {r : Nat → Nat → Prop} {v : World} {ch : Nat → Option (List (List Nat))} {k : List Item} {fn : FuncId} {rc : List Frame}
/-- What is left of a region behind its first m operations, as a piece. -/
theorem mtail {ops : Array Oper} (m : Nat) {n : Nat} {l : List Oper} (hl : ops.toList.drop m = l) (hn' : l.length = n) (hin : ∃ f, Tryd.prog.funcs[fn]? = some f) (hB : itemB Tryd.prog afs cgs (.inRegion ops (List.range' m n)) = true) (hg : ∀ g ∈ cgs, r g g) {tm tm' : Array Value} (ht : XR (Rg Tryd.prog afs cgs r) tm tm') {Q : Act → World → Prop}
    (H : ∀ τ, wpList Tryd.prog ops (fun e a w => e = .normal ∧ a.defers = [] ∧ Q a w) l ⟨tm, []⟩ (tap τ v)) (hn : ∀ r' v1 tm1 tm1', (∀ b b', r b b' → r' b b') → XR (Rg Tryd.prog afs cgs r') tm1 tm1' → Q ⟨tm1, []⟩ v1 → Mc Fin K r' v1 ch none (G (fF fn tm1' k [] .normal) rc)) :
    Mc Fin K r v ch none (G (fF fn tm' (.inRegion ops (List.range' m n) :: k) [] .normal) rc) :=
  mrest hin hB hg ht (fun τ => rest_of_wp (by
    subst hn'
    rw [wpOps_eq_wpList l m (fun j => by rw [← hl, List.getElem?_drop, Array.getElem?_toList])]
    exact H τ)) hn
/-- The call of canonBegun. -/
theorem begun_call {ops : Array Oper} {i : Nat} {rest : List Nat} {o : Oper} {d : Nat} (a1 : ops[i]? = some o) (a2 : o.dst = some d) (a3 : o.op = .call { callee := .value (.func GB), args := #[], argTypes := #[] }) (a4 : o.guard = none)
    {tm tm' : Array Value} (hx : XR (Rg Tryd.prog afs cgs r) tm tm') (hg : ∀ g ∈ cgs, r g g) (hT : Tab v) (hlow : Tryd.prog.globals.size ≤ v.heap.size) (hp0 : PureB v 0) (hp1 : PureB v 1)
    (hk : ∀ r' v' tm1', (∀ b b', r b b' → r' b b') → HB v v' → (∀ g ∈ cgs, r' g g) → XR (Rg Tryd.prog afs cgs r') (tm.setIfInBounds d (.bool true)) tm1' → Tab v' → Tryd.prog.globals.size ≤ v'.heap.size → PureB v' 0 → PureB v' 1 →
      Mc Fin K r' v' (fun _ => none) none (G (fF fn tm1' (.inRegion ops rest :: k) [] .normal) rc)) :
    Mc Fin K r v (fun _ => none) none (G (fF fn tm' (.inRegion ops (i :: rest) :: k) [] .normal) rc) := by
  obtain ⟨CB, hCB⟩ : ∃ C, IsB C := ⟨_, rfl⟩
  have hbB : Tryd.f12.body = some CB := by rw [hCB]; rfl
  refine MV.call (by decide) a1 (by unfold Region.wanted; rw [a4]) a3 Tryd.func12 (by decide) hbB ?_
  have eargs0 : ((#[] : Array Operand).map (Act.eval ⟨tm', []⟩)) = #[] := by simp
  rw [eargs0]
  show Mc Fin K r v (fun _ => none) none (G (fF GB (#[] ++ Array.replicate 31 undef) [.code CB] [] .normal) (fF fn tm' (.inRegion ops (i :: rest) :: _) [] .normal :: rc))
  have ht0 : XR (Rg Tryd.prog afs cgs r) (#[] ++ Array.replicate 31 undef) (#[] ++ Array.replicate 31 undef) := by
    have := XR.rep (R := Rg Tryd.prog afs cgs r) 31
    simpa using this
  refine begun_run hCB ht0 hg (by simp) hT hlow hp0 hp1 fun r2 v2 tm2 tm2' hr2 hb2 g2 hx2 q0 hT2 hlow2 p02 p12 => ?_
  have q0' := vr_bool hx2 q0
  have hret := ret_one (F := Tryd.f12) (t := 0) rfl q0'
  refine MV.ret Tryd.func12 (fun w => (hret w).1) (fun w => (hret w).2) a1 ?_
  rw [a2]
  exact hk r2 v2 _ hr2 hb2 g2 ((hx.mono (rg_le hr2)).set d (VR.bool _ _)) hT2 hlow2 p02 p12
end
end Go.Proofs.YtfbdgdphpdhcpaaDoor
namespace Go.Proofs.YtfbdgdphpdhcpaaDoor
open Go Go.Conc Go.RowKit Sm

theorem hb_alloc (v : World) (o : Obj) : HB v (v.alloc o) := HB.of (B := v.heap.size) ((Below.refl _ v).alloc (Nat.le_refl _) _) (Nat.le_refl _)
theorem op_take {ops : Array Oper} {m : Nat} {rows : List (Option Tmp × Op × Option (Nat × Bool))} (h : (ops.map fun o => (o.dst, o.op, o.guard)).toList.take m = rows) (i : Nat) {d : Option Tmp} {p : Op} {g : Option (Nat × Bool)} (hi : rows[i]? = some (d, p, g)) : ∃ o, ops[i]? = some o ∧ o.dst = d ∧ o.op = p ∧ o.guard = g := by
  rw [← h, List.getElem?_take] at hi
  split at hi
  · rw [Array.getElem?_toList, Array.getElem?_map, Option.map_eq_some_iff] at hi
    obtain ⟨o, ho, e⟩ := hi
    cases e
    exact ⟨o, ho, rfl, rfl, rfl⟩
  · cases hi
end Go.Proofs.YtfbdgdphpdhcpaaDoor
