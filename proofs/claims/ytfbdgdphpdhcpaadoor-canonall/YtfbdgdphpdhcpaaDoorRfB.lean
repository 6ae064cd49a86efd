/-
  What the reference's Before and FormOf answer: the least order by all lists, and the first list by which it is that. Conditions: an order of at most six points.
-/
import Derived.Test.YtfbdgdphpdhcpaaDoorRfP
namespace Go.Proofs.YtfbdgdphpdhcpaaDoor
open Go.RowKit Go.Shelf
set_option maxRecDepth 100000

theorem cmpI_lt {x y : Nat} (h : x ≠ y) : (cmpI x y < 0) ↔ x < y := by
  unfold cmpI
  rcases Nat.lt_or_ge x y with h1 | h1
  · simp [h1]
  · simp [show ¬ x < y by omega, show y < x by omega]
set_option maxHeartbeats 1000000 in
theorem before_any (q : Nat) (a b : Option Addr) (ca cb : Nat) (f g : Nat → Nat) (w : World) (h40 : q ≤ 40) (ha : Row w a q (fun k => (f k : Nat))) (hb : Row w b q (fun k => (g k : Nat))) :
    Calls Tryd.prog 24 #[.slice a q ca, .slice b q cb] w fun e w' => e = .returned (.bool (decide (cmpF f g q 0 < 0))) ∧ Below w.heap.size w w' := by
  have HA : Hid (Row w a q (fun k => (f k : Nat))) := ha
  have HB : Hid (Row w b q (fun k => (g k : Nat))) := hb
  clear ha hb
  go_enter Tryd.func24, Tryd.ntmps24
  go_wp2_with fail
  go_loopw [5] (fun t wx => ∃ k : Nat, k ≤ q ∧ t = .int .i64 k ∧ Hid (cmpF f g q 0 = cmpF f g (q - k) k) ∧ Hid (Below w.heap.size w wx)) (fun t _ => q - (intOf t).toNat)
  case atStart => exact ⟨0, Nat.zero_le _, rfl, rfl, Below.refl _ _⟩
  case round =>
    obtain ⟨k, hk, rfl, HE, HW⟩ := hrel
    by_cases hlt : k < q
    · have hlt' : (k : Int) < (q : Int) := by omega
      obtain ⟨ba, oa, rfl, e1'⟩ := (HA.out.below HW.out).at hlt
      obtain ⟨bb, ob, rfl, e2'⟩ := (HB.out.below HW.out).at hlt
      have e1 : wr.cell? ⟨ba, oa + k, none⟩ = some (.int .i64 (f k : Nat)) := e1' k hlt
      have e2 : wr.cell? ⟨bb, ob + k, none⟩ = some (.int .i64 (g k : Nat)) := e2' k hlt
      clear e1' e2'
      have HS : Hid (cmpF f g (q - k) k = if f k = g k then cmpF f g (q - (k + 1)) (k + 1) else cmpI (f k) (g k)) := by
        rw [show q - k = (q - (k + 1)) + 1 by omega]; rfl
      generalize hx : f k = x at e1
      generalize hy : g k = y at e2
      rw [hx, hy] at HS
      by_cases e : x = y
      · have hne : ((x : Int) != (y : Int)) = false := by simp; omega
        have HS2 : Hid (cmpF f g q 0 = cmpF f g (q - (k + 1)) (k + 1)) := HE.out.trans (HS.out.trans (if_pos e))
        clear HS HE hx hy e
        go_wp2
        go_quiet (fail)
        go_wp2
        go_roundw
        case rel => exact ⟨k + 1, by omega, by go_num, HS2.out, below_drewN HW.out _⟩
        case measure => simp [intOf]; omega
      · have hne : ((x : Int) != (y : Int)) = true := by simp; omega
        have HS2 : Hid (decide (cmpF f g q 0 < 0) = decide (x < y)) := by
          have h1 : cmpF f g q 0 = cmpI x y := HE.out.trans (HS.out.trans (if_neg e))
          rw [Hid, h1, decide_eq_decide, cmpI_lt e]
        clear HS HE hx hy e
        go_wp2
        go_quiet (fail)
        go_wp2
        go_quiet (fail)
        go_wp2
        go_ret
        exact ⟨by rw [HS2.out]; rfl, below_drewN (below_drewN HW.out _) _⟩
    · obtain rfl : k = q := by omega
      have hno : ¬ ((k : Int) < (k : Int)) := by omega
      have HF : Hid (cmpF f g k 0 = 0) := by rw [Hid, HE.out, Nat.sub_self]; rfl
      go_wp2_with fail
      go_ret
      exact ⟨by rw [HF.out]; simp, HW.out⟩
theorem field_b (A B : Value) (w : World) : Sem.run Tryd.prog (Instr.field 24 (.agg #[A, B]) 1) w = .ok B w := by simp [go_sem, Instr.field, asAgg]
attribute [local go_sem] field_b
theorem p4_step {w w1 w2 : World} {p0 p1 p2 p3 : Addr} {u0 u1 u2 u3 : Value} (h : w1.cell? p0 = some u0 ∧ w1.cell? p1 = some u1 ∧ w1.cell? p2 = some u2 ∧ w1.cell? p3 = some u3 ∧ Below w.heap.size w w1) (hb : Below w1.heap.size w1 w2) :
    w2.cell? p0 = some u0 ∧ w2.cell? p1 = some u1 ∧ w2.cell? p2 = some u2 ∧ w2.cell? p3 = some u3 ∧ Below w.heap.size w w2 :=
  ⟨cell_stp hb h.1, cell_stp hb h.2.1, cell_stp hb h.2.2.1, cell_stp hb h.2.2.2.1, Below.then h.2.2.2.2 hb⟩
theorem p4_below {w w1 : World} {p0 p1 p2 p3 : Addr} {u0 u1 u2 u3 : Value} (h : w1.cell? p0 = some u0 ∧ w1.cell? p1 = some u1 ∧ w1.cell? p2 = some u2 ∧ w1.cell? p3 = some u3 ∧ Below w.heap.size w w1) : Below w.heap.size w w1 := h.2.2.2.2
theorem p4_set {w w1 : World} {p2 p3 : Addr} {u0 u1 u2 u3 s t : Value} (h : w1.cell? ⟨w.heap.size, 0, none⟩ = some u0 ∧ w1.cell? ⟨w.heap.size, 1, none⟩ = some u1 ∧ w1.cell? p2 = some u2 ∧ w1.cell? p3 = some u3 ∧ Below w.heap.size w w1) (h2 : p2.block ≠ w.heap.size + 1) (h3 : p3.block ≠ w.heap.size + 1) :
    ((w1.setCell ⟨w.heap.size + 1, 0, none⟩ s).setCell ⟨w.heap.size + 1, 1, none⟩ t).cell? ⟨w.heap.size, 0, none⟩ = some u0 ∧ ((w1.setCell ⟨w.heap.size + 1, 0, none⟩ s).setCell ⟨w.heap.size + 1, 1, none⟩ t).cell? ⟨w.heap.size, 1, none⟩ = some u1 ∧ ((w1.setCell ⟨w.heap.size + 1, 0, none⟩ s).setCell ⟨w.heap.size + 1, 1, none⟩ t).cell? p2 = some u2 ∧ ((w1.setCell ⟨w.heap.size + 1, 0, none⟩ s).setCell ⟨w.heap.size + 1, 1, none⟩ t).cell? p3 = some u3 ∧ Below w.heap.size w ((w1.setCell ⟨w.heap.size + 1, 0, none⟩ s).setCell ⟨w.heap.size + 1, 1, none⟩ t) := by
  refine ⟨?_, ?_, ?_, ?_, set2B h.2.2.2.2 (by omega)⟩
  · rw [World.cell?_setCell_other _ _ _ _ (fun e => by injection e with e1; omega), World.cell?_setCell_other _ _ _ _ (fun e => by injection e with e1; omega)]; exact h.1
  · rw [World.cell?_setCell_other _ _ _ _ (fun e => by injection e with e1; omega), World.cell?_setCell_other _ _ _ _ (fun e => by injection e with e1; omega)]; exact h.2.1
  · rw [World.cell?_setCell_other _ _ _ _ (fun e => h2 (by rw [← e])), World.cell?_setCell_other _ _ _ _ (fun e => h2 (by rw [← e]))]; exact h.2.2.1
  · rw [World.cell?_setCell_other _ _ _ _ (fun e => h3 (by rw [← e])), World.cell?_setCell_other _ _ _ _ (fun e => h3 (by rw [← e]))]; exact h.2.2.2.1
theorem owns_set2 {X : World} {B base : Nat} {v : Value} {n : Nat} {xs : List Value} {s t : Value} (h : X.ownsRow base 3 1 v n xs) (hb : B < base) : ((X.setCell ⟨B, 0, none⟩ s).setCell ⟨B, 1, none⟩ t).ownsRow base 3 1 v n xs :=
  ownsRow_setCell_below (a := ⟨B, 1, none⟩) (ownsRow_setCell_below (a := ⟨B, 0, none⟩) h hb _) hb _
/-- The step that the loop takes. -/
theorem bst_next {g : Nat → Nat} {n : Nat} {l : List (List Nat)} {i b : Nat} {x y : List Nat} (hb : bst g n (l.take i) = l[b]?) (hx : l[i]? = some x) (hy : l[b]? = some y) :
    bst g n (l.take (i + 1)) = if cmpF (prt g x) (prt g y) n 0 < 0 then l[i]? else l[b]? := by
  rw [List.take_add_one, hx, Option.toList_some, bst_snoc, hb, hy]
  rfl
/-- What FormOf hands back. -/
def FofPost (B : Nat) (n : Nat) (g : Nat → Nat) (e : Ending) (w' : World) : Prop :=
  ∃ x a c v, bst g n (per n [] (pw n - 1)) = some x ∧ e = .returned (.tuple #[.agg #[.int .i64 (n : Nat), .slice a n c], v]) ∧ Row w' a n (fun k => (prt g x k : Nat)) ∧ w'.ownsRow B 3 1 v x.length (natVals x)
set_option maxHeartbeats 4000000 in
theorem fofR_any (n : Nat) (a : Option Addr) (cap : Nat) (g : Nat → Nat) (w : World) (hn : n ≤ 6) (hg : ∀ k, k < n → g k < 1024) (hr : Row w a n (fun k => (g k : Nat))) :
    Calls Tryd.prog 11 #[.agg #[.int .i64 (n : Nat), .slice a n cap]] w fun e w' => FofPost w.heap.size n g e w' ∧ Below w.heap.size w w' := by
  obtain ⟨W, HWE⟩ : ∃ W, Hid (W = (w.alloc (.cells #[.int .i64 (n : Nat), .slice a n cap] 24)).alloc (.cells #[.int .i64 0, .slice none 0 0] 24)) := ⟨_, rfl⟩
  have HB : Hid (Below w.heap.size w W) := by rw [HWE.out]; exact ((Below.refl _ _).alloc (Nat.le_refl _) _).alloc (by simp) _
  have HX : Hid (∀ w', Below W.heap.size W w' → w'.cell? ⟨w.heap.size, 0, none⟩ = some (.int .i64 (n : Nat)) ∧ w'.cell? ⟨w.heap.size, 1, none⟩ = some (.slice a n cap)) := fun w' h =>
    ⟨cell_stp h (by rw [HWE.out]; exact cell_al (by simp)), cell_stp h (by rw [HWE.out]; exact cell_al (by simp))⟩
  have HZ : Hid (∀ w', Below W.heap.size W w' → ZBox w' (w.heap.size + 1)) := fun w' h => by
    refine ZBox.step ?_ h
    rw [HWE.out]
    have := ZBox.new (w.alloc (.cells #[.int .i64 (n : Nat), .slice a n cap] 24))
    rw [World.size_alloc] at this
    exact this
  have hsw : W.heap.size = w.heap.size + 2 := by rw [HWE.out]; simp
  have HSW : Hid (W.heap.size = w.heap.size + 2) := hsw
  have HR : Hid (Row w a n (fun k => (g k : Nat))) := hr
  have HG : Hid (∀ k, k < n → g k < 1024) := hg
  obtain ⟨P, HP⟩ : ∃ P, Hid (P = per n [] (pw n - 1)) := ⟨_, rfl⟩
  have HNE : Hid (P ≠ []) := by rw [HP.out]; exact per_ne n [] _ (pc_all (by omega)).1 (pc_all (by omega)).2
  have HGD : Hid (∀ y, y ∈ P → y.length = n ∧ (∀ k, k < n → nth y k < n)) := fun y hy => by
    rw [HP.out] at hy
    have := per_good (by omega) hy
    exact ⟨this.1, this.2.1⟩
  have HPB := per_bound hn
  rw [← HP.out] at HPB
  obtain ⟨z0, z1⟩ := HX.out W (Below.refl _ _)
  clear hr hg hsw
  go_enter Tryd.func11, Tryd.ntmps11
  go_wp2_with (rw [← HWE.out])
  refine (perms_any n W hn).mono ?_
  rintro e w1 ⟨⟨z, rfl, hz⟩, hb1⟩
  rw [← HP.out] at hz
  have HM : Hid (MLst w1 W.heap.size z P) := hz
  have HB1 : Hid (Below W.heap.size W w1) := hb1
  obtain ⟨az, cz, rfl, hrd⟩ := hz.rd
  have HRD : Hid (LRd w1 az P) := hrd
  have HPL : Hid (0 < P.length) := List.length_pos_iff.2 HNE.out
  clear hb1 hz hrd z0 z1
  go_wp2_with fail
  go_loopw [5, 6] (fun t s wx => ∃ b i : Nat, t = .int .i64 b ∧ s = .int .i64 i ∧ b < i ∧ i ≤ P.length ∧ Hid (bst g n (P.take i) = P[b]?) ∧ Hid (Below w1.heap.size w1 wx)) (fun _ s _ => P.length - (intOf s).toNat)
  case atStart => exact ⟨0, 1, rfl, rfl, by omega, HPL.out, by
    have h := HPL.out
    obtain ⟨y, l, rfl⟩ := List.exists_cons_of_length_pos h
    show bst g n (List.take 1 (y :: l)) = (y :: l)[0]?
    simp [bst, bstS], Below.refl _ _⟩
  case round =>
    obtain ⟨b, i, rfl, rfl, hbi, hi, HI, HW⟩ := hrel
    by_cases hil : i < P.length
    · have hil' : (i : Int) < (P.length : Int) := by omega
      have hbl : (b : Int) < (P.length : Int) := by omega
      obtain ⟨x, hx⟩ : ∃ x, P[i]? = some x := ⟨_, List.getElem?_eq_getElem hil⟩
      obtain ⟨y, hy⟩ : ∃ y, P[b]? = some y := ⟨_, List.getElem?_eq_getElem (by omega)⟩
      obtain ⟨gx, vx, e1, cx, sx⟩ := HRD.out.below HW.out i x hx
      obtain ⟨gy, vy, e2, cy, sy⟩ := HRD.out.below HW.out b y hy
      subst e1
      cases e2
      have HNXT := (show Hid _ from bst_next HI.out hx hy)
      obtain ⟨hxl, hxn⟩ := HGD.out x (List.mem_of_getElem? hx)
      obtain ⟨hyl, hyn⟩ := HGD.out y (List.mem_of_getElem? hy)
      obtain ⟨ax, cpx, evx, hrx⟩ := sx.row
      obtain ⟨ay, cpy, evy, hry⟩ := sy.row
      have HBW : Hid (Below W.heap.size W wr) := Below.then HB1.out HW.out
      have HRX : Hid (∀ w', Below wr.heap.size wr w' → Calls Tryd.prog 28 #[.agg #[.int .i64 (n : Nat), .slice a n cap], vx] w' fun e w2 => OrderPost w' n (prt g x) e w2 ∧ Below w'.heap.size w' w2) := fun w' hb => by
        rw [evx, hxl]
        exact rnR_any n a cap g ax cpx x w' (by omega) HG.out hxl hxn (HR.out.below (Below.then (Below.then HB.out HBW.out) hb)) (by rw [hxl] at hrx; exact hrx.below hb)
      have HRY : Hid (∀ w', Below wr.heap.size wr w' → Calls Tryd.prog 28 #[.agg #[.int .i64 (n : Nat), .slice a n cap], vy] w' fun e w2 => OrderPost w' n (prt g y) e w2 ∧ Below w'.heap.size w' w2) := fun w' hb => by
        rw [evy, hyl]
        exact rnR_any n a cap g ay cpy y w' (by omega) HG.out hyl hyn (HR.out.below (Below.then (Below.then HB.out HBW.out) hb)) (by rw [hyl] at hry; exact hry.below hb)
      have hX := HX.out wr HBW.out
      have KK : wr.drew.cell? ⟨w.heap.size, 0, none⟩ = some (.int .i64 (n : Nat)) ∧ wr.drew.cell? ⟨w.heap.size, 1, none⟩ = some (.slice a n cap) ∧ wr.drew.cell? ⟨gx, i, none⟩ = some vx ∧ wr.drew.cell? ⟨gx, b, none⟩ = some vy ∧ Below wr.heap.size wr wr.drew := ⟨hX.1, hX.2, cx, cy, (Below.refl _ _).drew⟩
      have HWB : Hid (∀ w', Below wr.heap.size wr w' → Below w1.heap.size w1 w') := fun w' hb => Below.then HW.out hb
      clear hX cx cy sx sy evx evy hrx hry hx hy hxn hyn
      obtain ⟨q, HQ⟩ : ∃ q : Bool, Hid (q = decide (cmpF (prt g x) (prt g y) n 0 < 0)) := ⟨_, rfl⟩
      go_wp2_with fail
      go_region_held3 (fun w' => w'.cell? ⟨w.heap.size, 0, none⟩ = some (.int .i64 (n : Nat)) ∧ w'.cell? ⟨w.heap.size, 1, none⟩ = some (.slice a n cap) ∧ w'.cell? ⟨gx, i, none⟩ = some vx ∧ w'.cell? ⟨gx, b, none⟩ = some vy ∧ Below wr.heap.size wr w')
        (first | exact KK | assumption | exact p4_step (by assumption) (by assumption))
        (first
          | (go_at_call 28; refine (HRX.out _ (p4_below (by assumption))).mono ?_; rintro e w2 ⟨⟨ar1, cr1, rfl, hrow1, _⟩, hb2⟩)
          | (go_at_call 28; refine (HRY.out _ (p4_below (by assumption))).mono ?_; rintro e w3 ⟨⟨ar2, cr2, rfl, hrow2, _⟩, hb3⟩)
          | (go_at_call 24; refine (before_any n _ _ _ _ _ _ _ (by omega) (hrow1.below hb3) hrow2).mono ?_; rintro e w4 ⟨rfl, hb4⟩; rw [← HQ.out]))
      all_goals (
        rcases (Bool.eq_false_or_eq_true q).symm with hq | hq
        · subst hq
          have HN2 : Hid (bst g n (P.take (i + 1)) = P[b]?) := by
            have h := HNXT.out
            rw [if_neg (of_decide_eq_false HQ.out.symm)] at h
            exact h
          have HW2 := (show Hid _ from HWB.out _ (p4_below (by assumption)))
          go_wp2
          go_roundw
          case rel => exact ⟨b, i + 1, rfl, by go_num, by omega, by omega, HN2.out, HW2.out⟩
          case measure => simp [intOf]; omega
        · subst hq
          have HN2 : Hid (bst g n (P.take (i + 1)) = P[i]?) := by
            have h := HNXT.out
            rw [if_pos (of_decide_eq_true HQ.out.symm)] at h
            exact h
          have HW2 := (show Hid _ from HWB.out _ (p4_below (by assumption)))
          go_wp2
          go_roundw
          case rel => exact ⟨i, i + 1, rfl, by go_num, by omega, by omega, HN2.out, HW2.out⟩
          case measure => simp [intOf]; omega)
    · obtain rfl : i = P.length := by omega
      have hbl : (b : Int) < (P.length : Int) := by omega
      obtain ⟨y, hy⟩ : ∃ y, P[b]? = some y := ⟨_, List.getElem?_eq_getElem (by omega)⟩
      have HBY : Hid (bst g n P = some y) := by
        have h := HI.out
        rw [List.take_length] at h
        exact h.trans hy
      obtain ⟨vs, ho, hv⟩ := HM.out.below HW.out
      obtain ⟨vy, qy, oy⟩ := hv b y hy
      obtain ⟨gy, vy', e2, cy, sy⟩ := HRD.out.below HW.out b y hy
      subst e2
      have hgy : W.heap.size ≤ gy := owns_block ho gy rfl
      have cy2 : wr.cell? ⟨gy, b, none⟩ = some vy := by
        rw [ho.cellAt b (by have := ho.1; have := (List.getElem?_eq_some_iff.1 hy).1; omega)]; exact qy
      obtain rfl : vy' = vy := Option.some.inj (cy.symm.trans cy2)
      obtain ⟨hyl, hyn⟩ := HGD.out y (List.mem_of_getElem? hy)
      obtain ⟨ay, cpy, evy, hry⟩ := sy.row
      have HBW : Hid (Below W.heap.size W wr) := Below.then HB1.out HW.out
      have HRY : Hid (∀ w', Below wr.heap.size wr w' → Calls Tryd.prog 28 #[.agg #[.int .i64 (n : Nat), .slice a n cap], vy'] w' fun e w2 => OrderPost w' n (prt g y) e w2 ∧ Below w'.heap.size w' w2) := fun w' hb => by
        rw [evy, hyl]
        exact rnR_any n a cap g ay cpy y w' (by omega) HG.out hyl hyn (HR.out.below (Below.then (Below.then HB.out HBW.out) hb)) (by rw [hyl] at hry; exact hry.below hb)
      have HOY : Hid (wr.ownsRow W.heap.size 3 1 vy' y.length (natVals y)) := oy
      have hX := HX.out wr HBW.out
      have hgne : gy ≠ w.heap.size + 1 := by have := HSW.out; omega
      have KK : wr.drew.cell? ⟨w.heap.size, 0, none⟩ = some (.int .i64 (n : Nat)) ∧ wr.drew.cell? ⟨w.heap.size, 1, none⟩ = some (.slice a n cap) ∧ wr.drew.cell? ⟨gy, b, none⟩ = some vy' ∧ wr.drew.cell? ⟨gy, b, none⟩ = some vy' ∧ Below w.heap.size w wr.drew := ⟨hX.1, hX.2, cy, cy, (Below.then HB.out HBW.out).drew⟩
      clear hX cy cy2 sy evy hry hy hyn qy hv ho oy
      go_wp2_with fail
      go_region_held3 (fun w' => w'.cell? ⟨w.heap.size, 0, none⟩ = some (.int .i64 (n : Nat)) ∧ w'.cell? ⟨w.heap.size, 1, none⟩ = some (.slice a n cap) ∧ w'.cell? ⟨gy, b, none⟩ = some vy' ∧ w'.cell? ⟨gy, b, none⟩ = some vy' ∧ Below w.heap.size w w')
        (first | exact KK | assumption | exact p4_step (by assumption) (by assumption) | exact p4_set (by assumption) hgne hgne)
        (first
          | (go_at_call 28; refine (HRY.out _ (Below.refl _ _).drew).mono ?_; rintro e w2 ⟨⟨ar1, cr1, rfl, hrow1, hfr1⟩, hb2⟩; obtain ⟨r0, r1, r2, r3⟩ := HZ.out _ (Below.then HBW.out (Below.then ((Below.refl _ _).drew) hb2))))
      all_goals go_wp2
      all_goals (
        have hs1 := HSW.out
        have hwz := HBW.out.size
        refine bodyPost_ret (v := .tuple #[.agg #[.int .i64 (n : Int), .slice ar1 n cr1], vy']) (by simp [results, Tryd.results11, go_sem, r0, r1]) rfl ⟨⟨y, ar1, cr1, vy', by rw [← HP.out]; exact HBY.out, rfl, row_set2 hrow1 (hfr1.mono (by show _ ≤ wr.heap.size; omega)), ?_⟩, set2B (Below.then (Below.then HB.out HBW.out) (Below.then ((Below.refl _ _).drew) hb2)) (by omega)⟩
        exact owns_mono (owns_set2 (owns_below HOY.out (Below.then ((Below.refl _ _).drew) hb2)) (by omega)) (by omega))
end Go.Proofs.YtfbdgdphpdhcpaaDoor
