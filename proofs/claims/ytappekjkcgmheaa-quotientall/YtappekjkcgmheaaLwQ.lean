/-
  What the reference's LeastWith answers: the least congruence that has classes and two elements together, by its numbers. Conditions: tables of at most forty elements, and as many classes.
-/
import Derived.Test.YtappekjkcgmheaaPlcP
import Derived.Test.YtappekjkcgmheaaLwM
import Derived.Test.YtappekjkcgmheaaRnP
import Derived.Deep.RegionHeld3
import Derived.Deep.LoopGhost
namespace Go.Proofs.Ytappekjkcgmheaa
open Go.RowKit
set_option maxRecDepth 100000

theorem own_ofQ {w : World} {base n B cap : Nat} {r : Nat → Nat} (h : w.ownsRow base 3 1 (.slice (some ⟨B, 0, none⟩) n cap) n (rowVals r n)) : Own w B n r ∧ base ≤ B := by
  refine ⟨fun k hk => ⟨?_, h.frozenAt k⟩, (h.lt B rfl).1⟩
  rw [h.cellAt k (by omega)]
  exact rowVals_at r n k hk
theorem leastWith1_lit (X q B cap : Nat) (c : Nat → Nat) (x y : Nat) (w : World) (v : Bool) (h40 : q ≤ 40) (hx : x < q) (hy : y < q) (hXB : X ≠ B) (hX : w.cell? ⟨X, 0, none⟩ = some (.slice (some ⟨B, 0, none⟩) q cap)) (ho : Own w B q c) (hv : (!(c x == c y)) = v) :
    Calls Try.prog 34 #[.int .i64 (x : Nat), .int .i64 (y : Nat), .pointer (some ⟨X, 0, none⟩)] w fun e w' => e = .returned (.bool v) ∧ Own w' B q (rel1 c (c y) (c x)) ∧ w.grownBy w' (some B) := by
  subst hv
  exact leastWith1_any X q B cap c x y w h40 hx hy hXB hX ho
/-- What the regions keep. -/
def Kp (w : World) (q : Nat) (A : Option Addr) (ca : Nat) (A' : Option Addr) (cb : Nat) (w' : World) : Prop := LB w' w.heap.size q A q ca A' q cb ∧ Below w.heap.size w w'
theorem Kp.c1 {w : World} {q : Nat} {A : Option Addr} {ca : Nat} {A' : Option Addr} {cb : Nat} {w' : World} (h : Kp w q A ca A' cb w') : w'.cell? ⟨w.heap.size, 1, none⟩ = some (.slice A q ca) := h.1.2.1
theorem Kp.c2 {w : World} {q : Nat} {A : Option Addr} {ca : Nat} {A' : Option Addr} {cb : Nat} {w' : World} (h : Kp w q A ca A' cb w') : w'.cell? ⟨w.heap.size, 2, none⟩ = some (.slice A' q cb) := h.1.2.2
theorem RL.drew1 {w : World} {X q : Nat} {m j : Nat → Nat → Nat} {c0 : Nat → Nat} {x y : Nat} {n : Int} {A : Option Addr} {la ca : Nat} {A' : Option Addr} {lb cb B cap D a b z : Nat} {ag : Bool} {c : Nat → Nat} {wx : World} (h : RL w X q m j c0 x y n A la ca A' lb cb B cap D a b z ag c wx) : RL w X q m j c0 x y n A la ca A' lb cb B cap D a b z ag c wx.drew :=
  ⟨h.cnt, h.lw, h.part, h.own, h.bx, h.rw, h.bel.drew⟩

set_option maxHeartbeats 16000000 in
theorem leastWith_any (q bA oA ca bB oB cb bp op cp : Nat) (R R' : Nat → Nat × Nat × Nat) (m j : Nat → Nat → Nat) (c0 : Nat → Nat) (x y : Nat) (w : World) (h1 : 1 ≤ q) (h40 : q ≤ 40) (hm : Inn q m) (hj : Inn q j)
    (ht : Tb w bA oA q R m) (ho : Tb w bB oB q R' j) (hr : Row w (some ⟨bp, op, none⟩) q (fun k => (c0 k : Nat))) (hx : x < q) (hy : y < q) :
    Calls Try.prog 17 #[.agg #[.int .i64 q, .slice (some ⟨bA, oA, none⟩) q ca, .slice (some ⟨bB, oB, none⟩) q cb], .slice (some ⟨bp, op, none⟩) q cp, .int .i64 (x : Nat), .int .i64 (y : Nat)] w fun e w' => (∃ v c, e = .returned v ∧ LeastW q m j c0 x y c ∧ w'.ownsRow w.heap.size 3 1 v q (natVals (numL c q))) ∧ Below w.heap.size w w' := by
  obtain ⟨i0, hi, hz0, hz1, hz2⟩ := info_parts Try.info3
  have HT1 : Hid (Tb w bA oA q R m) := ht
  have HT2 : Hid (Tb w bB oB q R' j) := ho
  have HI1 : Hid (Inn q m) := hm
  have HI2 : Hid (Inn q j) := hj
  have HR0 : Hid (Row w (some ⟨bp, op, none⟩) q (fun k => (c0 k : Nat))) := hr
  clear ht ho hm hj hr
  go_enter Try.func17, Try.ntmps17
  generalize hC : Code.region 1 _ false = C
  go_wp2_with fail
  generalize hW1 : (w.alloc (.cells #[.int .i64 q, .slice (some ⟨bA, oA, none⟩) q ca, .slice (some ⟨bB, oB, none⟩) q cb] 24)).alloc (.cells #[.slice (some ⟨bp, op, none⟩) q cp] 25) = W1
  have HB1 : Hid (Below w.heap.size w W1) := by rw [← hW1]; exact ((Below.refl _ _).alloc (Nat.le_refl _) _).alloc (by simp) _
  have HL1 : Hid (LB W1 w.heap.size q (some ⟨bA, oA, none⟩) q ca (some ⟨bB, oB, none⟩) q cb) := by rw [← hW1]; exact (LB.new w q (some ⟨bA, oA, none⟩) q ca (some ⟨bB, oB, none⟩) q cb).step ((Below.refl _ _).alloc (Nat.le_refl _) _)
  have hX1 : W1.cell? ⟨w.heap.size + 1, 0, none⟩ = some (.slice (some ⟨bp, op, none⟩) q cp) := by rw [← hW1]; simp
  have hf1 : W1.frozen? ⟨w.heap.size + 1, 0, none⟩ = false := by rw [← hW1]; simp
  have HS1 : Hid (W1.heap.size = w.heap.size + 2) := by unfold Hid; rw [← hW1]; simp
  have hown : (W1.alloc (.cells #[] 3)).ownsRow W1.heap.size 3 1 (.slice (some ⟨W1.heap.size, 0, none⟩) 0 0) 0 [] := World.ownsRow_made W1 #[] 0 (Nat.le_refl _) (by unfold maxLen; omega) (by simp)
  have hrW : Row W1 (some ⟨bp, op, none⟩) q (fun k => (c0 k : Nat)) := HR0.out.below HB1.out
  have hXa : (W1.alloc (.cells #[] 3)).cell? ⟨w.heap.size + 1, 0, none⟩ = some (.slice (some ⟨bp, op, none⟩) q cp) := by
    rw [World.cell?_alloc_old _ _ _ (by have := HS1.out; show _ ≠ _; simp only; omega)]
    exact hX1
  clear hW1
  rw [← hC]
  clear hC C
  go_wp2_with (at_builtin; refine wpList_append_own _ rfl _ _ 25 rfl W1.heap.size 3 i0 (.int .i64 0) 1 8 Try.underlying25 hi hz0 hz1 hz2 rfl (by decide) _ _ _ rfl hown ⟨bp, op, none⟩ q cp (rowVals c0 q) rfl (by simp [rowVals]) ?c1 ?c2 ?c3 ?c4 ?c5 ?_)
  case c1 =>
    intro i u hj
    have hjn : i < q := by
      rcases Nat.lt_or_ge i q with h | h
      · exact h
      · rw [List.getElem?_eq_none (by simp [rowVals]; omega)] at hj; cases hj
    rw [rowVals_at c0 q i hjn] at hj
    cases hj
    obtain ⟨b, off, e, hc⟩ := hrW i hjn
    cases e
    have hlt := World.block_lt_of_cell? _ _ hc
    have e2 : (⟨bp, op, none⟩ : Addr).add i = ⟨bp, op + i, none⟩ := by unfold Addr.add; split <;> simp_all
    rw [e2, World.cell?_alloc_old _ _ _ (Nat.ne_of_lt hlt)]
    exact hc
  case c2 =>
    intro u hu
    simp [rowVals] at hu
    obtain ⟨k, _, rfl⟩ := hu
    rfl
  case c3 => unfold maxLen; omega
  case c4 => omega
  case c5 => simp
  intro v' w2 hown' hgrow _
  have hown2 : w2.ownsRow W1.heap.size 3 1 v' q (rowVals c0 q) := by
    first
      | exact hown'
      | simpa using hown'
  have hb2 : Below W1.heap.size W1 w2 := ((Below.refl _ _).alloc (Nat.le_refl _) _).grown hgrow (by simp) (by intro k hk; simp [Value.ownBlock] at hk; omega)
  obtain ⟨B, cap, rfl⟩ := owns_form hown2 (by omega)
  obtain ⟨hO, hBW⟩ := own_ofQ hown2
  have hs1 := HS1.out
  have hBX : w.heap.size + 1 < B := by omega
  have hwB : w.heap.size ≤ B := by omega
  have hXB : w.heap.size + 1 ≠ B := by omega
  have hX2 := (hb2.cell (p := ⟨w.heap.size + 1, 0, none⟩) (by show _ < _; simp only; omega)).trans hX1
  have hf2 := (hb2.frozen (p := ⟨w.heap.size + 1, 0, none⟩) (by show _ < _; simp only; omega)).trans hf1
  have HW2 : Hid (w.heap.size + 1 < w2.heap.size) := by have := hb2.size; show _ < _; omega
  have HO3 : Hid (Own (w2.setCell ⟨w.heap.size + 1, 0, none⟩ (.slice (some ⟨B, 0, none⟩) q cap)) B q c0) := fun k hk => by
    rw [World.frozen?_setCell, World.cell?_setCell_other _ _ _ _ (fun e => by injection e with e1; omega)]
    exact hO k hk
  have HX3 : Hid ((w2.setCell ⟨w.heap.size + 1, 0, none⟩ (.slice (some ⟨B, 0, none⟩) q cap)).cell? ⟨w.heap.size + 1, 0, none⟩ = some (.slice (some ⟨B, 0, none⟩) q cap)) := World.cell?_setCell_same _ _ _ hX2
  have HL3 : Hid (LB (w2.setCell ⟨w.heap.size + 1, 0, none⟩ (.slice (some ⟨B, 0, none⟩) q cap)) w.heap.size q (some ⟨bA, oA, none⟩) q ca (some ⟨bB, oB, none⟩) q cb) := (HL1.out.step hb2).far (grown_setC _ _ _ _) (fun e => by injection e with e; omega)
  have HB3 : Hid (Below w.heap.size w (w2.setCell ⟨w.heap.size + 1, 0, none⟩ (.slice (some ⟨B, 0, none⟩) q cap))) := (Below.then HB1.out hb2).setCell (p := ⟨w.heap.size + 1, 0, none⟩) (by show _ ≤ _; simp only; omega) _
  clear hXa hown hown' hown2 hgrow hb2 hO hBW hs1 hX1 hf1 hrW HB1 HL1 HS1
  obtain ⟨v1, hv1⟩ : ∃ v, (!(c0 x == c0 y)) = v := ⟨_, rfl⟩
  go_wp2_with fail
  generalize w2.setCell ⟨w.heap.size + 1, 0, none⟩ (.slice (some ⟨B, 0, none⟩) q cap) = W3 at *
  clear hX2 hf2 HW2
  refine (leastWith1_lit (w.heap.size + 1) q B cap c0 x y _ v1 h40 hx hy hXB HX3.out HO3.out hv1).mono ?_
  rintro e w4 ⟨rfl, ho4, hg4⟩
  clear hv1
  obtain ⟨c1, hc1⟩ : ∃ c1, rel1 c0 (c0 y) (c0 x) = c1 := ⟨_, rfl⟩
  have HI4 : Hid (RL w w.heap.size q m j c0 x y q (some ⟨bA, oA, none⟩) q ca (some ⟨bB, oB, none⟩) q cb B cap (clsN c1 q + 1) q 0 0 true c1 w4) :=
    ⟨by simp, by rw [← hc1]; exact LWm.start hx hy, (fun e => by cases e), by rw [← hc1]; exact ho4, HL3.out.far hg4 (fun e => by injection e with e; omega), (hg4.cell_far ⟨w.heap.size + 1, 0, none⟩ (World.block_lt_of_cell? _ _ HX3.out) (fun e => hXB (Option.some.inj e))).trans HX3.out, HB3.out.grown hg4 HB3.out.size (fun k hk => by injection hk with hk; omega)⟩
  clear ho4 hg4 hc1 HO3 HX3 HL3 HB3 HR0
  go_wp2_with fail
  go_loopg [10] (clsN c1 q + 1) (fun gk v wx => ∃ (ag : Bool) (c : Nat → Nat), v = .bool ag ∧ Hid (RL w w.heap.size q m j c0 x y q (some ⟨bA, oA, none⟩) q ca (some ⟨bB, oB, none⟩) q cb B cap gk q 0 0 ag c wx))
  case atStart => exact ⟨true, c1, rfl, HI4.out⟩
  case round =>
    obtain ⟨ag, c, rfl, HI0⟩ := hrel
    clear HI4
    cases ag
    · have HLW : Hid (LeastW q m j c0 x y c) := HI0.out.lw.done (HI0.out.part rfl).con
      have HOW : Hid (Own wr B q c) := HI0.out.own
      have HBE : Hid (Below w.heap.size w wr) := HI0.out.bel
      have hrw := HI0.out.rw
      clear HI0
      go_wp2_with fail
      refine (renumber_any (some ⟨B, 0, none⟩) q cap c wr h40 HOW.out.row).mono ?_
      rintro e w9 ⟨⟨v, rfl, hv⟩, hb9⟩
      have HV : Hid (w9.ownsRow w.heap.size 3 1 v q (natVals (numL c q))) := owns_base hv HBE.out.size
      have HB9 : Hid (Below w.heap.size w w9) := Below.then HBE.out hb9
      clear hv hb9 HBE hrw
      go_wp2_with fail
      go_ret
      exact ⟨⟨_, c, rfl, HLW.out, HV.out⟩, HB9.out⟩
    · have hgk : clsN c q + 1 ≤ gk := by have := HI0.out.cnt; simpa using this
      obtain ⟨D, hD⟩ : ∃ D, D = gk - 1 := ⟨_, rfl⟩
      have HIS : Hid (RL w w.heap.size q m j c0 x y q (some ⟨bA, oA, none⟩) q ca (some ⟨bB, oB, none⟩) q cb B cap D 0 0 0 false c wr) := ⟨by simp; omega, HI0.out.lw, (fun _ x y t _ _ _ h => by omega), HI0.out.own, HI0.out.bx, HI0.out.rw, HI0.out.bel⟩
      have hDg : D < gk := by omega
      clear HI0 hD hgk
      go_wp2_with fail
      go_loopw [10, 11] (fun v t wx => ∃ (a : Nat) (ag : Bool) (c : Nat → Nat), a ≤ q ∧ t = .int .i64 a ∧ v = .bool ag ∧ Hid (RL w w.heap.size q m j c0 x y q (some ⟨bA, oA, none⟩) q ca (some ⟨bB, oB, none⟩) q cb B cap D a 0 0 ag c wx)) (fun _ t _ => q - (intOf t).toNat)
      case atStart => exact ⟨0, false, c, Nat.zero_le _, rfl, rfl, HIS.out⟩
      case round =>
        clear HIS
        obtain ⟨a, ag, c, ha, rfl, rfl, HI1'⟩ := hrel
        have l0 := HI1'.out.bx.1
        by_cases hal : a < q
        · have hax : (a : Int) < (q : Int) := by omega
          go_wp2_with fail
          clear l0
          go_loopw [10, 12] (fun v t wx => ∃ (b : Nat) (ag : Bool) (c : Nat → Nat), b ≤ a ∧ t = .int .i64 b ∧ v = .bool ag ∧ Hid (RL w w.heap.size q m j c0 x y q (some ⟨bA, oA, none⟩) q ca (some ⟨bB, oB, none⟩) q cb B cap D a b 0 ag c wx)) (fun _ t _ => a - (intOf t).toNat)
          case atStart => exact ⟨0, ag, c, Nat.zero_le _, rfl, rfl, HI1'.out⟩
          case round =>
            clear HI1'
            obtain ⟨b, ag, c, hb, rfl, rfl, HI2'⟩ := hrel
            by_cases hbl : b < a
            · have hbx : (b : Int) < (a : Int) := by omega
              go_wp2_with fail
              go_loopw [10, 13] (fun v t wx => ∃ (b3 : Nat) (ag : Bool) (c : Nat → Nat), b3 ≤ q ∧ t = .int .i64 b3 ∧ v = .bool ag ∧ Hid (RL w w.heap.size q m j c0 x y q (some ⟨bA, oA, none⟩) q ca (some ⟨bB, oB, none⟩) q cb B cap D a b b3 ag c wx)) (fun _ t _ => q - (intOf t).toNat)
              case atStart => exact ⟨0, ag, c, Nat.zero_le _, rfl, rfl, HI2'.out⟩
              case round =>
                clear HI2'
                obtain ⟨b3, ag, c, hb3, rfl, rfl, HI⟩ := hrel
                have l0 := HI.out.bx.1
                have hbq : b < q := by omega
                have hbxq : (b : Int) < (q : Int) := by omega
                have d0 := HI.out.rw
                have d1 := (HI.out.own a hal).1
                have d2 := (HI.out.own b hbq).1
                by_cases hz : b3 < q
                · have hzx : (b3 : Int) < (q : Int) := by omega
                  have g3 : decide ((b3 : Int) < (q : Int)) = true := by simpa using hz
                  by_cases hcab : c a = c b
                  · have g4 : (((c a : Nat) : Int) == ((c b : Nat) : Int)) = true := by rw [hcab]; simp
                    have HCAB : Hid (c a = c b) := hcab
                    clear hcab
                    go_wp2_with fail
                    go_big_quiet (fail)
                    have hu1 := HI1.out a b3 hal hz
                    have hv1 := HI1.out b b3 hbq hz
                    have hu2 := HI2.out a b3 hal hz
                    have hv2 := HI2.out b b3 hbq hz
                    have HDN := HI.out.drew nq
                    clear HI d0 d1 d2 l0 g4
                    generalize wr.drewN nq = wr at *
                    have HD : Hid (RL w w.heap.size q m j c0 x y q (some ⟨bA, oA, none⟩) q ca (some ⟨bB, oB, none⟩) q cb B cap D a b b3 ag c wr.drew) := HDN.drew1
                    have KK : Kp w q (some ⟨bA, oA, none⟩) ca (some ⟨bB, oB, none⟩) cb wr.drew := ⟨HD.out.bx, HD.out.bel⟩
                    clear HDN
                    have f1 : ∀ w' : World, Kp w q (some ⟨bA, oA, none⟩) ca (some ⟨bB, oB, none⟩) cb w' → w'.cell? ⟨w.heap.size, 1, none⟩ = some (.slice (some ⟨bA, oA, none⟩) q ca) := fun _ h => h.c1
                    have f2 : ∀ w' : World, Kp w q (some ⟨bA, oA, none⟩) ca (some ⟨bB, oB, none⟩) cb w' → w'.cell? ⟨w.heap.size, 2, none⟩ = some (.slice (some ⟨bB, oB, none⟩) q cb) := fun _ h => h.c2
                    have f3 : ∀ w' : World, Kp w q (some ⟨bA, oA, none⟩) ca (some ⟨bB, oB, none⟩) cb w' → w'.cell? ⟨bA, oA + a, none⟩ = some (.slice (some ⟨(R a).1, (R a).2.1, none⟩) q (R a).2.2) := fun _ h => ((HT1.out.step h.2) a hal).1
                    have f4 : ∀ w' : World, Kp w q (some ⟨bA, oA, none⟩) ca (some ⟨bB, oB, none⟩) cb w' → w'.cell? ⟨bA, oA + b, none⟩ = some (.slice (some ⟨(R b).1, (R b).2.1, none⟩) q (R b).2.2) := fun _ h => ((HT1.out.step h.2) b hbq).1
                    have f5 : ∀ w' : World, Kp w q (some ⟨bA, oA, none⟩) ca (some ⟨bB, oB, none⟩) cb w' → w'.cell? ⟨bB, oB + a, none⟩ = some (.slice (some ⟨(R' a).1, (R' a).2.1, none⟩) q (R' a).2.2) := fun _ h => ((HT2.out.step h.2) a hal).1
                    have f6 : ∀ w' : World, Kp w q (some ⟨bA, oA, none⟩) ca (some ⟨bB, oB, none⟩) cb w' → w'.cell? ⟨bB, oB + b, none⟩ = some (.slice (some ⟨(R' b).1, (R' b).2.1, none⟩) q (R' b).2.2) := fun _ h => ((HT2.out.step h.2) b hbq).1
                    have f7 : ∀ w' : World, Kp w q (some ⟨bA, oA, none⟩) ca (some ⟨bB, oB, none⟩) cb w' → w'.cell? ⟨(R a).1, (R a).2.1 + b3, none⟩ = some (.int .i64 (m a b3 : Nat)) := fun _ h => ((HT1.out.step h.2) a hal).2 b3 hz
                    have f8 : ∀ w' : World, Kp w q (some ⟨bA, oA, none⟩) ca (some ⟨bB, oB, none⟩) cb w' → w'.cell? ⟨(R b).1, (R b).2.1 + b3, none⟩ = some (.int .i64 (m b b3 : Nat)) := fun _ h => ((HT1.out.step h.2) b hbq).2 b3 hz
                    have f9 : ∀ w' : World, Kp w q (some ⟨bA, oA, none⟩) ca (some ⟨bB, oB, none⟩) cb w' → w'.cell? ⟨(R' a).1, (R' a).2.1 + b3, none⟩ = some (.int .i64 (j a b3 : Nat)) := fun _ h => ((HT2.out.step h.2) a hal).2 b3 hz
                    have f10 : ∀ w' : World, Kp w q (some ⟨bA, oA, none⟩) ca (some ⟨bB, oB, none⟩) cb w' → w'.cell? ⟨(R' b).1, (R' b).2.1 + b3, none⟩ = some (.int .i64 (j b b3 : Nat)) := fun _ h => ((HT2.out.step h.2) b hbq).2 b3 hz
                    have HG1 : Hid (∀ d, Con q m j d → Ker q c d → d (m a b3) = d (m b b3)) := fun d hd hk => (hd a b b3 hal hbq hz (hk a b hal hbq HCAB.out)).1
                    have HG2 : Hid (∀ d, Con q m j d → Ker q c d → d (j a b3) = d (j b b3)) := fun d hd hk => (hd a b b3 hal hbq hz (hk a b hal hbq HCAB.out)).2
                    by_cases he1 : c (m a b3) = c (m b b3)
                    · have hl1 : (!(c (m a b3) == c (m b b3))) = false := by simp [he1]
                      by_cases he2 : c (j a b3) = c (j b b3)
                      · have hl2 : (!(c (j a b3) == c (j b b3))) = false := by simp [he2]
                        have HE12 : Hid (c (m a b3) = c (m b b3) ∧ c (j a b3) = c (j b b3)) := ⟨he1, he2⟩
                        as_aux_lemma =>
                          go_wp2_with fail
                          refine wp_region_held_drew (S := (fun w' => Kp w q (some ⟨bA, oA, none⟩) ca (some ⟨bB, oB, none⟩) cb w')) (by kernel_rfl) (KK) (fun hHeld => ?_)
                          refine wpAnyH_take (i := 0) (oi := { dst := some 51, op := Go.Op.move (Go.Operand.tmp 9), type := 57, pos := "quotient.go:72", after := #[], guard := none }) (v := ?_) rfl (by kernel_rfl) (by kernel_rfl) (by kernel_rfl) (fun _ _ _ h => h) (Or.inl ⟨by rfl, ?hy⟩) (by assumption) ?_
                          case hy => (intro w9 hSw; (try dsimp only at hSw); go_simp; try with_reducible rfl)
                          try simp only [Act.put, List.setIfInBounds_toArray, List.set_cons_zero, List.set_cons_succ]
                          refine wpAnyH_take (i := 1) (oi := { dst := some 52, op := Go.Op.fieldAddr 24 (Go.Operand.tmp 4) 1, type := 0, pos := "quotient.go:72", after := #[], guard := none }) (v := ?_) rfl (by kernel_rfl) (by kernel_rfl) (by kernel_rfl) (fun _ _ _ h => h) (Or.inl ⟨by rfl, ?hy⟩) (by assumption) ?_
                          case hy => (intro w9 hSw; (try dsimp only at hSw); go_simp; try with_reducible rfl)
                          try simp only [Act.put, List.setIfInBounds_toArray, List.set_cons_zero, List.set_cons_succ]
                          refine wpAnyH_take (i := 2) (oi := { dst := some 53, op := Go.Op.load 22 (Go.Operand.tmp 52), type := 22, pos := "quotient.go:72", after := #[{ on := 1, ground := Go.Ground.data }], guard := none }) (v := ?_) rfl (by kernel_rfl) (by kernel_rfl) (by kernel_rfl) (fun _ _ _ h => h) (Or.inl ⟨by rfl, ?hy⟩) (by assumption) ?_
                          case hy => (intro w9 hSw; (try dsimp only at hSw); go_simp; try with_reducible rfl)
                          try simp only [Act.put, List.setIfInBounds_toArray, List.set_cons_zero, List.set_cons_succ]
                          refine wpAnyH_take (i := 3) (oi := { dst := some 54, op := Go.Op.move (Go.Operand.tmp 11), type := 3, pos := "quotient.go:72", after := #[], guard := none }) (v := ?_) rfl (by kernel_rfl) (by kernel_rfl) (by kernel_rfl) (fun _ _ _ h => h) (Or.inl ⟨by rfl, ?hy⟩) (by assumption) ?_
                          case hy => (intro w9 hSw; (try dsimp only at hSw); go_simp; try with_reducible rfl)
                          try simp only [Act.put, List.setIfInBounds_toArray, List.set_cons_zero, List.set_cons_succ]
                          refine wpAnyH_take (i := 4) (oi := { dst := some 55, op := Go.Op.indexAddr 22 (Go.Operand.tmp 53) (Go.Operand.tmp 54), type := 0, pos := "quotient.go:72", after := #[{ on := 2, ground := Go.Ground.data }, { on := 3, ground := Go.Ground.data }], guard := none }) (v := ?_) rfl (by kernel_rfl) (by kernel_rfl) (by kernel_rfl) (fun _ _ _ h => h) (Or.inl ⟨by rfl, ?hy⟩) (by assumption) ?_
                          case hy => (intro w9 hSw; (try dsimp only at hSw); go_simp; try with_reducible rfl)
                          try simp only [Act.put, List.setIfInBounds_toArray, List.set_cons_zero, List.set_cons_succ]
                          refine wpAnyH_take (i := 5) (oi := { dst := some 56, op := Go.Op.load 25 (Go.Operand.tmp 55), type := 25, pos := "quotient.go:72", after := #[{ on := 4, ground := Go.Ground.data }], guard := none }) (v := ?_) rfl (by kernel_rfl) (by kernel_rfl) (by kernel_rfl) (fun _ _ _ h => h) (Or.inl ⟨by rfl, ?hy⟩) (by assumption) ?_
                          case hy => (intro w9 hSw; (try dsimp only at hSw); go_simp; try with_reducible rfl)
                          try simp only [Act.put, List.setIfInBounds_toArray, List.set_cons_zero, List.set_cons_succ]
                          refine wpAnyH_take (i := 6) (oi := { dst := some 57, op := Go.Op.move (Go.Operand.tmp 13), type := 3, pos := "quotient.go:72", after := #[], guard := none }) (v := ?_) rfl (by kernel_rfl) (by kernel_rfl) (by kernel_rfl) (fun _ _ _ h => h) (Or.inl ⟨by rfl, ?hy⟩) (by assumption) ?_
                          case hy => (intro w9 hSw; (try dsimp only at hSw); go_simp; try with_reducible rfl)
                          try simp only [Act.put, List.setIfInBounds_toArray, List.set_cons_zero, List.set_cons_succ]
                          refine wpAnyH_take (i := 7) (oi := { dst := some 58, op := Go.Op.indexAddr 25 (Go.Operand.tmp 56) (Go.Operand.tmp 57), type := 0, pos := "quotient.go:72", after := #[{ on := 5, ground := Go.Ground.data }, { on := 6, ground := Go.Ground.data }], guard := none }) (v := ?_) rfl (by kernel_rfl) (by kernel_rfl) (by kernel_rfl) (fun _ _ _ h => h) (Or.inl ⟨by rfl, ?hy⟩) (by assumption) ?_
                          case hy => (intro w9 hSw; (try dsimp only at hSw); go_simp; try with_reducible rfl)
                          try simp only [Act.put, List.setIfInBounds_toArray, List.set_cons_zero, List.set_cons_succ]
                          refine wpAnyH_take (i := 8) (oi := { dst := some 59, op := Go.Op.load 3 (Go.Operand.tmp 58), type := 3, pos := "quotient.go:72", after := #[{ on := 7, ground := Go.Ground.data }], guard := none }) (v := ?_) rfl (by kernel_rfl) (by kernel_rfl) (by kernel_rfl) (fun _ _ _ h => h) (Or.inl ⟨by rfl, ?hy⟩) (by assumption) ?_
                          case hy => (intro w9 hSw; (try dsimp only at hSw); go_simp; try with_reducible rfl)
                          try simp only [Act.put, List.setIfInBounds_toArray, List.set_cons_zero, List.set_cons_succ]
                          refine wpAnyH_take (i := 9) (oi := { dst := some 60, op := Go.Op.fieldAddr 24 (Go.Operand.tmp 4) 1, type := 0, pos := "quotient.go:72", after := #[], guard := none }) (v := ?_) rfl (by kernel_rfl) (by kernel_rfl) (by kernel_rfl) (fun _ _ _ h => h) (Or.inl ⟨by rfl, ?hy⟩) (by assumption) ?_
                          case hy => (intro w9 hSw; (try dsimp only at hSw); go_simp; try with_reducible rfl)
                          try simp only [Act.put, List.setIfInBounds_toArray, List.set_cons_zero, List.set_cons_succ]
                          refine wpAnyH_take (i := 10) (oi := { dst := some 61, op := Go.Op.load 22 (Go.Operand.tmp 60), type := 22, pos := "quotient.go:72", after := #[{ on := 9, ground := Go.Ground.data }], guard := none }) (v := ?_) rfl (by kernel_rfl) (by kernel_rfl) (by kernel_rfl) (fun _ _ _ h => h) (Or.inl ⟨by rfl, ?hy⟩) (by assumption) ?_
                          case hy => (intro w9 hSw; (try dsimp only at hSw); go_simp; try with_reducible rfl)
                          try simp only [Act.put, List.setIfInBounds_toArray, List.set_cons_zero, List.set_cons_succ]
                          refine wpAnyH_take (i := 11) (oi := { dst := some 62, op := Go.Op.move (Go.Operand.tmp 12), type := 3, pos := "quotient.go:72", after := #[], guard := none }) (v := ?_) rfl (by kernel_rfl) (by kernel_rfl) (by kernel_rfl) (fun _ _ _ h => h) (Or.inl ⟨by rfl, ?hy⟩) (by assumption) ?_
                          case hy => (intro w9 hSw; (try dsimp only at hSw); go_simp; try with_reducible rfl)
                          try simp only [Act.put, List.setIfInBounds_toArray, List.set_cons_zero, List.set_cons_succ]
                          refine wpAnyH_take (i := 12) (oi := { dst := some 63, op := Go.Op.indexAddr 22 (Go.Operand.tmp 61) (Go.Operand.tmp 62), type := 0, pos := "quotient.go:72", after := #[{ on := 10, ground := Go.Ground.data }, { on := 11, ground := Go.Ground.data }], guard := none }) (v := ?_) rfl (by kernel_rfl) (by kernel_rfl) (by kernel_rfl) (fun _ _ _ h => h) (Or.inl ⟨by rfl, ?hy⟩) (by assumption) ?_
                          case hy => (intro w9 hSw; (try dsimp only at hSw); go_simp; try with_reducible rfl)
                          try simp only [Act.put, List.setIfInBounds_toArray, List.set_cons_zero, List.set_cons_succ]
                          refine wpAnyH_take (i := 13) (oi := { dst := some 64, op := Go.Op.load 25 (Go.Operand.tmp 63), type := 25, pos := "quotient.go:72", after := #[{ on := 12, ground := Go.Ground.data }], guard := none }) (v := ?_) rfl (by kernel_rfl) (by kernel_rfl) (by kernel_rfl) (fun _ _ _ h => h) (Or.inl ⟨by rfl, ?hy⟩) (by assumption) ?_
                          case hy => (intro w9 hSw; (try dsimp only at hSw); go_simp; try with_reducible rfl)
                          try simp only [Act.put, List.setIfInBounds_toArray, List.set_cons_zero, List.set_cons_succ]
                          refine wpAnyH_take (i := 14) (oi := { dst := some 65, op := Go.Op.move (Go.Operand.tmp 13), type := 3, pos := "quotient.go:72", after := #[], guard := none }) (v := ?_) rfl (by kernel_rfl) (by kernel_rfl) (by kernel_rfl) (fun _ _ _ h => h) (Or.inl ⟨by rfl, ?hy⟩) (by assumption) ?_
                          case hy => (intro w9 hSw; (try dsimp only at hSw); go_simp; try with_reducible rfl)
                          try simp only [Act.put, List.setIfInBounds_toArray, List.set_cons_zero, List.set_cons_succ]
                          refine wpAnyH_take (i := 15) (oi := { dst := some 66, op := Go.Op.indexAddr 25 (Go.Operand.tmp 64) (Go.Operand.tmp 65), type := 0, pos := "quotient.go:72", after := #[{ on := 13, ground := Go.Ground.data }, { on := 14, ground := Go.Ground.data }], guard := none }) (v := ?_) rfl (by kernel_rfl) (by kernel_rfl) (by kernel_rfl) (fun _ _ _ h => h) (Or.inl ⟨by rfl, ?hy⟩) (by assumption) ?_
                          case hy => (intro w9 hSw; (try dsimp only at hSw); go_simp; try with_reducible rfl)
                          try simp only [Act.put, List.setIfInBounds_toArray, List.set_cons_zero, List.set_cons_succ]
                          refine wpAnyH_take (i := 16) (oi := { dst := some 67, op := Go.Op.load 3 (Go.Operand.tmp 66), type := 3, pos := "quotient.go:72", after := #[{ on := 15, ground := Go.Ground.data }], guard := none }) (v := ?_) rfl (by kernel_rfl) (by kernel_rfl) (by kernel_rfl) (fun _ _ _ h => h) (Or.inl ⟨by rfl, ?hy⟩) (by assumption) ?_
                          case hy => (intro w9 hSw; (try dsimp only at hSw); go_simp; try with_reducible rfl)
                          try simp only [Act.put, List.setIfInBounds_toArray, List.set_cons_zero, List.set_cons_succ]
                          refine wpAnyH_ready (rs := [17]) (by kernel_rfl) (by simp) ?_
                          refine AllReadyH.cons (o := { dst := some 68, op := Go.Op.call { callee := Go.Callee.value (Go.Operand.tmp 51), args := #[Go.Operand.tmp 59, Go.Operand.tmp 67], argTypes := #[3, 3] }, type := 4, pos := "quotient.go:72", after := #[{ on := 0, ground := Go.Ground.data }, { on := 8, ground := Go.Ground.data }, { on := 16, ground := Go.Ground.data }], guard := none }) rfl (fun K hK => ?_) AllReadyH.nil
                          go_simp
                          refine (leastWith1_lit (w.heap.size + 1) q B cap c (m a b3) (m b b3) _ false h40 hu1 hv1 hXB HD.out.rw HD.out.own hl1).mono ?_
                          rintro e w5 ⟨rfl, ho5, hg5⟩
                          refine hK.out _ _ ?_ (fun hHeld => ?_)
                          · exact ⟨(HD.out.wrote hBX hwB hg5).1, (HD.out.wrote hBX hwB hg5).2.2⟩
                          clear hK K
                          try simp only [Act.put, List.setIfInBounds_toArray, List.set_cons_zero, List.set_cons_succ]
                          have HE : Hid (RL w w.heap.size q m j c0 x y q (some ⟨bA, oA, none⟩) q ca (some ⟨bB, oB, none⟩) q cb B cap D a b b3 ag c w5) := HD.out.same hBX hwB hg5 ho5 he1
                          refine wpAnyH_take (i := 18) (oi := { dst := some 69, op := Go.Op.move (Go.Operand.tmp 68), type := 4, pos := "quotient.go:72", after := #[{ on := 17, ground := Go.Ground.data }, { on := 17, ground := Go.Ground.chain }], guard := none }) (v := ?_) rfl (by kernel_rfl) (by kernel_rfl) (by kernel_rfl) (fun _ _ _ h => h) (Or.inl ⟨by rfl, ?hy⟩) (by assumption) ?_
                          case hy => (intro w9 hSw; (try dsimp only at hSw); go_simp; try with_reducible rfl)
                          try simp only [Act.put, List.setIfInBounds_toArray, List.set_cons_zero, List.set_cons_succ]
                          refine wpAnyH_take (i := 19) (oi := { dst := some 70, op := Go.Op.move (Go.Operand.tmp 9), type := 57, pos := "quotient.go:72", after := #[{ on := 18, ground := Go.Ground.guard }], guard := some (18, false) }) (v := ?_) rfl (by kernel_rfl) (by kernel_rfl) (by kernel_rfl) (fun _ _ _ h => h) (Or.inl ⟨by rfl, ?hy⟩) (by assumption) ?_
                          case hy => (intro w9 hSw; (try dsimp only at hSw); go_simp; try with_reducible rfl)
                          try simp only [Act.put, List.setIfInBounds_toArray, List.set_cons_zero, List.set_cons_succ]
                          refine wpAnyH_take (i := 20) (oi := { dst := some 71, op := Go.Op.fieldAddr 24 (Go.Operand.tmp 4) 2, type := 0, pos := "quotient.go:72", after := #[{ on := 18, ground := Go.Ground.guard }], guard := some (18, false) }) (v := ?_) rfl (by kernel_rfl) (by kernel_rfl) (by kernel_rfl) (fun _ _ _ h => h) (Or.inl ⟨by rfl, ?hy⟩) (by assumption) ?_
                          case hy => (intro w9 hSw; (try dsimp only at hSw); go_simp; try with_reducible rfl)
                          try simp only [Act.put, List.setIfInBounds_toArray, List.set_cons_zero, List.set_cons_succ]
                          refine wpAnyH_take (i := 21) (oi := { dst := some 72, op := Go.Op.load 22 (Go.Operand.tmp 71), type := 22, pos := "quotient.go:72", after := #[{ on := 20, ground := Go.Ground.data }, { on := 18, ground := Go.Ground.guard }], guard := some (18, false) }) (v := ?_) rfl (by kernel_rfl) (by kernel_rfl) (by kernel_rfl) (fun _ _ _ h => h) (Or.inl ⟨by rfl, ?hy⟩) (by assumption) ?_
                          case hy => (intro w9 hSw; (try dsimp only at hSw); go_simp; try with_reducible rfl)
                          try simp only [Act.put, List.setIfInBounds_toArray, List.set_cons_zero, List.set_cons_succ]
                          refine wpAnyH_take (i := 22) (oi := { dst := some 73, op := Go.Op.move (Go.Operand.tmp 11), type := 3, pos := "quotient.go:72", after := #[{ on := 18, ground := Go.Ground.guard }], guard := some (18, false) }) (v := ?_) rfl (by kernel_rfl) (by kernel_rfl) (by kernel_rfl) (fun _ _ _ h => h) (Or.inl ⟨by rfl, ?hy⟩) (by assumption) ?_
                          case hy => (intro w9 hSw; (try dsimp only at hSw); go_simp; try with_reducible rfl)
                          try simp only [Act.put, List.setIfInBounds_toArray, List.set_cons_zero, List.set_cons_succ]
                          refine wpAnyH_take (i := 23) (oi := { dst := some 74, op := Go.Op.indexAddr 22 (Go.Operand.tmp 72) (Go.Operand.tmp 73), type := 0, pos := "quotient.go:72", after := #[{ on := 21, ground := Go.Ground.data }, { on := 22, ground := Go.Ground.data }, { on := 18, ground := Go.Ground.guard }], guard := some (18, false) }) (v := ?_) rfl (by kernel_rfl) (by kernel_rfl) (by kernel_rfl) (fun _ _ _ h => h) (Or.inl ⟨by rfl, ?hy⟩) (by assumption) ?_
                          case hy => (intro w9 hSw; (try dsimp only at hSw); go_simp; try with_reducible rfl)
                          try simp only [Act.put, List.setIfInBounds_toArray, List.set_cons_zero, List.set_cons_succ]
                          refine wpAnyH_take (i := 24) (oi := { dst := some 75, op := Go.Op.load 25 (Go.Operand.tmp 74), type := 25, pos := "quotient.go:72", after := #[{ on := 23, ground := Go.Ground.data }, { on := 18, ground := Go.Ground.guard }], guard := some (18, false) }) (v := ?_) rfl (by kernel_rfl) (by kernel_rfl) (by kernel_rfl) (fun _ _ _ h => h) (Or.inl ⟨by rfl, ?hy⟩) (by assumption) ?_
                          case hy => (intro w9 hSw; (try dsimp only at hSw); go_simp; try with_reducible rfl)
                          try simp only [Act.put, List.setIfInBounds_toArray, List.set_cons_zero, List.set_cons_succ]
                          refine wpAnyH_take (i := 25) (oi := { dst := some 76, op := Go.Op.move (Go.Operand.tmp 13), type := 3, pos := "quotient.go:72", after := #[{ on := 18, ground := Go.Ground.guard }], guard := some (18, false) }) (v := ?_) rfl (by kernel_rfl) (by kernel_rfl) (by kernel_rfl) (fun _ _ _ h => h) (Or.inl ⟨by rfl, ?hy⟩) (by assumption) ?_
                          case hy => (intro w9 hSw; (try dsimp only at hSw); go_simp; try with_reducible rfl)
                          try simp only [Act.put, List.setIfInBounds_toArray, List.set_cons_zero, List.set_cons_succ]
                          refine wpAnyH_take (i := 26) (oi := { dst := some 77, op := Go.Op.indexAddr 25 (Go.Operand.tmp 75) (Go.Operand.tmp 76), type := 0, pos := "quotient.go:72", after := #[{ on := 24, ground := Go.Ground.data }, { on := 25, ground := Go.Ground.data }, { on := 18, ground := Go.Ground.guard }], guard := some (18, false) }) (v := ?_) rfl (by kernel_rfl) (by kernel_rfl) (by kernel_rfl) (fun _ _ _ h => h) (Or.inl ⟨by rfl, ?hy⟩) (by assumption) ?_
                          case hy => (intro w9 hSw; (try dsimp only at hSw); go_simp; try with_reducible rfl)
                          try simp only [Act.put, List.setIfInBounds_toArray, List.set_cons_zero, List.set_cons_succ]
                          refine wpAnyH_take (i := 27) (oi := { dst := some 78, op := Go.Op.load 3 (Go.Operand.tmp 77), type := 3, pos := "quotient.go:72", after := #[{ on := 26, ground := Go.Ground.data }, { on := 18, ground := Go.Ground.guard }], guard := some (18, false) }) (v := ?_) rfl (by kernel_rfl) (by kernel_rfl) (by kernel_rfl) (fun _ _ _ h => h) (Or.inl ⟨by rfl, ?hy⟩) (by assumption) ?_
                          case hy => (intro w9 hSw; (try dsimp only at hSw); go_simp; try with_reducible rfl)
                          try simp only [Act.put, List.setIfInBounds_toArray, List.set_cons_zero, List.set_cons_succ]
                          refine wpAnyH_take (i := 28) (oi := { dst := some 79, op := Go.Op.fieldAddr 24 (Go.Operand.tmp 4) 2, type := 0, pos := "quotient.go:72", after := #[{ on := 18, ground := Go.Ground.guard }], guard := some (18, false) }) (v := ?_) rfl (by kernel_rfl) (by kernel_rfl) (by kernel_rfl) (fun _ _ _ h => h) (Or.inl ⟨by rfl, ?hy⟩) (by assumption) ?_
                          case hy => (intro w9 hSw; (try dsimp only at hSw); go_simp; try with_reducible rfl)
                          try simp only [Act.put, List.setIfInBounds_toArray, List.set_cons_zero, List.set_cons_succ]
                          refine wpAnyH_take (i := 29) (oi := { dst := some 80, op := Go.Op.load 22 (Go.Operand.tmp 79), type := 22, pos := "quotient.go:72", after := #[{ on := 28, ground := Go.Ground.data }, { on := 18, ground := Go.Ground.guard }], guard := some (18, false) }) (v := ?_) rfl (by kernel_rfl) (by kernel_rfl) (by kernel_rfl) (fun _ _ _ h => h) (Or.inl ⟨by rfl, ?hy⟩) (by assumption) ?_
                          case hy => (intro w9 hSw; (try dsimp only at hSw); go_simp; try with_reducible rfl)
                          try simp only [Act.put, List.setIfInBounds_toArray, List.set_cons_zero, List.set_cons_succ]
                          refine wpAnyH_take (i := 30) (oi := { dst := some 81, op := Go.Op.move (Go.Operand.tmp 12), type := 3, pos := "quotient.go:72", after := #[{ on := 18, ground := Go.Ground.guard }], guard := some (18, false) }) (v := ?_) rfl (by kernel_rfl) (by kernel_rfl) (by kernel_rfl) (fun _ _ _ h => h) (Or.inl ⟨by rfl, ?hy⟩) (by assumption) ?_
                          case hy => (intro w9 hSw; (try dsimp only at hSw); go_simp; try with_reducible rfl)
                          try simp only [Act.put, List.setIfInBounds_toArray, List.set_cons_zero, List.set_cons_succ]
                          refine wpAnyH_take (i := 31) (oi := { dst := some 82, op := Go.Op.indexAddr 22 (Go.Operand.tmp 80) (Go.Operand.tmp 81), type := 0, pos := "quotient.go:72", after := #[{ on := 29, ground := Go.Ground.data }, { on := 30, ground := Go.Ground.data }, { on := 18, ground := Go.Ground.guard }], guard := some (18, false) }) (v := ?_) rfl (by kernel_rfl) (by kernel_rfl) (by kernel_rfl) (fun _ _ _ h => h) (Or.inl ⟨by rfl, ?hy⟩) (by assumption) ?_
                          case hy => (intro w9 hSw; (try dsimp only at hSw); go_simp; try with_reducible rfl)
                          try simp only [Act.put, List.setIfInBounds_toArray, List.set_cons_zero, List.set_cons_succ]
                          refine wpAnyH_take (i := 32) (oi := { dst := some 83, op := Go.Op.load 25 (Go.Operand.tmp 82), type := 25, pos := "quotient.go:72", after := #[{ on := 31, ground := Go.Ground.data }, { on := 18, ground := Go.Ground.guard }], guard := some (18, false) }) (v := ?_) rfl (by kernel_rfl) (by kernel_rfl) (by kernel_rfl) (fun _ _ _ h => h) (Or.inl ⟨by rfl, ?hy⟩) (by assumption) ?_
                          case hy => (intro w9 hSw; (try dsimp only at hSw); go_simp; try with_reducible rfl)
                          try simp only [Act.put, List.setIfInBounds_toArray, List.set_cons_zero, List.set_cons_succ]
                          refine wpAnyH_take (i := 33) (oi := { dst := some 84, op := Go.Op.move (Go.Operand.tmp 13), type := 3, pos := "quotient.go:72", after := #[{ on := 18, ground := Go.Ground.guard }], guard := some (18, false) }) (v := ?_) rfl (by kernel_rfl) (by kernel_rfl) (by kernel_rfl) (fun _ _ _ h => h) (Or.inl ⟨by rfl, ?hy⟩) (by assumption) ?_
                          case hy => (intro w9 hSw; (try dsimp only at hSw); go_simp; try with_reducible rfl)
                          try simp only [Act.put, List.setIfInBounds_toArray, List.set_cons_zero, List.set_cons_succ]
                          refine wpAnyH_take (i := 34) (oi := { dst := some 85, op := Go.Op.indexAddr 25 (Go.Operand.tmp 83) (Go.Operand.tmp 84), type := 0, pos := "quotient.go:72", after := #[{ on := 32, ground := Go.Ground.data }, { on := 33, ground := Go.Ground.data }, { on := 18, ground := Go.Ground.guard }], guard := some (18, false) }) (v := ?_) rfl (by kernel_rfl) (by kernel_rfl) (by kernel_rfl) (fun _ _ _ h => h) (Or.inl ⟨by rfl, ?hy⟩) (by assumption) ?_
                          case hy => (intro w9 hSw; (try dsimp only at hSw); go_simp; try with_reducible rfl)
                          try simp only [Act.put, List.setIfInBounds_toArray, List.set_cons_zero, List.set_cons_succ]
                          refine wpAnyH_take (i := 35) (oi := { dst := some 86, op := Go.Op.load 3 (Go.Operand.tmp 85), type := 3, pos := "quotient.go:72", after := #[{ on := 34, ground := Go.Ground.data }, { on := 18, ground := Go.Ground.guard }], guard := some (18, false) }) (v := ?_) rfl (by kernel_rfl) (by kernel_rfl) (by kernel_rfl) (fun _ _ _ h => h) (Or.inl ⟨by rfl, ?hy⟩) (by assumption) ?_
                          case hy => (intro w9 hSw; (try dsimp only at hSw); go_simp; try with_reducible rfl)
                          try simp only [Act.put, List.setIfInBounds_toArray, List.set_cons_zero, List.set_cons_succ]
                          refine wpAnyH_ready (rs := [36]) (by kernel_rfl) (by simp) ?_
                          refine AllReadyH.cons (o := { dst := some 87, op := Go.Op.call { callee := Go.Callee.value (Go.Operand.tmp 70), args := #[Go.Operand.tmp 78, Go.Operand.tmp 86], argTypes := #[3, 3] }, type := 4, pos := "quotient.go:72", after := #[{ on := 19, ground := Go.Ground.data }, { on := 27, ground := Go.Ground.data }, { on := 35, ground := Go.Ground.data }, { on := 18, ground := Go.Ground.chain }, { on := 18, ground := Go.Ground.guard }], guard := some (18, false) }) rfl (fun K hK => ?_) AllReadyH.nil
                          go_simp
                          refine (leastWith1_lit (w.heap.size + 1) q B cap c (j a b3) (j b b3) _ false h40 hu2 hv2 hXB HE.out.rw HE.out.own hl2).mono ?_
                          rintro e w6 ⟨rfl, ho6, hg6⟩
                          refine hK.out _ _ ?_ (fun hHeld => ?_)
                          · exact ⟨(HE.out.wrote hBX hwB hg6).1, (HE.out.wrote hBX hwB hg6).2.2⟩
                          clear hK K
                          try simp only [Act.put, List.setIfInBounds_toArray, List.set_cons_zero, List.set_cons_succ]
                          refine wpAnyH_take (i := 37) (oi := { dst := some 88, op := Go.Op.pick (Go.Operand.tmp 69) (Go.Operand.const (Go.Value.bool true)) (Go.Operand.tmp 87), type := 4, pos := "quotient.go:72", after := #[{ on := 18, ground := Go.Ground.data }, { on := 36, ground := Go.Ground.data }], guard := none }) (v := ?_) rfl (by kernel_rfl) (by kernel_rfl) (by kernel_rfl) (fun _ _ _ h => h) (Or.inl ⟨by rfl, ?hy⟩) (by assumption) ?_
                          case hy => (intro w9 hSw; (try dsimp only at hSw); go_simp; try with_reducible rfl)
                          try simp only [Act.put, List.setIfInBounds_toArray, List.set_cons_zero, List.set_cons_succ]
                          refine wpAnyH_done (by kernel_rfl) ?_ _
                          try simp only [Act.put, List.setIfInBounds_toArray, List.set_cons_zero, List.set_cons_succ]
                          have HEND : Hid (RL w w.heap.size q m j c0 x y q (some ⟨bA, oA, none⟩) q ca (some ⟨bB, oB, none⟩) q cb B cap D a b (b3 + 1) ag c w6) := (HE.out.same hBX hwB hg6 ho6 he2).next (fun h => h.z (fun _ => HE12.out))
                          clear HE HD hl1 hl2 he1 he2 HE12 ho5 hg5 ho6 hg6 hHeld KK f1 f2 f3 f4 f5 f6 f7 f8 f9 f10
                          go_wp2_with fail
                          go_roundw
                          case rel => exact ⟨b3 + 1, ag, c, by omega, by go_num, rfl, HEND.out⟩
                          case measure => simp [intOf]; omega
                      · have hl2 : (!(c (j a b3) == c (j b b3))) = true := by simp [he2]
                        as_aux_lemma =>
                          go_wp2_with fail
                          refine wp_region_held_drew (S := (fun w' => Kp w q (some ⟨bA, oA, none⟩) ca (some ⟨bB, oB, none⟩) cb w')) (by kernel_rfl) (KK) (fun hHeld => ?_)
                          refine wpAnyH_take (i := 0) (oi := { dst := some 51, op := Go.Op.move (Go.Operand.tmp 9), type := 57, pos := "quotient.go:72", after := #[], guard := none }) (v := ?_) rfl (by kernel_rfl) (by kernel_rfl) (by kernel_rfl) (fun _ _ _ h => h) (Or.inl ⟨by rfl, ?hy⟩) (by assumption) ?_
                          case hy => (intro w9 hSw; (try dsimp only at hSw); go_simp; try with_reducible rfl)
                          try simp only [Act.put, List.setIfInBounds_toArray, List.set_cons_zero, List.set_cons_succ]
                          refine wpAnyH_take (i := 1) (oi := { dst := some 52, op := Go.Op.fieldAddr 24 (Go.Operand.tmp 4) 1, type := 0, pos := "quotient.go:72", after := #[], guard := none }) (v := ?_) rfl (by kernel_rfl) (by kernel_rfl) (by kernel_rfl) (fun _ _ _ h => h) (Or.inl ⟨by rfl, ?hy⟩) (by assumption) ?_
                          case hy => (intro w9 hSw; (try dsimp only at hSw); go_simp; try with_reducible rfl)
                          try simp only [Act.put, List.setIfInBounds_toArray, List.set_cons_zero, List.set_cons_succ]
                          refine wpAnyH_take (i := 2) (oi := { dst := some 53, op := Go.Op.load 22 (Go.Operand.tmp 52), type := 22, pos := "quotient.go:72", after := #[{ on := 1, ground := Go.Ground.data }], guard := none }) (v := ?_) rfl (by kernel_rfl) (by kernel_rfl) (by kernel_rfl) (fun _ _ _ h => h) (Or.inl ⟨by rfl, ?hy⟩) (by assumption) ?_
                          case hy => (intro w9 hSw; (try dsimp only at hSw); go_simp; try with_reducible rfl)
                          try simp only [Act.put, List.setIfInBounds_toArray, List.set_cons_zero, List.set_cons_succ]
                          refine wpAnyH_take (i := 3) (oi := { dst := some 54, op := Go.Op.move (Go.Operand.tmp 11), type := 3, pos := "quotient.go:72", after := #[], guard := none }) (v := ?_) rfl (by kernel_rfl) (by kernel_rfl) (by kernel_rfl) (fun _ _ _ h => h) (Or.inl ⟨by rfl, ?hy⟩) (by assumption) ?_
                          case hy => (intro w9 hSw; (try dsimp only at hSw); go_simp; try with_reducible rfl)
                          try simp only [Act.put, List.setIfInBounds_toArray, List.set_cons_zero, List.set_cons_succ]
                          refine wpAnyH_take (i := 4) (oi := { dst := some 55, op := Go.Op.indexAddr 22 (Go.Operand.tmp 53) (Go.Operand.tmp 54), type := 0, pos := "quotient.go:72", after := #[{ on := 2, ground := Go.Ground.data }, { on := 3, ground := Go.Ground.data }], guard := none }) (v := ?_) rfl (by kernel_rfl) (by kernel_rfl) (by kernel_rfl) (fun _ _ _ h => h) (Or.inl ⟨by rfl, ?hy⟩) (by assumption) ?_
                          case hy => (intro w9 hSw; (try dsimp only at hSw); go_simp; try with_reducible rfl)
                          try simp only [Act.put, List.setIfInBounds_toArray, List.set_cons_zero, List.set_cons_succ]
                          refine wpAnyH_take (i := 5) (oi := { dst := some 56, op := Go.Op.load 25 (Go.Operand.tmp 55), type := 25, pos := "quotient.go:72", after := #[{ on := 4, ground := Go.Ground.data }], guard := none }) (v := ?_) rfl (by kernel_rfl) (by kernel_rfl) (by kernel_rfl) (fun _ _ _ h => h) (Or.inl ⟨by rfl, ?hy⟩) (by assumption) ?_
                          case hy => (intro w9 hSw; (try dsimp only at hSw); go_simp; try with_reducible rfl)
                          try simp only [Act.put, List.setIfInBounds_toArray, List.set_cons_zero, List.set_cons_succ]
                          refine wpAnyH_take (i := 6) (oi := { dst := some 57, op := Go.Op.move (Go.Operand.tmp 13), type := 3, pos := "quotient.go:72", after := #[], guard := none }) (v := ?_) rfl (by kernel_rfl) (by kernel_rfl) (by kernel_rfl) (fun _ _ _ h => h) (Or.inl ⟨by rfl, ?hy⟩) (by assumption) ?_
                          case hy => (intro w9 hSw; (try dsimp only at hSw); go_simp; try with_reducible rfl)
                          try simp only [Act.put, List.setIfInBounds_toArray, List.set_cons_zero, List.set_cons_succ]
                          refine wpAnyH_take (i := 7) (oi := { dst := some 58, op := Go.Op.indexAddr 25 (Go.Operand.tmp 56) (Go.Operand.tmp 57), type := 0, pos := "quotient.go:72", after := #[{ on := 5, ground := Go.Ground.data }, { on := 6, ground := Go.Ground.data }], guard := none }) (v := ?_) rfl (by kernel_rfl) (by kernel_rfl) (by kernel_rfl) (fun _ _ _ h => h) (Or.inl ⟨by rfl, ?hy⟩) (by assumption) ?_
                          case hy => (intro w9 hSw; (try dsimp only at hSw); go_simp; try with_reducible rfl)
                          try simp only [Act.put, List.setIfInBounds_toArray, List.set_cons_zero, List.set_cons_succ]
                          refine wpAnyH_take (i := 8) (oi := { dst := some 59, op := Go.Op.load 3 (Go.Operand.tmp 58), type := 3, pos := "quotient.go:72", after := #[{ on := 7, ground := Go.Ground.data }], guard := none }) (v := ?_) rfl (by kernel_rfl) (by kernel_rfl) (by kernel_rfl) (fun _ _ _ h => h) (Or.inl ⟨by rfl, ?hy⟩) (by assumption) ?_
                          case hy => (intro w9 hSw; (try dsimp only at hSw); go_simp; try with_reducible rfl)
                          try simp only [Act.put, List.setIfInBounds_toArray, List.set_cons_zero, List.set_cons_succ]
                          refine wpAnyH_take (i := 9) (oi := { dst := some 60, op := Go.Op.fieldAddr 24 (Go.Operand.tmp 4) 1, type := 0, pos := "quotient.go:72", after := #[], guard := none }) (v := ?_) rfl (by kernel_rfl) (by kernel_rfl) (by kernel_rfl) (fun _ _ _ h => h) (Or.inl ⟨by rfl, ?hy⟩) (by assumption) ?_
                          case hy => (intro w9 hSw; (try dsimp only at hSw); go_simp; try with_reducible rfl)
                          try simp only [Act.put, List.setIfInBounds_toArray, List.set_cons_zero, List.set_cons_succ]
                          refine wpAnyH_take (i := 10) (oi := { dst := some 61, op := Go.Op.load 22 (Go.Operand.tmp 60), type := 22, pos := "quotient.go:72", after := #[{ on := 9, ground := Go.Ground.data }], guard := none }) (v := ?_) rfl (by kernel_rfl) (by kernel_rfl) (by kernel_rfl) (fun _ _ _ h => h) (Or.inl ⟨by rfl, ?hy⟩) (by assumption) ?_
                          case hy => (intro w9 hSw; (try dsimp only at hSw); go_simp; try with_reducible rfl)
                          try simp only [Act.put, List.setIfInBounds_toArray, List.set_cons_zero, List.set_cons_succ]
                          refine wpAnyH_take (i := 11) (oi := { dst := some 62, op := Go.Op.move (Go.Operand.tmp 12), type := 3, pos := "quotient.go:72", after := #[], guard := none }) (v := ?_) rfl (by kernel_rfl) (by kernel_rfl) (by kernel_rfl) (fun _ _ _ h => h) (Or.inl ⟨by rfl, ?hy⟩) (by assumption) ?_
                          case hy => (intro w9 hSw; (try dsimp only at hSw); go_simp; try with_reducible rfl)
                          try simp only [Act.put, List.setIfInBounds_toArray, List.set_cons_zero, List.set_cons_succ]
                          refine wpAnyH_take (i := 12) (oi := { dst := some 63, op := Go.Op.indexAddr 22 (Go.Operand.tmp 61) (Go.Operand.tmp 62), type := 0, pos := "quotient.go:72", after := #[{ on := 10, ground := Go.Ground.data }, { on := 11, ground := Go.Ground.data }], guard := none }) (v := ?_) rfl (by kernel_rfl) (by kernel_rfl) (by kernel_rfl) (fun _ _ _ h => h) (Or.inl ⟨by rfl, ?hy⟩) (by assumption) ?_
                          case hy => (intro w9 hSw; (try dsimp only at hSw); go_simp; try with_reducible rfl)
                          try simp only [Act.put, List.setIfInBounds_toArray, List.set_cons_zero, List.set_cons_succ]
                          refine wpAnyH_take (i := 13) (oi := { dst := some 64, op := Go.Op.load 25 (Go.Operand.tmp 63), type := 25, pos := "quotient.go:72", after := #[{ on := 12, ground := Go.Ground.data }], guard := none }) (v := ?_) rfl (by kernel_rfl) (by kernel_rfl) (by kernel_rfl) (fun _ _ _ h => h) (Or.inl ⟨by rfl, ?hy⟩) (by assumption) ?_
                          case hy => (intro w9 hSw; (try dsimp only at hSw); go_simp; try with_reducible rfl)
                          try simp only [Act.put, List.setIfInBounds_toArray, List.set_cons_zero, List.set_cons_succ]
                          refine wpAnyH_take (i := 14) (oi := { dst := some 65, op := Go.Op.move (Go.Operand.tmp 13), type := 3, pos := "quotient.go:72", after := #[], guard := none }) (v := ?_) rfl (by kernel_rfl) (by kernel_rfl) (by kernel_rfl) (fun _ _ _ h => h) (Or.inl ⟨by rfl, ?hy⟩) (by assumption) ?_
                          case hy => (intro w9 hSw; (try dsimp only at hSw); go_simp; try with_reducible rfl)
                          try simp only [Act.put, List.setIfInBounds_toArray, List.set_cons_zero, List.set_cons_succ]
                          refine wpAnyH_take (i := 15) (oi := { dst := some 66, op := Go.Op.indexAddr 25 (Go.Operand.tmp 64) (Go.Operand.tmp 65), type := 0, pos := "quotient.go:72", after := #[{ on := 13, ground := Go.Ground.data }, { on := 14, ground := Go.Ground.data }], guard := none }) (v := ?_) rfl (by kernel_rfl) (by kernel_rfl) (by kernel_rfl) (fun _ _ _ h => h) (Or.inl ⟨by rfl, ?hy⟩) (by assumption) ?_
                          case hy => (intro w9 hSw; (try dsimp only at hSw); go_simp; try with_reducible rfl)
                          try simp only [Act.put, List.setIfInBounds_toArray, List.set_cons_zero, List.set_cons_succ]
                          refine wpAnyH_take (i := 16) (oi := { dst := some 67, op := Go.Op.load 3 (Go.Operand.tmp 66), type := 3, pos := "quotient.go:72", after := #[{ on := 15, ground := Go.Ground.data }], guard := none }) (v := ?_) rfl (by kernel_rfl) (by kernel_rfl) (by kernel_rfl) (fun _ _ _ h => h) (Or.inl ⟨by rfl, ?hy⟩) (by assumption) ?_
                          case hy => (intro w9 hSw; (try dsimp only at hSw); go_simp; try with_reducible rfl)
                          try simp only [Act.put, List.setIfInBounds_toArray, List.set_cons_zero, List.set_cons_succ]
                          refine wpAnyH_ready (rs := [17]) (by kernel_rfl) (by simp) ?_
                          refine AllReadyH.cons (o := { dst := some 68, op := Go.Op.call { callee := Go.Callee.value (Go.Operand.tmp 51), args := #[Go.Operand.tmp 59, Go.Operand.tmp 67], argTypes := #[3, 3] }, type := 4, pos := "quotient.go:72", after := #[{ on := 0, ground := Go.Ground.data }, { on := 8, ground := Go.Ground.data }, { on := 16, ground := Go.Ground.data }], guard := none }) rfl (fun K hK => ?_) AllReadyH.nil
                          go_simp
                          refine (leastWith1_lit (w.heap.size + 1) q B cap c (m a b3) (m b b3) _ false h40 hu1 hv1 hXB HD.out.rw HD.out.own hl1).mono ?_
                          rintro e w5 ⟨rfl, ho5, hg5⟩
                          refine hK.out _ _ ?_ (fun hHeld => ?_)
                          · exact ⟨(HD.out.wrote hBX hwB hg5).1, (HD.out.wrote hBX hwB hg5).2.2⟩
                          clear hK K
                          try simp only [Act.put, List.setIfInBounds_toArray, List.set_cons_zero, List.set_cons_succ]
                          have HE : Hid (RL w w.heap.size q m j c0 x y q (some ⟨bA, oA, none⟩) q ca (some ⟨bB, oB, none⟩) q cb B cap D a b b3 ag c w5) := HD.out.same hBX hwB hg5 ho5 he1
                          refine wpAnyH_take (i := 18) (oi := { dst := some 69, op := Go.Op.move (Go.Operand.tmp 68), type := 4, pos := "quotient.go:72", after := #[{ on := 17, ground := Go.Ground.data }, { on := 17, ground := Go.Ground.chain }], guard := none }) (v := ?_) rfl (by kernel_rfl) (by kernel_rfl) (by kernel_rfl) (fun _ _ _ h => h) (Or.inl ⟨by rfl, ?hy⟩) (by assumption) ?_
                          case hy => (intro w9 hSw; (try dsimp only at hSw); go_simp; try with_reducible rfl)
                          try simp only [Act.put, List.setIfInBounds_toArray, List.set_cons_zero, List.set_cons_succ]
                          refine wpAnyH_take (i := 19) (oi := { dst := some 70, op := Go.Op.move (Go.Operand.tmp 9), type := 57, pos := "quotient.go:72", after := #[{ on := 18, ground := Go.Ground.guard }], guard := some (18, false) }) (v := ?_) rfl (by kernel_rfl) (by kernel_rfl) (by kernel_rfl) (fun _ _ _ h => h) (Or.inl ⟨by rfl, ?hy⟩) (by assumption) ?_
                          case hy => (intro w9 hSw; (try dsimp only at hSw); go_simp; try with_reducible rfl)
                          try simp only [Act.put, List.setIfInBounds_toArray, List.set_cons_zero, List.set_cons_succ]
                          refine wpAnyH_take (i := 20) (oi := { dst := some 71, op := Go.Op.fieldAddr 24 (Go.Operand.tmp 4) 2, type := 0, pos := "quotient.go:72", after := #[{ on := 18, ground := Go.Ground.guard }], guard := some (18, false) }) (v := ?_) rfl (by kernel_rfl) (by kernel_rfl) (by kernel_rfl) (fun _ _ _ h => h) (Or.inl ⟨by rfl, ?hy⟩) (by assumption) ?_
                          case hy => (intro w9 hSw; (try dsimp only at hSw); go_simp; try with_reducible rfl)
                          try simp only [Act.put, List.setIfInBounds_toArray, List.set_cons_zero, List.set_cons_succ]
                          refine wpAnyH_take (i := 21) (oi := { dst := some 72, op := Go.Op.load 22 (Go.Operand.tmp 71), type := 22, pos := "quotient.go:72", after := #[{ on := 20, ground := Go.Ground.data }, { on := 18, ground := Go.Ground.guard }], guard := some (18, false) }) (v := ?_) rfl (by kernel_rfl) (by kernel_rfl) (by kernel_rfl) (fun _ _ _ h => h) (Or.inl ⟨by rfl, ?hy⟩) (by assumption) ?_
                          case hy => (intro w9 hSw; (try dsimp only at hSw); go_simp; try with_reducible rfl)
                          try simp only [Act.put, List.setIfInBounds_toArray, List.set_cons_zero, List.set_cons_succ]
                          refine wpAnyH_take (i := 22) (oi := { dst := some 73, op := Go.Op.move (Go.Operand.tmp 11), type := 3, pos := "quotient.go:72", after := #[{ on := 18, ground := Go.Ground.guard }], guard := some (18, false) }) (v := ?_) rfl (by kernel_rfl) (by kernel_rfl) (by kernel_rfl) (fun _ _ _ h => h) (Or.inl ⟨by rfl, ?hy⟩) (by assumption) ?_
                          case hy => (intro w9 hSw; (try dsimp only at hSw); go_simp; try with_reducible rfl)
                          try simp only [Act.put, List.setIfInBounds_toArray, List.set_cons_zero, List.set_cons_succ]
                          refine wpAnyH_take (i := 23) (oi := { dst := some 74, op := Go.Op.indexAddr 22 (Go.Operand.tmp 72) (Go.Operand.tmp 73), type := 0, pos := "quotient.go:72", after := #[{ on := 21, ground := Go.Ground.data }, { on := 22, ground := Go.Ground.data }, { on := 18, ground := Go.Ground.guard }], guard := some (18, false) }) (v := ?_) rfl (by kernel_rfl) (by kernel_rfl) (by kernel_rfl) (fun _ _ _ h => h) (Or.inl ⟨by rfl, ?hy⟩) (by assumption) ?_
                          case hy => (intro w9 hSw; (try dsimp only at hSw); go_simp; try with_reducible rfl)
                          try simp only [Act.put, List.setIfInBounds_toArray, List.set_cons_zero, List.set_cons_succ]
                          refine wpAnyH_take (i := 24) (oi := { dst := some 75, op := Go.Op.load 25 (Go.Operand.tmp 74), type := 25, pos := "quotient.go:72", after := #[{ on := 23, ground := Go.Ground.data }, { on := 18, ground := Go.Ground.guard }], guard := some (18, false) }) (v := ?_) rfl (by kernel_rfl) (by kernel_rfl) (by kernel_rfl) (fun _ _ _ h => h) (Or.inl ⟨by rfl, ?hy⟩) (by assumption) ?_
                          case hy => (intro w9 hSw; (try dsimp only at hSw); go_simp; try with_reducible rfl)
                          try simp only [Act.put, List.setIfInBounds_toArray, List.set_cons_zero, List.set_cons_succ]
                          refine wpAnyH_take (i := 25) (oi := { dst := some 76, op := Go.Op.move (Go.Operand.tmp 13), type := 3, pos := "quotient.go:72", after := #[{ on := 18, ground := Go.Ground.guard }], guard := some (18, false) }) (v := ?_) rfl (by kernel_rfl) (by kernel_rfl) (by kernel_rfl) (fun _ _ _ h => h) (Or.inl ⟨by rfl, ?hy⟩) (by assumption) ?_
                          case hy => (intro w9 hSw; (try dsimp only at hSw); go_simp; try with_reducible rfl)
                          try simp only [Act.put, List.setIfInBounds_toArray, List.set_cons_zero, List.set_cons_succ]
                          refine wpAnyH_take (i := 26) (oi := { dst := some 77, op := Go.Op.indexAddr 25 (Go.Operand.tmp 75) (Go.Operand.tmp 76), type := 0, pos := "quotient.go:72", after := #[{ on := 24, ground := Go.Ground.data }, { on := 25, ground := Go.Ground.data }, { on := 18, ground := Go.Ground.guard }], guard := some (18, false) }) (v := ?_) rfl (by kernel_rfl) (by kernel_rfl) (by kernel_rfl) (fun _ _ _ h => h) (Or.inl ⟨by rfl, ?hy⟩) (by assumption) ?_
                          case hy => (intro w9 hSw; (try dsimp only at hSw); go_simp; try with_reducible rfl)
                          try simp only [Act.put, List.setIfInBounds_toArray, List.set_cons_zero, List.set_cons_succ]
                          refine wpAnyH_take (i := 27) (oi := { dst := some 78, op := Go.Op.load 3 (Go.Operand.tmp 77), type := 3, pos := "quotient.go:72", after := #[{ on := 26, ground := Go.Ground.data }, { on := 18, ground := Go.Ground.guard }], guard := some (18, false) }) (v := ?_) rfl (by kernel_rfl) (by kernel_rfl) (by kernel_rfl) (fun _ _ _ h => h) (Or.inl ⟨by rfl, ?hy⟩) (by assumption) ?_
                          case hy => (intro w9 hSw; (try dsimp only at hSw); go_simp; try with_reducible rfl)
                          try simp only [Act.put, List.setIfInBounds_toArray, List.set_cons_zero, List.set_cons_succ]
                          refine wpAnyH_take (i := 28) (oi := { dst := some 79, op := Go.Op.fieldAddr 24 (Go.Operand.tmp 4) 2, type := 0, pos := "quotient.go:72", after := #[{ on := 18, ground := Go.Ground.guard }], guard := some (18, false) }) (v := ?_) rfl (by kernel_rfl) (by kernel_rfl) (by kernel_rfl) (fun _ _ _ h => h) (Or.inl ⟨by rfl, ?hy⟩) (by assumption) ?_
                          case hy => (intro w9 hSw; (try dsimp only at hSw); go_simp; try with_reducible rfl)
                          try simp only [Act.put, List.setIfInBounds_toArray, List.set_cons_zero, List.set_cons_succ]
                          refine wpAnyH_take (i := 29) (oi := { dst := some 80, op := Go.Op.load 22 (Go.Operand.tmp 79), type := 22, pos := "quotient.go:72", after := #[{ on := 28, ground := Go.Ground.data }, { on := 18, ground := Go.Ground.guard }], guard := some (18, false) }) (v := ?_) rfl (by kernel_rfl) (by kernel_rfl) (by kernel_rfl) (fun _ _ _ h => h) (Or.inl ⟨by rfl, ?hy⟩) (by assumption) ?_
                          case hy => (intro w9 hSw; (try dsimp only at hSw); go_simp; try with_reducible rfl)
                          try simp only [Act.put, List.setIfInBounds_toArray, List.set_cons_zero, List.set_cons_succ]
                          refine wpAnyH_take (i := 30) (oi := { dst := some 81, op := Go.Op.move (Go.Operand.tmp 12), type := 3, pos := "quotient.go:72", after := #[{ on := 18, ground := Go.Ground.guard }], guard := some (18, false) }) (v := ?_) rfl (by kernel_rfl) (by kernel_rfl) (by kernel_rfl) (fun _ _ _ h => h) (Or.inl ⟨by rfl, ?hy⟩) (by assumption) ?_
                          case hy => (intro w9 hSw; (try dsimp only at hSw); go_simp; try with_reducible rfl)
                          try simp only [Act.put, List.setIfInBounds_toArray, List.set_cons_zero, List.set_cons_succ]
                          refine wpAnyH_take (i := 31) (oi := { dst := some 82, op := Go.Op.indexAddr 22 (Go.Operand.tmp 80) (Go.Operand.tmp 81), type := 0, pos := "quotient.go:72", after := #[{ on := 29, ground := Go.Ground.data }, { on := 30, ground := Go.Ground.data }, { on := 18, ground := Go.Ground.guard }], guard := some (18, false) }) (v := ?_) rfl (by kernel_rfl) (by kernel_rfl) (by kernel_rfl) (fun _ _ _ h => h) (Or.inl ⟨by rfl, ?hy⟩) (by assumption) ?_
                          case hy => (intro w9 hSw; (try dsimp only at hSw); go_simp; try with_reducible rfl)
                          try simp only [Act.put, List.setIfInBounds_toArray, List.set_cons_zero, List.set_cons_succ]
                          refine wpAnyH_take (i := 32) (oi := { dst := some 83, op := Go.Op.load 25 (Go.Operand.tmp 82), type := 25, pos := "quotient.go:72", after := #[{ on := 31, ground := Go.Ground.data }, { on := 18, ground := Go.Ground.guard }], guard := some (18, false) }) (v := ?_) rfl (by kernel_rfl) (by kernel_rfl) (by kernel_rfl) (fun _ _ _ h => h) (Or.inl ⟨by rfl, ?hy⟩) (by assumption) ?_
                          case hy => (intro w9 hSw; (try dsimp only at hSw); go_simp; try with_reducible rfl)
                          try simp only [Act.put, List.setIfInBounds_toArray, List.set_cons_zero, List.set_cons_succ]
                          refine wpAnyH_take (i := 33) (oi := { dst := some 84, op := Go.Op.move (Go.Operand.tmp 13), type := 3, pos := "quotient.go:72", after := #[{ on := 18, ground := Go.Ground.guard }], guard := some (18, false) }) (v := ?_) rfl (by kernel_rfl) (by kernel_rfl) (by kernel_rfl) (fun _ _ _ h => h) (Or.inl ⟨by rfl, ?hy⟩) (by assumption) ?_
                          case hy => (intro w9 hSw; (try dsimp only at hSw); go_simp; try with_reducible rfl)
                          try simp only [Act.put, List.setIfInBounds_toArray, List.set_cons_zero, List.set_cons_succ]
                          refine wpAnyH_take (i := 34) (oi := { dst := some 85, op := Go.Op.indexAddr 25 (Go.Operand.tmp 83) (Go.Operand.tmp 84), type := 0, pos := "quotient.go:72", after := #[{ on := 32, ground := Go.Ground.data }, { on := 33, ground := Go.Ground.data }, { on := 18, ground := Go.Ground.guard }], guard := some (18, false) }) (v := ?_) rfl (by kernel_rfl) (by kernel_rfl) (by kernel_rfl) (fun _ _ _ h => h) (Or.inl ⟨by rfl, ?hy⟩) (by assumption) ?_
                          case hy => (intro w9 hSw; (try dsimp only at hSw); go_simp; try with_reducible rfl)
                          try simp only [Act.put, List.setIfInBounds_toArray, List.set_cons_zero, List.set_cons_succ]
                          refine wpAnyH_take (i := 35) (oi := { dst := some 86, op := Go.Op.load 3 (Go.Operand.tmp 85), type := 3, pos := "quotient.go:72", after := #[{ on := 34, ground := Go.Ground.data }, { on := 18, ground := Go.Ground.guard }], guard := some (18, false) }) (v := ?_) rfl (by kernel_rfl) (by kernel_rfl) (by kernel_rfl) (fun _ _ _ h => h) (Or.inl ⟨by rfl, ?hy⟩) (by assumption) ?_
                          case hy => (intro w9 hSw; (try dsimp only at hSw); go_simp; try with_reducible rfl)
                          try simp only [Act.put, List.setIfInBounds_toArray, List.set_cons_zero, List.set_cons_succ]
                          refine wpAnyH_ready (rs := [36]) (by kernel_rfl) (by simp) ?_
                          refine AllReadyH.cons (o := { dst := some 87, op := Go.Op.call { callee := Go.Callee.value (Go.Operand.tmp 70), args := #[Go.Operand.tmp 78, Go.Operand.tmp 86], argTypes := #[3, 3] }, type := 4, pos := "quotient.go:72", after := #[{ on := 19, ground := Go.Ground.data }, { on := 27, ground := Go.Ground.data }, { on := 35, ground := Go.Ground.data }, { on := 18, ground := Go.Ground.chain }, { on := 18, ground := Go.Ground.guard }], guard := some (18, false) }) rfl (fun K hK => ?_) AllReadyH.nil
                          go_simp
                          refine (leastWith1_lit (w.heap.size + 1) q B cap c (j a b3) (j b b3) _ true h40 hu2 hv2 hXB HE.out.rw HE.out.own hl2).mono ?_
                          rintro e w6 ⟨rfl, ho6, hg6⟩
                          refine hK.out _ _ ?_ (fun hHeld => ?_)
                          · exact ⟨(HE.out.wrote hBX hwB hg6).1, (HE.out.wrote hBX hwB hg6).2.2⟩
                          clear hK K
                          try simp only [Act.put, List.setIfInBounds_toArray, List.set_cons_zero, List.set_cons_succ]
                          refine wpAnyH_take (i := 37) (oi := { dst := some 88, op := Go.Op.pick (Go.Operand.tmp 69) (Go.Operand.const (Go.Value.bool true)) (Go.Operand.tmp 87), type := 4, pos := "quotient.go:72", after := #[{ on := 18, ground := Go.Ground.data }, { on := 36, ground := Go.Ground.data }], guard := none }) (v := ?_) rfl (by kernel_rfl) (by kernel_rfl) (by kernel_rfl) (fun _ _ _ h => h) (Or.inl ⟨by rfl, ?hy⟩) (by assumption) ?_
                          case hy => (intro w9 hSw; (try dsimp only at hSw); go_simp; try with_reducible rfl)
                          try simp only [Act.put, List.setIfInBounds_toArray, List.set_cons_zero, List.set_cons_succ]
                          refine wpAnyH_done (by kernel_rfl) ?_ _
                          try simp only [Act.put, List.setIfInBounds_toArray, List.set_cons_zero, List.set_cons_succ]
                          have HEND : Hid (RL w w.heap.size q m j c0 x y q (some ⟨bA, oA, none⟩) q ca (some ⟨bB, oB, none⟩) q cb B cap D a b (b3 + 1) true (rel1 c (c (j b b3)) (c (j a b3))) w6) := HE.out.rel hBX hwB hg6 ho6 hu2 hv2 he2 HG2.out
                          clear HE HD hl1 hl2 he1 he2 ho5 hg5 ho6 hg6 hHeld KK f1 f2 f3 f4 f5 f6 f7 f8 f9 f10
                          go_wp2_with fail
                          go_roundw
                          case rel => exact ⟨b3 + 1, true, _, by omega, by go_num, rfl, HEND.out⟩
                          case measure => simp [intOf]; omega
                    · have hl1 : (!(c (m a b3) == c (m b b3))) = true := by simp [he1]
                      as_aux_lemma =>
                        go_wp2_with fail
                        refine wp_region_held_drew (S := (fun w' => Kp w q (some ⟨bA, oA, none⟩) ca (some ⟨bB, oB, none⟩) cb w')) (by kernel_rfl) (KK) (fun hHeld => ?_)
                        refine wpAnyH_take (i := 0) (oi := { dst := some 51, op := Go.Op.move (Go.Operand.tmp 9), type := 57, pos := "quotient.go:72", after := #[], guard := none }) (v := ?_) rfl (by kernel_rfl) (by kernel_rfl) (by kernel_rfl) (fun _ _ _ h => h) (Or.inl ⟨by rfl, ?hy⟩) (by assumption) ?_
                        case hy => (intro w9 hSw; (try dsimp only at hSw); go_simp; try with_reducible rfl)
                        try simp only [Act.put, List.setIfInBounds_toArray, List.set_cons_zero, List.set_cons_succ]
                        refine wpAnyH_take (i := 1) (oi := { dst := some 52, op := Go.Op.fieldAddr 24 (Go.Operand.tmp 4) 1, type := 0, pos := "quotient.go:72", after := #[], guard := none }) (v := ?_) rfl (by kernel_rfl) (by kernel_rfl) (by kernel_rfl) (fun _ _ _ h => h) (Or.inl ⟨by rfl, ?hy⟩) (by assumption) ?_
                        case hy => (intro w9 hSw; (try dsimp only at hSw); go_simp; try with_reducible rfl)
                        try simp only [Act.put, List.setIfInBounds_toArray, List.set_cons_zero, List.set_cons_succ]
                        refine wpAnyH_take (i := 2) (oi := { dst := some 53, op := Go.Op.load 22 (Go.Operand.tmp 52), type := 22, pos := "quotient.go:72", after := #[{ on := 1, ground := Go.Ground.data }], guard := none }) (v := ?_) rfl (by kernel_rfl) (by kernel_rfl) (by kernel_rfl) (fun _ _ _ h => h) (Or.inl ⟨by rfl, ?hy⟩) (by assumption) ?_
                        case hy => (intro w9 hSw; (try dsimp only at hSw); go_simp; try with_reducible rfl)
                        try simp only [Act.put, List.setIfInBounds_toArray, List.set_cons_zero, List.set_cons_succ]
                        refine wpAnyH_take (i := 3) (oi := { dst := some 54, op := Go.Op.move (Go.Operand.tmp 11), type := 3, pos := "quotient.go:72", after := #[], guard := none }) (v := ?_) rfl (by kernel_rfl) (by kernel_rfl) (by kernel_rfl) (fun _ _ _ h => h) (Or.inl ⟨by rfl, ?hy⟩) (by assumption) ?_
                        case hy => (intro w9 hSw; (try dsimp only at hSw); go_simp; try with_reducible rfl)
                        try simp only [Act.put, List.setIfInBounds_toArray, List.set_cons_zero, List.set_cons_succ]
                        refine wpAnyH_take (i := 4) (oi := { dst := some 55, op := Go.Op.indexAddr 22 (Go.Operand.tmp 53) (Go.Operand.tmp 54), type := 0, pos := "quotient.go:72", after := #[{ on := 2, ground := Go.Ground.data }, { on := 3, ground := Go.Ground.data }], guard := none }) (v := ?_) rfl (by kernel_rfl) (by kernel_rfl) (by kernel_rfl) (fun _ _ _ h => h) (Or.inl ⟨by rfl, ?hy⟩) (by assumption) ?_
                        case hy => (intro w9 hSw; (try dsimp only at hSw); go_simp; try with_reducible rfl)
                        try simp only [Act.put, List.setIfInBounds_toArray, List.set_cons_zero, List.set_cons_succ]
                        refine wpAnyH_take (i := 5) (oi := { dst := some 56, op := Go.Op.load 25 (Go.Operand.tmp 55), type := 25, pos := "quotient.go:72", after := #[{ on := 4, ground := Go.Ground.data }], guard := none }) (v := ?_) rfl (by kernel_rfl) (by kernel_rfl) (by kernel_rfl) (fun _ _ _ h => h) (Or.inl ⟨by rfl, ?hy⟩) (by assumption) ?_
                        case hy => (intro w9 hSw; (try dsimp only at hSw); go_simp; try with_reducible rfl)
                        try simp only [Act.put, List.setIfInBounds_toArray, List.set_cons_zero, List.set_cons_succ]
                        refine wpAnyH_take (i := 6) (oi := { dst := some 57, op := Go.Op.move (Go.Operand.tmp 13), type := 3, pos := "quotient.go:72", after := #[], guard := none }) (v := ?_) rfl (by kernel_rfl) (by kernel_rfl) (by kernel_rfl) (fun _ _ _ h => h) (Or.inl ⟨by rfl, ?hy⟩) (by assumption) ?_
                        case hy => (intro w9 hSw; (try dsimp only at hSw); go_simp; try with_reducible rfl)
                        try simp only [Act.put, List.setIfInBounds_toArray, List.set_cons_zero, List.set_cons_succ]
                        refine wpAnyH_take (i := 7) (oi := { dst := some 58, op := Go.Op.indexAddr 25 (Go.Operand.tmp 56) (Go.Operand.tmp 57), type := 0, pos := "quotient.go:72", after := #[{ on := 5, ground := Go.Ground.data }, { on := 6, ground := Go.Ground.data }], guard := none }) (v := ?_) rfl (by kernel_rfl) (by kernel_rfl) (by kernel_rfl) (fun _ _ _ h => h) (Or.inl ⟨by rfl, ?hy⟩) (by assumption) ?_
                        case hy => (intro w9 hSw; (try dsimp only at hSw); go_simp; try with_reducible rfl)
                        try simp only [Act.put, List.setIfInBounds_toArray, List.set_cons_zero, List.set_cons_succ]
                        refine wpAnyH_take (i := 8) (oi := { dst := some 59, op := Go.Op.load 3 (Go.Operand.tmp 58), type := 3, pos := "quotient.go:72", after := #[{ on := 7, ground := Go.Ground.data }], guard := none }) (v := ?_) rfl (by kernel_rfl) (by kernel_rfl) (by kernel_rfl) (fun _ _ _ h => h) (Or.inl ⟨by rfl, ?hy⟩) (by assumption) ?_
                        case hy => (intro w9 hSw; (try dsimp only at hSw); go_simp; try with_reducible rfl)
                        try simp only [Act.put, List.setIfInBounds_toArray, List.set_cons_zero, List.set_cons_succ]
                        refine wpAnyH_take (i := 9) (oi := { dst := some 60, op := Go.Op.fieldAddr 24 (Go.Operand.tmp 4) 1, type := 0, pos := "quotient.go:72", after := #[], guard := none }) (v := ?_) rfl (by kernel_rfl) (by kernel_rfl) (by kernel_rfl) (fun _ _ _ h => h) (Or.inl ⟨by rfl, ?hy⟩) (by assumption) ?_
                        case hy => (intro w9 hSw; (try dsimp only at hSw); go_simp; try with_reducible rfl)
                        try simp only [Act.put, List.setIfInBounds_toArray, List.set_cons_zero, List.set_cons_succ]
                        refine wpAnyH_take (i := 10) (oi := { dst := some 61, op := Go.Op.load 22 (Go.Operand.tmp 60), type := 22, pos := "quotient.go:72", after := #[{ on := 9, ground := Go.Ground.data }], guard := none }) (v := ?_) rfl (by kernel_rfl) (by kernel_rfl) (by kernel_rfl) (fun _ _ _ h => h) (Or.inl ⟨by rfl, ?hy⟩) (by assumption) ?_
                        case hy => (intro w9 hSw; (try dsimp only at hSw); go_simp; try with_reducible rfl)
                        try simp only [Act.put, List.setIfInBounds_toArray, List.set_cons_zero, List.set_cons_succ]
                        refine wpAnyH_take (i := 11) (oi := { dst := some 62, op := Go.Op.move (Go.Operand.tmp 12), type := 3, pos := "quotient.go:72", after := #[], guard := none }) (v := ?_) rfl (by kernel_rfl) (by kernel_rfl) (by kernel_rfl) (fun _ _ _ h => h) (Or.inl ⟨by rfl, ?hy⟩) (by assumption) ?_
                        case hy => (intro w9 hSw; (try dsimp only at hSw); go_simp; try with_reducible rfl)
                        try simp only [Act.put, List.setIfInBounds_toArray, List.set_cons_zero, List.set_cons_succ]
                        refine wpAnyH_take (i := 12) (oi := { dst := some 63, op := Go.Op.indexAddr 22 (Go.Operand.tmp 61) (Go.Operand.tmp 62), type := 0, pos := "quotient.go:72", after := #[{ on := 10, ground := Go.Ground.data }, { on := 11, ground := Go.Ground.data }], guard := none }) (v := ?_) rfl (by kernel_rfl) (by kernel_rfl) (by kernel_rfl) (fun _ _ _ h => h) (Or.inl ⟨by rfl, ?hy⟩) (by assumption) ?_
                        case hy => (intro w9 hSw; (try dsimp only at hSw); go_simp; try with_reducible rfl)
                        try simp only [Act.put, List.setIfInBounds_toArray, List.set_cons_zero, List.set_cons_succ]
                        refine wpAnyH_take (i := 13) (oi := { dst := some 64, op := Go.Op.load 25 (Go.Operand.tmp 63), type := 25, pos := "quotient.go:72", after := #[{ on := 12, ground := Go.Ground.data }], guard := none }) (v := ?_) rfl (by kernel_rfl) (by kernel_rfl) (by kernel_rfl) (fun _ _ _ h => h) (Or.inl ⟨by rfl, ?hy⟩) (by assumption) ?_
                        case hy => (intro w9 hSw; (try dsimp only at hSw); go_simp; try with_reducible rfl)
                        try simp only [Act.put, List.setIfInBounds_toArray, List.set_cons_zero, List.set_cons_succ]
                        refine wpAnyH_take (i := 14) (oi := { dst := some 65, op := Go.Op.move (Go.Operand.tmp 13), type := 3, pos := "quotient.go:72", after := #[], guard := none }) (v := ?_) rfl (by kernel_rfl) (by kernel_rfl) (by kernel_rfl) (fun _ _ _ h => h) (Or.inl ⟨by rfl, ?hy⟩) (by assumption) ?_
                        case hy => (intro w9 hSw; (try dsimp only at hSw); go_simp; try with_reducible rfl)
                        try simp only [Act.put, List.setIfInBounds_toArray, List.set_cons_zero, List.set_cons_succ]
                        refine wpAnyH_take (i := 15) (oi := { dst := some 66, op := Go.Op.indexAddr 25 (Go.Operand.tmp 64) (Go.Operand.tmp 65), type := 0, pos := "quotient.go:72", after := #[{ on := 13, ground := Go.Ground.data }, { on := 14, ground := Go.Ground.data }], guard := none }) (v := ?_) rfl (by kernel_rfl) (by kernel_rfl) (by kernel_rfl) (fun _ _ _ h => h) (Or.inl ⟨by rfl, ?hy⟩) (by assumption) ?_
                        case hy => (intro w9 hSw; (try dsimp only at hSw); go_simp; try with_reducible rfl)
                        try simp only [Act.put, List.setIfInBounds_toArray, List.set_cons_zero, List.set_cons_succ]
                        refine wpAnyH_take (i := 16) (oi := { dst := some 67, op := Go.Op.load 3 (Go.Operand.tmp 66), type := 3, pos := "quotient.go:72", after := #[{ on := 15, ground := Go.Ground.data }], guard := none }) (v := ?_) rfl (by kernel_rfl) (by kernel_rfl) (by kernel_rfl) (fun _ _ _ h => h) (Or.inl ⟨by rfl, ?hy⟩) (by assumption) ?_
                        case hy => (intro w9 hSw; (try dsimp only at hSw); go_simp; try with_reducible rfl)
                        try simp only [Act.put, List.setIfInBounds_toArray, List.set_cons_zero, List.set_cons_succ]
                        refine wpAnyH_ready (rs := [17]) (by kernel_rfl) (by simp) ?_
                        refine AllReadyH.cons (o := { dst := some 68, op := Go.Op.call { callee := Go.Callee.value (Go.Operand.tmp 51), args := #[Go.Operand.tmp 59, Go.Operand.tmp 67], argTypes := #[3, 3] }, type := 4, pos := "quotient.go:72", after := #[{ on := 0, ground := Go.Ground.data }, { on := 8, ground := Go.Ground.data }, { on := 16, ground := Go.Ground.data }], guard := none }) rfl (fun K hK => ?_) AllReadyH.nil
                        go_simp
                        refine (leastWith1_lit (w.heap.size + 1) q B cap c (m a b3) (m b b3) _ true h40 hu1 hv1 hXB HD.out.rw HD.out.own hl1).mono ?_
                        rintro e w5 ⟨rfl, ho5, hg5⟩
                        refine hK.out _ _ ?_ (fun hHeld => ?_)
                        · exact ⟨(HD.out.wrote hBX hwB hg5).1, (HD.out.wrote hBX hwB hg5).2.2⟩
                        clear hK K
                        try simp only [Act.put, List.setIfInBounds_toArray, List.set_cons_zero, List.set_cons_succ]
                        refine wpAnyH_take (i := 18) (oi := { dst := some 69, op := Go.Op.move (Go.Operand.tmp 68), type := 4, pos := "quotient.go:72", after := #[{ on := 17, ground := Go.Ground.data }, { on := 17, ground := Go.Ground.chain }], guard := none }) (v := ?_) rfl (by kernel_rfl) (by kernel_rfl) (by kernel_rfl) (fun _ _ _ h => h) (Or.inl ⟨by rfl, ?hy⟩) (by assumption) ?_
                        case hy => (intro w9 hSw; (try dsimp only at hSw); go_simp; try with_reducible rfl)
                        try simp only [Act.put, List.setIfInBounds_toArray, List.set_cons_zero, List.set_cons_succ]
                        refine wpAnyH_take (i := 19) (oi := { dst := some 70, op := Go.Op.move (Go.Operand.tmp 9), type := 57, pos := "quotient.go:72", after := #[{ on := 18, ground := Go.Ground.guard }], guard := some (18, false) }) (v := undef) rfl (by kernel_rfl) (by kernel_rfl) (by kernel_rfl) (fun _ _ _ h => h) (Or.inr ⟨by rfl, rfl⟩) (by assumption) ?_
                        try simp only [Act.put, List.setIfInBounds_toArray, List.set_cons_zero, List.set_cons_succ]
                        refine wpAnyH_take (i := 20) (oi := { dst := some 71, op := Go.Op.fieldAddr 24 (Go.Operand.tmp 4) 2, type := 0, pos := "quotient.go:72", after := #[{ on := 18, ground := Go.Ground.guard }], guard := some (18, false) }) (v := undef) rfl (by kernel_rfl) (by kernel_rfl) (by kernel_rfl) (fun _ _ _ h => h) (Or.inr ⟨by rfl, rfl⟩) (by assumption) ?_
                        try simp only [Act.put, List.setIfInBounds_toArray, List.set_cons_zero, List.set_cons_succ]
                        refine wpAnyH_take (i := 21) (oi := { dst := some 72, op := Go.Op.load 22 (Go.Operand.tmp 71), type := 22, pos := "quotient.go:72", after := #[{ on := 20, ground := Go.Ground.data }, { on := 18, ground := Go.Ground.guard }], guard := some (18, false) }) (v := undef) rfl (by kernel_rfl) (by kernel_rfl) (by kernel_rfl) (fun _ _ _ h => h) (Or.inr ⟨by rfl, rfl⟩) (by assumption) ?_
                        try simp only [Act.put, List.setIfInBounds_toArray, List.set_cons_zero, List.set_cons_succ]
                        refine wpAnyH_take (i := 22) (oi := { dst := some 73, op := Go.Op.move (Go.Operand.tmp 11), type := 3, pos := "quotient.go:72", after := #[{ on := 18, ground := Go.Ground.guard }], guard := some (18, false) }) (v := undef) rfl (by kernel_rfl) (by kernel_rfl) (by kernel_rfl) (fun _ _ _ h => h) (Or.inr ⟨by rfl, rfl⟩) (by assumption) ?_
                        try simp only [Act.put, List.setIfInBounds_toArray, List.set_cons_zero, List.set_cons_succ]
                        refine wpAnyH_take (i := 23) (oi := { dst := some 74, op := Go.Op.indexAddr 22 (Go.Operand.tmp 72) (Go.Operand.tmp 73), type := 0, pos := "quotient.go:72", after := #[{ on := 21, ground := Go.Ground.data }, { on := 22, ground := Go.Ground.data }, { on := 18, ground := Go.Ground.guard }], guard := some (18, false) }) (v := undef) rfl (by kernel_rfl) (by kernel_rfl) (by kernel_rfl) (fun _ _ _ h => h) (Or.inr ⟨by rfl, rfl⟩) (by assumption) ?_
                        try simp only [Act.put, List.setIfInBounds_toArray, List.set_cons_zero, List.set_cons_succ]
                        refine wpAnyH_take (i := 24) (oi := { dst := some 75, op := Go.Op.load 25 (Go.Operand.tmp 74), type := 25, pos := "quotient.go:72", after := #[{ on := 23, ground := Go.Ground.data }, { on := 18, ground := Go.Ground.guard }], guard := some (18, false) }) (v := undef) rfl (by kernel_rfl) (by kernel_rfl) (by kernel_rfl) (fun _ _ _ h => h) (Or.inr ⟨by rfl, rfl⟩) (by assumption) ?_
                        try simp only [Act.put, List.setIfInBounds_toArray, List.set_cons_zero, List.set_cons_succ]
                        refine wpAnyH_take (i := 25) (oi := { dst := some 76, op := Go.Op.move (Go.Operand.tmp 13), type := 3, pos := "quotient.go:72", after := #[{ on := 18, ground := Go.Ground.guard }], guard := some (18, false) }) (v := undef) rfl (by kernel_rfl) (by kernel_rfl) (by kernel_rfl) (fun _ _ _ h => h) (Or.inr ⟨by rfl, rfl⟩) (by assumption) ?_
                        try simp only [Act.put, List.setIfInBounds_toArray, List.set_cons_zero, List.set_cons_succ]
                        refine wpAnyH_take (i := 26) (oi := { dst := some 77, op := Go.Op.indexAddr 25 (Go.Operand.tmp 75) (Go.Operand.tmp 76), type := 0, pos := "quotient.go:72", after := #[{ on := 24, ground := Go.Ground.data }, { on := 25, ground := Go.Ground.data }, { on := 18, ground := Go.Ground.guard }], guard := some (18, false) }) (v := undef) rfl (by kernel_rfl) (by kernel_rfl) (by kernel_rfl) (fun _ _ _ h => h) (Or.inr ⟨by rfl, rfl⟩) (by assumption) ?_
                        try simp only [Act.put, List.setIfInBounds_toArray, List.set_cons_zero, List.set_cons_succ]
                        refine wpAnyH_take (i := 27) (oi := { dst := some 78, op := Go.Op.load 3 (Go.Operand.tmp 77), type := 3, pos := "quotient.go:72", after := #[{ on := 26, ground := Go.Ground.data }, { on := 18, ground := Go.Ground.guard }], guard := some (18, false) }) (v := undef) rfl (by kernel_rfl) (by kernel_rfl) (by kernel_rfl) (fun _ _ _ h => h) (Or.inr ⟨by rfl, rfl⟩) (by assumption) ?_
                        try simp only [Act.put, List.setIfInBounds_toArray, List.set_cons_zero, List.set_cons_succ]
                        refine wpAnyH_take (i := 28) (oi := { dst := some 79, op := Go.Op.fieldAddr 24 (Go.Operand.tmp 4) 2, type := 0, pos := "quotient.go:72", after := #[{ on := 18, ground := Go.Ground.guard }], guard := some (18, false) }) (v := undef) rfl (by kernel_rfl) (by kernel_rfl) (by kernel_rfl) (fun _ _ _ h => h) (Or.inr ⟨by rfl, rfl⟩) (by assumption) ?_
                        try simp only [Act.put, List.setIfInBounds_toArray, List.set_cons_zero, List.set_cons_succ]
                        refine wpAnyH_take (i := 29) (oi := { dst := some 80, op := Go.Op.load 22 (Go.Operand.tmp 79), type := 22, pos := "quotient.go:72", after := #[{ on := 28, ground := Go.Ground.data }, { on := 18, ground := Go.Ground.guard }], guard := some (18, false) }) (v := undef) rfl (by kernel_rfl) (by kernel_rfl) (by kernel_rfl) (fun _ _ _ h => h) (Or.inr ⟨by rfl, rfl⟩) (by assumption) ?_
                        try simp only [Act.put, List.setIfInBounds_toArray, List.set_cons_zero, List.set_cons_succ]
                        refine wpAnyH_take (i := 30) (oi := { dst := some 81, op := Go.Op.move (Go.Operand.tmp 12), type := 3, pos := "quotient.go:72", after := #[{ on := 18, ground := Go.Ground.guard }], guard := some (18, false) }) (v := undef) rfl (by kernel_rfl) (by kernel_rfl) (by kernel_rfl) (fun _ _ _ h => h) (Or.inr ⟨by rfl, rfl⟩) (by assumption) ?_
                        try simp only [Act.put, List.setIfInBounds_toArray, List.set_cons_zero, List.set_cons_succ]
                        refine wpAnyH_take (i := 31) (oi := { dst := some 82, op := Go.Op.indexAddr 22 (Go.Operand.tmp 80) (Go.Operand.tmp 81), type := 0, pos := "quotient.go:72", after := #[{ on := 29, ground := Go.Ground.data }, { on := 30, ground := Go.Ground.data }, { on := 18, ground := Go.Ground.guard }], guard := some (18, false) }) (v := undef) rfl (by kernel_rfl) (by kernel_rfl) (by kernel_rfl) (fun _ _ _ h => h) (Or.inr ⟨by rfl, rfl⟩) (by assumption) ?_
                        try simp only [Act.put, List.setIfInBounds_toArray, List.set_cons_zero, List.set_cons_succ]
                        refine wpAnyH_take (i := 32) (oi := { dst := some 83, op := Go.Op.load 25 (Go.Operand.tmp 82), type := 25, pos := "quotient.go:72", after := #[{ on := 31, ground := Go.Ground.data }, { on := 18, ground := Go.Ground.guard }], guard := some (18, false) }) (v := undef) rfl (by kernel_rfl) (by kernel_rfl) (by kernel_rfl) (fun _ _ _ h => h) (Or.inr ⟨by rfl, rfl⟩) (by assumption) ?_
                        try simp only [Act.put, List.setIfInBounds_toArray, List.set_cons_zero, List.set_cons_succ]
                        refine wpAnyH_take (i := 33) (oi := { dst := some 84, op := Go.Op.move (Go.Operand.tmp 13), type := 3, pos := "quotient.go:72", after := #[{ on := 18, ground := Go.Ground.guard }], guard := some (18, false) }) (v := undef) rfl (by kernel_rfl) (by kernel_rfl) (by kernel_rfl) (fun _ _ _ h => h) (Or.inr ⟨by rfl, rfl⟩) (by assumption) ?_
                        try simp only [Act.put, List.setIfInBounds_toArray, List.set_cons_zero, List.set_cons_succ]
                        refine wpAnyH_take (i := 34) (oi := { dst := some 85, op := Go.Op.indexAddr 25 (Go.Operand.tmp 83) (Go.Operand.tmp 84), type := 0, pos := "quotient.go:72", after := #[{ on := 32, ground := Go.Ground.data }, { on := 33, ground := Go.Ground.data }, { on := 18, ground := Go.Ground.guard }], guard := some (18, false) }) (v := undef) rfl (by kernel_rfl) (by kernel_rfl) (by kernel_rfl) (fun _ _ _ h => h) (Or.inr ⟨by rfl, rfl⟩) (by assumption) ?_
                        try simp only [Act.put, List.setIfInBounds_toArray, List.set_cons_zero, List.set_cons_succ]
                        refine wpAnyH_take (i := 35) (oi := { dst := some 86, op := Go.Op.load 3 (Go.Operand.tmp 85), type := 3, pos := "quotient.go:72", after := #[{ on := 34, ground := Go.Ground.data }, { on := 18, ground := Go.Ground.guard }], guard := some (18, false) }) (v := undef) rfl (by kernel_rfl) (by kernel_rfl) (by kernel_rfl) (fun _ _ _ h => h) (Or.inr ⟨by rfl, rfl⟩) (by assumption) ?_
                        try simp only [Act.put, List.setIfInBounds_toArray, List.set_cons_zero, List.set_cons_succ]
                        refine wpAnyH_take (i := 36) (oi := { dst := some 87, op := Go.Op.call { callee := Go.Callee.value (Go.Operand.tmp 70), args := #[Go.Operand.tmp 78, Go.Operand.tmp 86], argTypes := #[3, 3] }, type := 4, pos := "quotient.go:72", after := #[{ on := 19, ground := Go.Ground.data }, { on := 27, ground := Go.Ground.data }, { on := 35, ground := Go.Ground.data }, { on := 18, ground := Go.Ground.chain }, { on := 18, ground := Go.Ground.guard }], guard := some (18, false) }) (v := undef) rfl (by kernel_rfl) (by kernel_rfl) (by kernel_rfl) (fun _ _ _ h => h) (Or.inr ⟨by rfl, rfl⟩) (by assumption) ?_
                        try simp only [Act.put, List.setIfInBounds_toArray, List.set_cons_zero, List.set_cons_succ]
                        refine wpAnyH_take (i := 37) (oi := { dst := some 88, op := Go.Op.pick (Go.Operand.tmp 69) (Go.Operand.const (Go.Value.bool true)) (Go.Operand.tmp 87), type := 4, pos := "quotient.go:72", after := #[{ on := 18, ground := Go.Ground.data }, { on := 36, ground := Go.Ground.data }], guard := none }) (v := ?_) rfl (by kernel_rfl) (by kernel_rfl) (by kernel_rfl) (fun _ _ _ h => h) (Or.inl ⟨by rfl, ?hy⟩) (by assumption) ?_
                        case hy => (intro w9 hSw; (try dsimp only at hSw); go_simp; try with_reducible rfl)
                        try simp only [Act.put, List.setIfInBounds_toArray, List.set_cons_zero, List.set_cons_succ]
                        refine wpAnyH_done (by kernel_rfl) ?_ _
                        try simp only [Act.put, List.setIfInBounds_toArray, List.set_cons_zero, List.set_cons_succ]
                        have HEND : Hid (RL w w.heap.size q m j c0 x y q (some ⟨bA, oA, none⟩) q ca (some ⟨bB, oB, none⟩) q cb B cap D a b (b3 + 1) true (rel1 c (c (m b b3)) (c (m a b3))) w5) := HD.out.rel hBX hwB hg5 ho5 hu1 hv1 he1 HG1.out
                        clear HD hl1 he1 ho5 hg5 hHeld KK f1 f2 f3 f4 f5 f6 f7 f8 f9 f10
                        go_wp2_with fail
                        go_roundw
                        case rel => exact ⟨b3 + 1, true, _, by omega, by go_num, rfl, HEND.out⟩
                        case measure => simp [intOf]; omega
                  · have g4 : (((c a : Nat) : Int) == ((c b : Nat) : Int)) = false := by simp; omega
                    have HEND : Hid (RL w w.heap.size q m j c0 x y q (some ⟨bA, oA, none⟩) q ca (some ⟨bB, oB, none⟩) q cb B cap D a (b + 1) 0 ag c wr) := HI.out.next (fun h => h.b (.inr hcab))
                    clear hcab HI
                    go_wp2_with fail
                    go_big_quiet (fail)
                    go_wp2_with fail
                    go_roundw
                    case rel => exact ⟨b + 1, ag, c, by omega, by go_num, rfl, HEND.out.drew _⟩
                    case measure => simp [intOf]; omega
                · obtain rfl : b3 = q := by omega
                  have g3 : decide ((b3 : Int) < (b3 : Int)) = false := by simp
                  have HEND : Hid (RL w w.heap.size b3 m j c0 x y b3 (some ⟨bA, oA, none⟩) b3 ca (some ⟨bB, oB, none⟩) b3 cb B cap D a (b + 1) 0 ag c wr) := HI.out.next (fun h => h.b (.inl rfl))
                  clear HI
                  go_wp2_with fail
                  go_big_quiet (fail)
                  go_wp2_with fail
                  go_roundw
                  case rel => exact ⟨b + 1, ag, c, by omega, by go_num, rfl, HEND.out.drew _⟩
                  case measure => simp [intOf]; omega
            · obtain rfl : b = a := by omega
              have HEND : Hid (RL w w.heap.size q m j c0 x y q (some ⟨bA, oA, none⟩) q ca (some ⟨bB, oB, none⟩) q cb B cap D (b + 1) 0 0 ag c wr) := HI2'.out.next (fun h => h.a)
              clear HI2'
              go_wp2_with fail
              go_roundw
              case rel => exact ⟨b + 1, ag, c, by omega, by go_num, rfl, HEND.out⟩
              case measure => simp [intOf]; omega
        · obtain rfl : a = q := by omega
          go_wp2_with fail
          go_roundg D
          case rel => exact ⟨ag, c, rfl, HI1'.out⟩
          case measure => omega
end Go.Proofs.Ytappekjkcgmheaa
