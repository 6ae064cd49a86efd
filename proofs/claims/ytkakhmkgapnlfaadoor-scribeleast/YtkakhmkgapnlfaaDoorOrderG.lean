/-
  What scribe.readOrder does at any text: an order made of pairs that take four bytes each at least; or it gives up. No condition.
-/
import Derived.Test.YtkakhmkgapnlfaaDoorPairG
import Derived.Test.YtkakhmkgapnlfaaDoorReadO
namespace Go.Proofs.YtkakhmkgapnlfaaDoor
open Go.RowKit

/-- What was read: pairs of n points, and what they make; no more of them than the text has room for. -/
def Got (s : ByteArray) (n : Nat) (l : List (Nat × Nat)) : Prop := n ≤ 10 ∧ (∀ q ∈ l, q.1 < n ∧ q.2 < n) ∧ (dg n).length + 1 + 4 * l.length ≤ s.size ∧ Ord n (reachOut (mk (pairAt l) l.length) n n)
def OrdIs (s : ByteArray) (B : Nat) (e : Ending) (w' : World) : Prop :=
  (∃ (n : Nat) (l : List (Nat × Nat)) (b : Nat), e = .returned (.agg #[.int .i64 (n : Int), .slice (some ⟨b, 0, none⟩) n n]) ∧ B ≤ b ∧ Got s n l ∧ Row w' (some ⟨b, 0, none⟩) n (fun k => (reachOut (mk (pairAt l) l.length) n n k : Nat))) ∨ ∃ (c : Int) (k : Int), c ≠ 0 ∧ e = .panicked (flt c k)
theorem pairAt_app (l : List (Nat × Nat)) (q : Nat × Nat) : pairVals (l ++ [q]) = pairVals l ++ [.int .i64 (q.1 : Nat), .int .i64 (q.2 : Nat)] := by rw [pairVals_append]; rfl
set_option maxRecDepth 20000 in
set_option maxHeartbeats 4000000 in
theorem readOrder_gen (s : ByteArray) (w : World) :
    Calls Tryd.prog 9 #[.string s] w fun e w' => OrdIs s w.heap.size e w' ∧ Below w.heap.size w w' := by
  obtain ⟨i0, hi, hz0, hz1, hz2⟩ := info_parts Tryd.info50
  by_cases hsz : s.size ≤ 2000
  · have hsz' : ¬ (2000 : Int) < (s.size : Int) := by omega
    obtain ⟨W, HW⟩ : ∃ W, Hid (W = (w.alloc (.cells #[.int .i64 0, .slice none 0 0] 25)).alloc (.cells #[.string s, .int .i64 0] 54)) := ⟨_, rfl⟩
    have HBW : Hid (Below w.heap.size w W) := by rw [HW.out]; exact ((Below.refl _ _).alloc (Nat.le_refl _) _).alloc (by simp) _
    have HRW : Hid (Rd W (w.heap.size + 1) s 0) := by
      rw [HW.out]
      refine ⟨?_, ?_, ?_⟩ <;> simp [World.frozen?_alloc_at]
    have HSW : Hid (W.heap.size = w.heap.size + 2) := by rw [Hid, HW.out]; simp
    have HOUT : Hid (∀ w', Kp (w.heap.size + 1) W w' → Below w.heap.size w w') := fun w' h => HBW.out.trans (h.below (Nat.le_succ _) (by rw [HSW.out]; omega))
    have HZB : Hid (∀ w', Kp (w.heap.size + 1) W w' → w'.cell? ⟨w.heap.size, 0, none⟩ = some (.int .i64 0) ∧ w'.cell? ⟨w.heap.size, 1, none⟩ = some (.slice none 0 0) ∧ w'.frozen? ⟨w.heap.size, 0, none⟩ = false ∧ w'.frozen? ⟨w.heap.size, 1, none⟩ = false) := fun w' h => by
      have hb : Below (w.heap.size + 1) W w' := h.below (Nat.le_refl _) (by rw [HSW.out]; omega)
      refine ⟨(hb.cell (p := ⟨w.heap.size, 0, none⟩) (Nat.lt_succ_self _)).trans ?_, (hb.cell (p := ⟨w.heap.size, 1, none⟩) (Nat.lt_succ_self _)).trans ?_, (hb.frozen (p := ⟨w.heap.size, 0, none⟩) (Nat.lt_succ_self _)).trans ?_, (hb.frozen (p := ⟨w.heap.size, 1, none⟩) (Nat.lt_succ_self _)).trans ?_⟩ <;> rw [HW.out] <;> simp
    go_enter Tryd.func9, Tryd.ntmps9
    go_wp2_with fail
    rw [← HW.out]
    refine (number_gen (w.heap.size + 1) s 0 10 2 _ HRW.out (Nat.zero_le _) hsz (.inl rfl)).mono ?_
    rintro e w1 (⟨n, j1, rfl, m1, hj1, hn10, _, hn⟩ | ⟨c, k, hc, rfl, hk⟩)
    rotate_left
    · exact ⟨rfl, .inr ⟨c, k, by omega, rfl⟩, HOUT.out _ hk⟩
    have HM1 : Hid (MvN (w.heap.size + 1) j1 W w1) := m1
    have h10 : n ≤ 10 := by omega
    have hdn : (dg n).length ≤ j1 := by
      by_cases e : n = 10
      · have := dg_len h10; omega
      · rw [dg_small (by omega)]; simp; omega
    clear m1
    go_wp2_with fail
    refine (take_gen (w.heap.size + 1) s j1 58 _ (MvN.rd HRW.out HM1.out) hj1.2 hsz).mono ?_
    rintro e w2 (⟨rfl, m2, hj2⟩ | ⟨k, rfl, hk⟩)
    rotate_left
    · exact ⟨rfl, .inr ⟨1, k, by decide, rfl⟩, HOUT.out _ (HM1.out.kp.tr hk)⟩
    have HM2 : Hid (MvN (w.heap.size + 1) (j1 + 1) W w2) := HM1.out.tr m2
    have HR2 : Hid (Rd w2 (w.heap.size + 1) s (j1 + 1)) := MvN.rd HRW.out HM2.out
    have HK2 : Hid (Kp (w.heap.size + 1) W w2) := HM2.out.kp
    clear m2 HM1 HM2 HW
    go_wp2_with fail
    go_loopw [5] (fun v wx => ∃ (l : List (Nat × Nat)) (j : Nat), Hid (wx.ownsRow W.heap.size 50 2 v l.length (pairVals l)) ∧ Hid (Rd wx (w.heap.size + 1) s j) ∧ Hid (Kp (w.heap.size + 1) W wx) ∧ ((dg n).length + 1 + 4 * l.length ≤ j ∧ j ≤ s.size) ∧ Hid (∀ q ∈ l, q.1 < n ∧ q.2 < n)) (fun _ wx => s.size - atOf (w.heap.size + 1) wx)
    case atStart => exact ⟨[], j1 + 1, World.ownsRow_nil _ _ _ _, HR2, HK2, ⟨by simp; omega, hj2⟩, fun q hq => by cases hq⟩
    case round =>
      clear HR2 HK2
      obtain ⟨l, j, HO, HR, HK, hj, HQ⟩ := hrel
      have r1 := HR.out.2.1
      obtain ⟨L, HLL⟩ : ∃ L, Hid (l.length = L) := ⟨_, rfl⟩
      have HAT : Hid (atOf (w.heap.size + 1) wr = j) := atOf_rd HR.out
      by_cases hlt : j < s.size
      · have hcond : (j : Int) < (s.size : Int) := by omega
        go_wp2_with fail
        clear r1
        refine (pair_gen (w.heap.size + 1) s j n _ HR.out hj.2 hsz h10).mono ?_
        rintro e w3 (⟨p1, p2, j3, rfl, hr3, hk3, hj3, hp1, hp2⟩ | ⟨c, k, hc, rfl, hk3⟩)
        rotate_left
        · exact ⟨rfl, .inr ⟨c, k, by omega, rfl⟩, HOUT.out _ (HK.out.tr hk3)⟩
        have HR3 : Hid (Rd w3 (w.heap.size + 1) s j3) := hr3
        have HK3 : Hid (Kp (w.heap.size + 1) W w3) := HK.out.tr hk3
        have hown : w3.ownsRow W.heap.size 50 2 u5 L (pairVals l) := by
          have := hk3.owns HO.out (by rw [HSW.out]; omega)
          rw [HLL.out] at this; exact this
        have hsz3 : W.heap.size ≤ w3.heap.size := HK3.out.size
        have hLb : L ≤ 500 := by rw [← HLL.out]; omega
        obtain ⟨PL, HPL⟩ : ∃ PL, Hid (pairVals l = PL) := ⟨_, rfl⟩
        rw [HPL.out] at hown
        clear hr3 hk3 HR HK HO
        go_wp2_with (at_builtin; refine wpList_append_own _ rfl _ _ 37 rfl W.heap.size 50 i0 (.agg #[.int .i64 0, .int .i64 0]) 2 16 Tryd.underlying37 hi hz0 hz1 hz2 rfl (by decide) _ _ _ rfl (hown.alloc _) ⟨w3.heap.size, 0, none⟩ 1 1 [.int .i64 (p1 : Nat), .int .i64 (p2 : Nat)] rfl rfl ?g1 ?g2 ?g3 ?g4 ?g5 ?_)
        case g1 =>
          intro j u hj
          match j, hj with
          | 0, hj => simp at hj; subst hj; simp [Addr.add]
          | 1, hj => simp at hj; subst hj; simp [Addr.add]
        case g2 => intro u hu; simp at hu; rcases hu with rfl | rfl <;> rfl
        case g3 => unfold maxLen; omega
        case g4 => omega
        case g5 => simp; omega
        intro v' w4 hown' hgrow _
        have hbw : Below W.heap.size w3 w4 := ((Below.refl W.heap.size w3).alloc hsz3 _).grown hgrow (by simp; omega) (owns_block hown)
        have HR4 : Hid (Rd w4 (w.heap.size + 1) s j3) := HR3.out.belowB hbw (by rw [HSW.out]; omega)
        have HK4 : Hid (Kp (w.heap.size + 1) W w4) := HK3.out.grow hbw
        have HO4 : Hid (w4.ownsRow W.heap.size 50 2 v' (l ++ [(p1, p2)]).length (pairVals (l ++ [(p1, p2)]))) := by
          rw [pairAt_app, HPL.out, List.length_append, HLL.out]; exact hown'
        have HQ4 : Hid (∀ q ∈ l ++ [(p1, p2)], q.1 < n ∧ q.2 < n) := fun q hq => by
          rcases List.mem_append.1 hq with h | h
          · exact HQ.out q h
          · rw [List.mem_singleton] at h; subst h; exact ⟨by omega, by omega⟩
        have hnl : (dg n).length + 1 + 4 * (l ++ [(p1, p2)]).length ≤ j3 := by rw [List.length_append]; simp; omega
        clear hown' hgrow hown hbw HR3 HK3
        go_wp2_with fail
        go_roundw
        case rel => exact ⟨l ++ [(p1, p2)], j3, HO4, HR4, HK4, ⟨hnl, hj3.2⟩, HQ4⟩
        case measure => rw [atOf_rd HR4.out, HAT.out]; omega
      · have hcond : ¬ (j : Int) < (s.size : Int) := by omega
        obtain ⟨pa, pc, rfl, hpr⟩ := owns_pairs HO.out
        have HPRW : Hid (PRow wr pa L (pairAt l)) := by rw [← HLL.out]; exact hpr
        rw [HLL.out]
        have hLm : L ≤ maxLen := by rw [← HLL.out]; unfold maxLen; omega
        clear hpr HO
        go_wp2_with fail
        clear r1
        refine (make_any n pa L pc (pairAt l) _ hLm HPRW.out).mono ?_
        rintro e w5 ⟨hmade, hb5⟩
        have HK5 : Hid (Kp (w.heap.size + 1) W w5) := HK.out.tr (Kp.of hb5)
        obtain ⟨z0, z1, z2, z3⟩ := HZB.out _ HK5.out
        have hlt5 : w.heap.size < w5.heap.size := by have h1 := HK5.out.size; have h2 := HSW.out; omega
        rcases hmade with ⟨c, h0, hmk, rfl⟩ | ⟨m, b, hmk, hmn, hm10, hble, rfl, hown5⟩
        · have hne : (c != 0) = true := by simpa using h0
          have HB5 : Hid (Below w.heap.size w w5) := HOUT.out _ HK5.out
          unfold noOrder
          clear hmk hb5
          go_wp2_with fail
          refine (giveUp_any c 0 _).mono ?_
          rintro e w6 ⟨rfl, rfl⟩
          exact ⟨rfl, .inr ⟨c, 0, h0, rfl⟩, HB5.out.alloc HB5.out.size _⟩
        · obtain rfl : n = m := by omega
          have HGOT : Hid (Got s n l) := by
            refine ⟨h10, HQ.out, by omega, ?_⟩
            rw [HLL.out]
            rcases hmk with ⟨h, _⟩ | ⟨m, hm, _, ⟨h, _⟩ | ⟨_, ⟨h, _⟩ | ⟨_, h⟩⟩⟩
            · cases h
            · cases h
            · cases h
            · obtain rfl : n = m := by omega
              exact h
          rw [← HLL.out] at hown5
          have HOW5 : Hid (Own w5 b n (reachOut (mk (pairAt l) l.length) n n)) := hown5
          have HBL : Hid (wr.heap.size ≤ b) := hble
          have HSZ2 : Hid (W.heap.size ≤ wr.heap.size) := HK.out.size
          have HFB : Hid (Below w.heap.size w ((w5.setCell ⟨w.heap.size, 0, none⟩ (.int .i64 (n : Int))).setCell ⟨w.heap.size, 1, none⟩ (.slice (some ⟨b, 0, none⟩) n n))) := set2 (HOUT.out _ HK5.out)
          have hbne : b ≠ w.heap.size := by have h1 := HBL.out; have h2 := HSZ2.out; have h3 := HSW.out; omega
          have HFR : Hid (∀ k, k < n → ((w5.setCell ⟨w.heap.size, 0, none⟩ (.int .i64 (n : Int))).setCell ⟨w.heap.size, 1, none⟩ (.slice (some ⟨b, 0, none⟩) n n)).cell? ⟨b, k, none⟩ = some (.int .i64 (reachOut (mk (pairAt l) l.length) n n k : Nat))) := fun k hk => by
            rw [World.cell?_setCell_other _ _ _ _ (fun e => hbne (by injection e with e1; exact e1.symm)), World.cell?_setCell_other _ _ _ _ (fun e => hbne (by injection e with e1; exact e1.symm))]
            exact (HOW5.out k hk).1
          clear hbne hmk hown5 hb5 hble
          go_wp2_with fail
          refine bodyPost_ret (v := .agg #[.int .i64 (n : Int), .slice (some ⟨b, 0, none⟩) n n]) (by simp [results, Tryd.results9, go_sem, z0, z1, hlt5]) rfl ⟨.inl ⟨n, l, b, rfl, (by have h1 := HBL.out; have h2 := HSZ2.out; have h3 := HSW.out; omega), HGOT.out, ?_⟩, ?_⟩
          · intro k hk
            have hc := HFR.out k hk
            refine ⟨b, 0, rfl, ?_⟩
            rw [Nat.zero_add]
            exact (((Below.refl _ _).alloc (Nat.le_refl _) _).cell (p := ⟨b, k, none⟩) (World.block_lt_of_cell? _ _ hc)).trans hc
          · exact HFB.out.alloc HFB.out.size _
  · have hsz' : (2000 : Int) < (s.size : Int) := by omega
    have HB1 : Hid (Below w.heap.size w (w.alloc (.cells #[.int .i64 0, .slice none 0 0] 25))) := (Below.refl _ _).alloc (Nat.le_refl _) _
    go_enter Tryd.func9, Tryd.ntmps9
    go_wp2_with fail
    refine (giveUp_any 2 0 _).mono ?_
    rintro e w6 ⟨rfl, rfl⟩
    exact ⟨rfl, .inr ⟨2, 0, by decide, rfl⟩, HB1.out⟩
end Go.Proofs.YtkakhmkgapnlfaaDoor
