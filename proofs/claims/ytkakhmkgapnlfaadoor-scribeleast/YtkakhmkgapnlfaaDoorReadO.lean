/-
  What scribe.readOrder answers at the text of an order: the order. Conditions: an order of at most ten points.
-/
import Derived.Test.YtkakhmkgapnlfaaDoorReadM
import Derived.Test.YtkakhmkgapnlfaaDoorReducesM
namespace Go.Proofs.YtkakhmkgapnlfaaDoor
open Go.RowKit

theorem Rd.belowB {w w' : World} {R B : Nat} {s : ByteArray} {i : Nat} (h : Rd w R s i) (hb : Below B w w') (hR : R < B) : Rd w' R s i :=
  ⟨(hb.cell (p := ⟨R, 0, none⟩) hR).trans h.1, (hb.cell (p := ⟨R, 1, none⟩) hR).trans h.2.1, (hb.frozen (p := ⟨R, 1, none⟩) hR).trans h.2.2⟩
theorem Kp.grow {R : Nat} {W w w' : World} (h : Kp R W w) (hb : Below W.heap.size w w') : Kp R W w' :=
  ⟨hb.os.trans h.os, hb.tape.trans h.tape, hb.output.trans h.output, Nat.le_trans h.size hb.size, fun k hk hne => (hb.block k hk).trans (h.block k hk hne)⟩
/-- A slice's length. -/
def lenV (v : Value) : Nat := match v with
  | .slice _ n _ => n
  | _ => 0
theorem owns_lenV {w : World} {base size n : Nat} {e : TypeId} {v : Value} {xs : List Value} (h : w.ownsRow base e size v n xs) : lenV v = n := by
  rcases h.2 with ⟨rfl, h0⟩ | ⟨g, cap, cur, rfl, _⟩
  · exact h0.symm
  · rfl
theorem take_succ' (l : List (Nat × Nat)) (k : Nat) (hk : k < l.length) : l.take (k + 1) = l.take k ++ [l.getD k (0, 0)] := by
  rw [List.take_add_one, List.getD_eq_getElem?_getD, List.getElem?_eq_getElem hk]; rfl
set_option maxRecDepth 20000 in
set_option maxHeartbeats 4000000 in
theorem readOrder_any (n : Nat) (g : Nat → Nat) (w : World) (h10 : n ≤ 10) (hg : Sm n n g) (ho : Ord n g) :
    Calls Tryd.prog 9 #[.string (txt n (covs g n))] w fun e w' => (∃ b, e = .returned (.agg #[.int .i64 (n : Int), .slice (some ⟨b, 0, none⟩) n n]) ∧ w.heap.size ≤ b ∧ Row w' (some ⟨b, 0, none⟩) n (fun k => (g k : Nat))) ∧ Below w.heap.size w w' := by
  obtain ⟨i0, hi, hz0, hz1, hz2⟩ := info_parts Tryd.info50
  have HSAME : Hid (∀ b, b < n → reachOut (mk (pairAt (covs g n)) (covs g n).length) n n b = g b) := fun b hb => all_same h10 hg ho hb
  have HZ : Hid (∀ c, Mk (n : Int) (covs g n).length (pairAt (covs g n)) c → c = 0) := fun c h => sub_mk h10 hg ho (fun _ h => h) h
  have HPB : Hid (PB (covs g n)) := covs_PB g h10
  have HLT : Hid (∀ k, k < (covs g n).length → ((covs g n).getD k (0, 0)).1 < n ∧ ((covs g n).getD k (0, 0)).2 < n) := fun k hk => by
    have hm : (covs g n).getD k (0, 0) ∈ covs g n := by
      rw [List.getD_eq_getElem?_getD, List.getElem?_eq_getElem hk]; exact List.getElem_mem hk
    exact allPairs_lt (covB g n) n n _ hm
  have hl100 : (covs g n).length ≤ 100 := covs_len g h10
  obtain ⟨l, HL⟩ : ∃ l, Hid (covs g n = l) := ⟨_, rfl⟩
  rw [HL.out] at HSAME HZ HPB HLT hl100 ⊢
  have hsz : (txt n l).size ≤ 603 := by rw [txt_size]; exact acc_len h10 HPB.out hl100 _ (Nat.le_refl _)
  have HSZ : Hid ((txt n l).size = (acc n l l.length).length) := by rw [Hid, txt_size]; rfl
  obtain ⟨T, HT⟩ : ∃ T, Hid (txt n l = T) := ⟨_, rfl⟩
  have HHD : Hid ((txt n l).data[(dg n).length]? = some 58) := (head_bytes n l).2
  have HPR : Hid (∀ k, k < l.length → ∀ A p1 p2, (acc n l k).length = A → (l.getD k (0, 0)).1 = p1 → (l.getD k (0, 0)).2 = p2 → (T.data[A]? = some 32 ∧ T.data[A + 1]? = some (UInt8.ofNat (48 + p1)) ∧ T.data[A + 2]? = some 60 ∧ T.data[A + 3]? = some (UInt8.ofNat (48 + p2)) ∧ Stop T (A + 4))) := fun k hk A p1 p2 hA e1 e2 => by rw [← HT.out]; exact pair_bytes HPB.out hk hA e1 e2
  have HNH : Hid (∀ R w, Rd w R T 0 → Calls Tryd.prog 16 #[.pointer (some ⟨R, 0, none⟩), .int .i64 10, .int .i64 2] w fun e w' => e = .returned (.int .i64 (n : Nat)) ∧ MvN R (dg n).length w w') := fun R w h => number_head R n l w (by rw [HT.out]; exact h) h10
  have hdl := dg_len h10
  rw [HT.out] at hsz HSZ HHD ⊢
  obtain ⟨W, HW⟩ : ∃ W, Hid (W = (w.alloc (.cells #[.int .i64 0, .slice none 0 0] 25)).alloc (.cells #[.string T, .int .i64 0] 54)) := ⟨_, rfl⟩
  have HBW : Hid (Below w.heap.size w W) := by rw [HW.out]; exact ((Below.refl _ _).alloc (Nat.le_refl _) _).alloc (by simp) _
  have HRW : Hid (Rd W (w.heap.size + 1) T 0) := by
    rw [HW.out]
    refine ⟨?_, ?_, ?_⟩ <;> simp [World.frozen?_alloc_at]
  have HSW : Hid (W.heap.size = w.heap.size + 2) := by rw [Hid, HW.out]; simp
  have HZB : Hid (∀ w', Kp (w.heap.size + 1) W w' → w'.cell? ⟨w.heap.size, 0, none⟩ = some (.int .i64 0) ∧ w'.cell? ⟨w.heap.size, 1, none⟩ = some (.slice none 0 0) ∧ w'.frozen? ⟨w.heap.size, 0, none⟩ = false ∧ w'.frozen? ⟨w.heap.size, 1, none⟩ = false) := fun w' h => by
    have hb : Below (w.heap.size + 1) W w' := h.below (Nat.le_refl _) (by rw [HSW.out]; omega)
    refine ⟨(hb.cell (p := ⟨w.heap.size, 0, none⟩) (Nat.lt_succ_self _)).trans ?_, (hb.cell (p := ⟨w.heap.size, 1, none⟩) (Nat.lt_succ_self _)).trans ?_, (hb.frozen (p := ⟨w.heap.size, 0, none⟩) (Nat.lt_succ_self _)).trans ?_, (hb.frozen (p := ⟨w.heap.size, 1, none⟩) (Nat.lt_succ_self _)).trans ?_⟩ <;> rw [HW.out] <;> simp
  clear hg ho
  go_enter Tryd.func9, Tryd.ntmps9
  go_wp2_with fail
  rw [← HW.out]
  refine (HNH.out (w.heap.size + 1) _ HRW.out).mono ?_
  rintro e w1 ⟨rfl, m1⟩
  have HM1 : Hid (MvN (w.heap.size + 1) (dg n).length W w1) := m1
  clear m1 HNH
  go_wp2_with fail
  refine (take_any (w.heap.size + 1) T (dg n).length 58 _ (MvN.rd HRW.out HM1.out) HHD.out (by omega)).mono ?_
  rintro e w2 ⟨rfl, m2⟩
  have HM2 : Hid (MvN (w.heap.size + 1) ((dg n).length + 1) W w2) := HM1.out.tr (MvN.of m2)
  have HR2 : Hid (Rd w2 (w.heap.size + 1) T (acc n l 0).length) := by
    rw [acc_pos HPB.out 0 (Nat.zero_le _)]; exact MvN.rd HRW.out HM2.out
  have HK2 : Hid (Kp (w.heap.size + 1) W w2) := HM2.out.kp
  clear m2 HM1 HM2 HW
  go_wp2_with fail
  go_loopw [5] (fun v wx => ∃ k : Nat, k ≤ l.length ∧ Hid (wx.ownsRow W.heap.size 50 2 v k (pairVals (l.take k))) ∧ Hid (Rd wx (w.heap.size + 1) T (acc n l k).length) ∧ Hid (Kp (w.heap.size + 1) W wx)) (fun v _ => 101 - lenV v)
  case atStart => exact ⟨0, Nat.zero_le _, World.ownsRow_nil _ _ _ _, HR2, HK2⟩
  case round =>
    clear HR2 HK2
    obtain ⟨k, hk, HO, HR, HK⟩ := hrel
    obtain ⟨A, HA⟩ : ∃ A, Hid ((acc n l k).length = A) := ⟨_, rfl⟩
    have hAp := acc_pos (n := n) HPB.out k hk
    have hLp := acc_pos (n := n) HPB.out l.length (Nat.le_refl _)
    rw [HA.out] at HR hAp
    have HTs : Hid (T.size = (dg n).length + 1 + 4 * l.length) := by rw [Hid, HSZ.out, hLp]
    have HAp : Hid (A = (dg n).length + 1 + 4 * k) := hAp
    have hA9 : A < 8000000 := by omega
    clear hLp hAp
    have r1 := HR.out.2.1
    by_cases hlt : k < l.length
    · have hcond : (A : Int) < (T.size : Int) := by have h1 := HTs.out; have h2 := HAp.out; omega
      have hpb := HPB.out k hlt
      have hln := HLT.out k hlt
      obtain ⟨p1, HP1⟩ : ∃ p1, Hid ((l.getD k (0, 0)).1 = p1) := ⟨_, rfl⟩
      obtain ⟨p2, HP2⟩ : ∃ p2, Hid ((l.getD k (0, 0)).2 = p2) := ⟨_, rfl⟩
      rw [HP1.out, HP2.out] at hpb hln
      have HBY := HPR.out k hlt A p1 p2 HA.out HP1.out HP2.out
      have HBYH : Hid (T.data[A]? = some 32 ∧ T.data[A + 1]? = some (UInt8.ofNat (48 + p1)) ∧ T.data[A + 2]? = some 60 ∧ T.data[A + 3]? = some (UInt8.ofNat (48 + p2)) ∧ Stop T (A + 4)) := HBY
      have HTK : Hid (l.take (k + 1) = l.take k ++ [(p1, p2)]) := by
        rw [Hid, take_succ' l k hlt, ← HP1.out, ← HP2.out]
      have HAN : Hid ((acc n l (k + 1)).length = A + 4) := by rw [Hid, acc_pos HPB.out _ (by omega)]; have h2 := HAp.out; omega
      have HLV : Hid (lenV u5 = k) := owns_lenV HO.out
      clear HBY
      go_wp2_with fail
      clear r1
      refine (pair_any (w.heap.size + 1) T A n p1 p2 _ _ _ HR.out HBYH.out.1 HBYH.out.2.1 HBYH.out.2.2.1 HBYH.out.2.2.2.1 HBYH.out.2.2.2.2 hpb.1 hpb.2 (dgt hpb.1) (dgt hpb.2) hln.1 hln.2 h10 hA9).mono ?_
      rintro e w3 ⟨rfl, hr3, hk3⟩
      have HR3 : Hid (Rd w3 (w.heap.size + 1) T (A + 4)) := hr3
      have HK3 : Hid (Kp (w.heap.size + 1) W w3) := HK.out.tr hk3
      have hown : w3.ownsRow W.heap.size 50 2 u5 k (pairVals (l.take k)) := hk3.owns HO.out (by rw [HSW.out]; omega)
      have hsz3 : W.heap.size ≤ w3.heap.size := HK3.out.size
      obtain ⟨PL, HPL⟩ : ∃ PL, Hid (pairVals (l.take k) = PL) := ⟨_, rfl⟩
      rw [HPL.out] at hown
      clear hr3 hk3 HR HK HO
      go_wp2_with (at_builtin; refine wpList_append_own _ rfl _ _ 37 rfl W.heap.size 50 i0 (.agg #[.int .i64 0, .int .i64 0]) 2 16 Tryd.underlying37 hi hz0 hz1 hz2 rfl (by decide) _ _ _ rfl (hown.alloc _) ⟨w3.heap.size, 0, none⟩ 1 1 [.int .i64 (p1 : Nat), .int .i64 (p2 : Nat)] rfl rfl ?g1 ?g2 ?g3 ?g4 ?g5 ?_)
      case g1 =>
        intro j u hj
        match j, hj with
        | 0, hj => simp at hj; subst hj; simp [Addr.add]
        | 1, hj => simp at hj; subst hj; simp [Addr.add]
      case g2 => intro u hu; simp at hu; rcases hu with rfl | rfl <;> rfl
      case g3 => unfold maxLen; omega
      case g4 => omega
      case g5 => simp; omega
      intro v' w4 hown' hgrow _
      have hbw : Below W.heap.size w3 w4 := ((Below.refl W.heap.size w3).alloc hsz3 _).grown hgrow (by simp; omega) (owns_block hown)
      have HR4 : Hid (Rd w4 (w.heap.size + 1) T (acc n l (k + 1)).length) := by rw [HAN.out]; exact HR3.out.belowB hbw (by rw [HSW.out]; omega)
      have HK4 : Hid (Kp (w.heap.size + 1) W w4) := HK3.out.grow hbw
      have HO4 : Hid (w4.ownsRow W.heap.size 50 2 v' (k + 1) (pairVals (l.take (k + 1)))) := by
        rw [HTK.out, pairVals_append, HPL.out]; exact hown'
      have HLV4 : Hid (lenV v' = k + 1) := owns_lenV HO4.out
      clear hown' hgrow hown hbw HR3 HK3
      go_wp2_with fail
      go_roundw
      case rel => exact ⟨k + 1, by omega, HO4, HR4, HK4⟩
      case measure => rw [HLV.out, HLV4.out]; omega
    · obtain rfl : k = l.length := by omega
      have hcond : ¬ (A : Int) < (T.size : Int) := by have h1 := HTs.out; have h2 := HAp.out; omega
      have HO' : Hid (wr.ownsRow W.heap.size 50 2 u5 l.length (pairVals l)) := by
        have := HO.out; rw [List.take_length] at this; exact this
      obtain ⟨pa, pc, rfl, hpr⟩ := owns_pairs HO'.out
      have HPRW : Hid (PRow wr pa l.length (pairAt l)) := hpr
      obtain ⟨L, HLL⟩ : ∃ L, Hid (l.length = L) := ⟨_, rfl⟩
      rw [HLL.out] at HPRW ⊢
      have hLm : L ≤ maxLen := by rw [← HLL.out]; unfold maxLen; omega
      clear hpr HO HO'
      go_wp2_with fail
      clear r1
      refine (make_any n pa L pc (pairAt l) _ hLm HPRW.out).mono ?_
      rintro e w5 ⟨hmade, hb5⟩
      rcases hmade with ⟨c, h0, hmk, _⟩ | ⟨m, b, _, hmn, hm10, hble, rfl, hown5⟩
      · rw [← HLL.out] at hmk
        exact absurd (HZ.out c hmk) h0
      obtain rfl : n = m := by omega
      rw [← HLL.out] at hown5
      have HOW5 : Hid (Own w5 b n g) := hown5.congr fun k hk => HSAME.out k hk
      have HK5 : Hid (Kp (w.heap.size + 1) W w5) := HK.out.tr (Kp.of hb5)
      have HBL : Hid (wr.heap.size ≤ b) := hble
      have HSZ2 : Hid (W.heap.size ≤ wr.heap.size) := HK.out.size
      obtain ⟨z0, z1, z2, z3⟩ := HZB.out _ HK5.out
      have hlt5 : w.heap.size < w5.heap.size := by have h1 := HK5.out.size; have h2 := HSW.out; omega
      clear hown5 hb5 hble
      have hbw0 : Below w.heap.size w w5 := HBW.out.trans (HK5.out.below (Nat.le_succ _) (by rw [HSW.out]; omega))
      have HFB : Hid (Below w.heap.size w ((w5.setCell ⟨w.heap.size, 0, none⟩ (.int .i64 (n : Int))).setCell ⟨w.heap.size, 1, none⟩ (.slice (some ⟨b, 0, none⟩) n n))) := set2 hbw0
      have hbne : b ≠ w.heap.size := by have h1 := HBL.out; have h2 := HSZ2.out; have h3 := HSW.out; omega
      have HFR : Hid (∀ k, k < n → ((w5.setCell ⟨w.heap.size, 0, none⟩ (.int .i64 (n : Int))).setCell ⟨w.heap.size, 1, none⟩ (.slice (some ⟨b, 0, none⟩) n n)).cell? ⟨b, k, none⟩ = some (.int .i64 (g k : Nat))) := fun k hk => by
        rw [World.cell?_setCell_other _ _ _ _ (fun e => hbne (by injection e with e1; exact e1.symm)), World.cell?_setCell_other _ _ _ _ (fun e => hbne (by injection e with e1; exact e1.symm))]
        exact (HOW5.out k hk).1
      clear hbw0 hbne
      go_wp2_with fail
      refine bodyPost_ret (v := .agg #[.int .i64 (n : Int), .slice (some ⟨b, 0, none⟩) n n]) (by simp [results, Tryd.results9, go_sem, z0, z1, hlt5]) rfl ⟨⟨b, rfl, (by have h1 := HBL.out; have h2 := HSZ2.out; have h3 := HSW.out; omega), ?_⟩, ?_⟩
      · intro k hk
        have hc := HFR.out k hk
        refine ⟨b, 0, rfl, ?_⟩
        rw [Nat.zero_add]
        exact (((Below.refl _ _).alloc (Nat.le_refl _) _).cell (p := ⟨b, k, none⟩) (World.block_lt_of_cell? _ _ hc)).trans hc
      · exact HFB.out.alloc HFB.out.size _
end Go.Proofs.YtkakhmkgapnlfaaDoor
