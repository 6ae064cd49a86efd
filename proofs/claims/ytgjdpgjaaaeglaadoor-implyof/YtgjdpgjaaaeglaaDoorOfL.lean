/-
  For every context that is handed in, hasselaw.ImplyOf returns true, and writes nothing that was there. Condition: the table of the least bits.
-/
import Derived.Test.YtgjdpgjaaaeglaaDoorOfP
import Derived.Test.YtgjdpgjaaaeglaaDoorLate
import Derived.Maps.AppendAt
namespace Go.Proofs.YtgjdpgjaaaeglaaDoor
open Go.RowKit

theorem wp_grow {o : Oper} {a : Act} {K : Act → World → Prop} {Q : Exit → Act → World → Prop} (w : World) (s x : Operand)
    (ho : o.op = .call { callee := .builtin .append, args := #[s, x], argTypes := #[23, 23] }) (base : Nat) (v : Value) (n : Nat) (xs : List Value) (hs : a.eval s = v) (hown : w.ownsRow base 3 1 v n xs)
    (b : Nat) (u : Int) (hx : a.eval x = .slice (some ⟨b, 0, none⟩) 1 1) (hc : w.cell? ⟨b, 0, none⟩ = some (.int .i64 u)) (hlen : n ≤ 1024) (hbase : base ≤ w.heap.size)
    (h : ∀ v' w', w'.ownsRow base 3 1 v' (n + 1) (xs ++ [.int .i64 u]) → w.grownBy w' v.ownBlock → (v'.ownBlock = v.ownBlock ∨ v'.ownBlock = some w.heap.size) → K (a.put o.dst v') w') : o.wp Tryd.prog a w K Q := by
  obtain ⟨i0, hi, hz0, hz1, hz2⟩ := info_parts Tryd.info3
  obtain ⟨v', w', hr, h2, h3, _, h5⟩ := run_append_own_at (P := Tryd.prog) w base 23 o.type 3 i0 (.int .i64 0) 1 8 Tryd.underlying23 hi hz0 hz1 hz2 rfl (by decide) v n xs hown ⟨b, 0, none⟩ 1 1 [.int .i64 u] rfl (fun j q hj => by
    match j, hj with
    | 0, hj => simp at hj; subst hj; simpa [Addr.add] using hc) (fun q hq => by simp at hq; subst hq; rfl) (by unfold maxLen; omega) (by omega) hbase
  unfold Oper.wp execOp
  simp only [ho, resolve, invoke, builtin, Sem.run_bind, Sem.run_pure, Result.andThen_ok, List.map_toArray, List.map_cons, List.map_nil, hs, hx, hr]
  exact h v' w' h2 h3 h5

set_option maxHeartbeats 4000000 in
theorem implyOf_any (L R : Int) (a : Option Addr) (len cap : Nat) (f : Nat → Int) (w : World) (hl : len ≤ maxLen) (hr : Row w a len f) (hT : Tab w) :
    Calls Tryd.prog 5 #[.agg #[.int .i64 L, .int .i64 R, .slice a len cap]] w fun e w' => e = .returned (.bool true) ∧ Below w.heap.size w w' := by
  obtain ⟨W0, HW0⟩ : ∃ W0, Hid (W0 = w.alloc (.cells #[.int .i64 L, .int .i64 R, .slice a len cap] 39)) := ⟨_, rfl⟩
  have HB0 : Hid (Below w.heap.size w W0) := by rw [HW0.out]; exact (Below.refl _ _).alloc (Nat.le_refl _) _
  have K0 : GHeld W0 w.heap.size L R a len cap f := by rw [HW0.out]; exact GHeld.box hr
  have HT0 : Hid (Tab W0) := hT.step HB0.out
  have k0 := K0.c0
  have k1 := K0.c1
  have k2 := K0.c2
  clear hr hT
  go_enter Tryd.func5, Tryd.ntmps5
  go_wp2_with fail
  rw [← HW0.out]
  refine (of_any L R a len cap f W0 hl K0.row).mono ?_
  rintro e w1 ⟨he, hb1⟩
  have HB1 : Hid (Below W0.heap.size W0 w1) := hb1
  clear hb1 k0 k1 k2
  have k0 := (K0.step HB1.out).c0
  have k1 := (K0.step HB1.out).c1
  have k2 := (K0.step HB1.out).c2
  rcases he with ⟨c, h0, hc, rfl⟩ | ⟨r, rfl, rfl, hc, l10, r10, hrng, hbas⟩
  · have hne : (c == 0) = false := by simpa using h0
    have HC : Hid (GChk L R len f c) := hc
    clear hc
    go_wp2_with fail
    refine (checkContext_any L R a len cap f w1 hl (K0.step HB1.out).row).mono ?_
    rintro e w2 ⟨⟨c', rfl, hc'⟩, hb2⟩
    obtain rfl := hc'.unique HC.out
    have HB2 : Hid (Below W0.heap.size W0 w2) := Below.then HB1.out hb2
    clear hc' hb2 k0 k1 k2
    go_wp2_with fail
    refine (implyBegun_any _ (HT0.out.step HB2.out)).mono ?_
    rintro e w3 ⟨rfl, hb3⟩
    have HB3 : Hid (Below W0.heap.size W0 w3) := Below.then HB2.out hb3
    clear hb3
    go_wp2_with fail
    refine (rulesAre_any _ _ _ _ [] _ (Nat.zero_le _) (.inl ⟨h0, rfl, rfl, rfl⟩)).mono ?_
    rintro e w4 ⟨rfl, hb4⟩
    have HB4 : Hid (Below W0.heap.size W0 w4) := Below.then HB3.out hb4
    clear hb4
    go_wp2_with fail
    go_ret
    exact ⟨rfl, Below.then HB0.out HB4.out⟩
  · have HC : Hid (GChk (len : Int) (r : Int) len f 0) := hc
    obtain ⟨x, k, cp, c, HE⟩ : ∃ x k cp c, Hid (e = .returned (.tuple #[.slice x k cp, .int .i64 c])) := hbas.form
    have HBS : Hid (∀ W, Below w1.heap.size w1 W → (60 < (bas (clm (nat f) len r) (pw r)).length ∧ c = 2 ∧ (.slice x k cp : Value) = .slice none 0 0) ∨ ((bas (clm (nat f) len r) (pw r)).length ≤ 60 ∧ c = 0 ∧ PSl W (.slice x k cp) (bas (clm (nat f) len r) (pw r)))) := fun W hW => by
      rcases hbas with ⟨h1, h2⟩ | ⟨h1, v, h2, h3⟩
      · have := HE.out.symm.trans h2
        simp at this
        exact .inl ⟨h1, this.2, by simp [this.1]⟩
      · have := HE.out.symm.trans h2
        simp at this
        exact .inr ⟨h1, this.2, by rw [this.1]; exact h3.psl.below hW⟩
    obtain rfl := HE.out
    have hpn := pw_le r r10
    have hpp := pw_pos r
    have HBL : Hid ((bas (clm (nat f) len r) (pw r)).length ≤ 1024) := Nat.le_trans (bas_le _ _) hpn
    have HCB : Hid (∀ s, clm (nat f) len r s < 1024) := fun s => Nat.lt_of_lt_of_le (clm_lt _ _ _ _) hpn
    have HH : Hid (∀ k, k < len → nat f k < 1024) := fun k hk => by
      have := hrng k hk
      unfold nat; omega
    have HRW : Hid (∀ w', Below W0.heap.size W0 w' → Row w' a len (fun k => (nat f k : Nat))) := fun w' h => hrng.row (K0.step h).row
    have HBO : Hid (∀ w' b cp, Row w' b (pw r) (fun k => (clm (nat f) len r k : Nat)) → Calls Tryd.prog 16 #[.slice b (pw r) cp] w' fun e w'' => (∃ v, e = .returned v ∧ PSl w'' v (bas (clm (nat f) len r) (pw r))) ∧ Below w'.heap.size w' w'') := fun w' b cp h => baseOf_any (pw r) (clm (nat f) len r) b cp w' hpn (fun s _ => HCB.out s) h
    clear hc hbas HE
    go_wp2_with fail
    refine (checkContext_any len r a len cap f w1 hl (K0.step HB1.out).row).mono ?_
    rintro e V ⟨⟨c', rfl, hc'⟩, hb2⟩
    obtain rfl := hc'.unique HC.out
    have HB2 : Hid (Below w1.heap.size w1 V) := hb2
    have HBV : Hid (Below W0.heap.size W0 V) := Below.then HB1.out hb2
    clear hc' hb2 k0 k1 k2
    have hc0 : ∀ w', Below V.heap.size V w' → w'.cell? ⟨w.heap.size, 0, none⟩ = some (.int .i64 (len : Int)) := fun w' h => (K0.step (Below.then HBV.out h)).c0
    have hc1 : ∀ w', Below V.heap.size V w' → w'.cell? ⟨w.heap.size, 1, none⟩ = some (.int .i64 (r : Int)) := fun w' h => (K0.step (Below.then HBV.out h)).c1
    have hc2 : ∀ w', Below V.heap.size V w' → w'.cell? ⟨w.heap.size, 2, none⟩ = some (.slice a len cap) := fun w' h => (K0.step (Below.then HBV.out h)).c2
    have HTH : Hid (∀ s, s < 1024 → ∀ w', Below V.heap.size V w' → Calls Tryd.prog 21 #[.agg #[.int .i64 (len : Int), .int .i64 (r : Int), .slice a len cap], .int .i64 (s : Nat)] w' fun e w'' => e = .returned (.int .i64 (ths (nat f) len s : Nat)) ∧ Below w'.heap.size w' w'') := fun s hs w' h => refThings_any a len r cap (nat f) s w' l10 HH.out (HRW.out _ (Below.then HBV.out h)) hs
    have HMK : Hid (∀ s, s < 1024 → ∀ w', Below V.heap.size V w' → Calls Tryd.prog 20 #[.agg #[.int .i64 (len : Int), .int .i64 (r : Int), .slice a len cap], .int .i64 (ths (nat f) len s : Nat)] w' fun e w'' => e = .returned (.int .i64 (clm (nat f) len r s : Nat)) ∧ Below w'.heap.size w' w'') := fun s hs w' h => refMarks_any a len r cap (nat f) (ths (nat f) len s) w' l10 r10 HH.out (HRW.out _ (Below.then HBV.out h)) (Nat.lt_of_lt_of_le (ths_lt _ _ _) (pw_le len l10))
    clear hrng HH HRW
    generalize bas (clm (nat f) len r) (pw r) = Lb at *
    generalize clm (nat f) len r = C at *
    generalize ths (nat f) len = T at *
    go_wp2_with fail
    go_loopw [7, 8] (fun v i wx => ∃ s : Nat, s ≤ pw r ∧ i = .int .i64 s ∧ wx.ownsRow V.heap.size 3 1 v s (rowVals C s) ∧ Hid (Below V.heap.size V wx)) (fun _ i _ => pw r - (intOf i).toNat)
    case atStart => exact ⟨0, Nat.zero_le _, rfl, World.ownsRow_nil _ _ _ _, Below.refl _ _⟩
    case round =>
      obtain ⟨s, hs, rfl, hown, hB⟩ := hrel
      have k1 := hc1 _ hB.out
      by_cases hlt : s < pw r
      · have hlt' : (s : Int) < ((pw r : Nat) : Int) := by omega
        have hs1 : s < 1024 := by omega
        go_wp2_with fail
        refine (bit_any r _ (by omega)).mono ?_
        rintro e w' ⟨rfl, rfl⟩
        clear k1
        go_wp2_with fail
        refine wp_lates (S := (fun w' => Below V.heap.size V w')) (late := (fun _ => false)) (by kernel_rfl) ?_
        obtain ⟨D, HD⟩ : ∃ D, Hid (D = wr.drew) := ⟨_, rfl⟩
        rw [← HD.out]
        have HOD : Hid (D.ownsRow V.heap.size 3 1 u7 s (rowVals C s)) := by rw [HD.out]; exact owns_below hown (Below.refl _ _).drew
        have HS : Hid (Below V.heap.size V D) := by rw [HD.out]; exact hB.out.drew
        refine lates_take (i := 0) (oi := { dst := some 25, op := Go.Op.move (Go.Operand.tmp 7), type := 23, pos := "imply.go:105", after := #[], guard := none }) (v := ?_) rfl (by kernel_rfl) (by kernel_rfl) (by kernel_rfl) ⟨rfl, by kernel_rfl⟩ (fun _ _ _ h => h) (Or.inl ⟨by rfl, ?hy⟩) HS.out ?_
        case hy => (intro w9 hSw; (have e0 := hc0 _ hSw); (have e1 := hc1 _ hSw); (have e2 := hc2 _ hSw); go_simp; try with_reducible rfl)
        try simp only [Act.put, List.setIfInBounds_toArray, List.set_cons_zero, List.set_cons_succ]
        refine lates_take (i := 1) (oi := { dst := some 26, op := Go.Op.load 39 (Go.Operand.tmp 1), type := 39, pos := "imply.go:105", after := #[], guard := none }) (v := ?_) rfl (by kernel_rfl) (by kernel_rfl) (by kernel_rfl) ⟨rfl, by kernel_rfl⟩ (fun _ _ _ h => h) (Or.inl ⟨by rfl, ?hy⟩) HS.out ?_
        case hy => (intro w9 hSw; (have e0 := hc0 _ hSw); (have e1 := hc1 _ hSw); (have e2 := hc2 _ hSw); go_simp; try with_reducible rfl)
        try simp only [Act.put, List.setIfInBounds_toArray, List.set_cons_zero, List.set_cons_succ]
        refine lates_take (i := 2) (oi := { dst := some 27, op := Go.Op.load 39 (Go.Operand.tmp 1), type := 39, pos := "imply.go:105", after := #[], guard := none }) (v := ?_) rfl (by kernel_rfl) (by kernel_rfl) (by kernel_rfl) ⟨rfl, by kernel_rfl⟩ (fun _ _ _ h => h) (Or.inl ⟨by rfl, ?hy⟩) HS.out ?_
        case hy => (intro w9 hSw; (have e0 := hc0 _ hSw); (have e1 := hc1 _ hSw); (have e2 := hc2 _ hSw); go_simp; try with_reducible rfl)
        try simp only [Act.put, List.setIfInBounds_toArray, List.set_cons_zero, List.set_cons_succ]
        refine lates_take (i := 3) (oi := { dst := some 28, op := Go.Op.move (Go.Operand.tmp 8), type := 3, pos := "imply.go:105", after := #[], guard := none }) (v := ?_) rfl (by kernel_rfl) (by kernel_rfl) (by kernel_rfl) ⟨rfl, by kernel_rfl⟩ (fun _ _ _ h => h) (Or.inl ⟨by rfl, ?hy⟩) HS.out ?_
        case hy => (intro w9 hSw; (have e0 := hc0 _ hSw); (have e1 := hc1 _ hSw); (have e2 := hc2 _ hSw); go_simp; try with_reducible rfl)
        try simp only [Act.put, List.setIfInBounds_toArray, List.set_cons_zero, List.set_cons_succ]
        refine lates_ready (rs := [4]) (by kernel_rfl) (by simp) ?_
        refine AllLate.cons (o := { dst := some 29, op := Go.Op.call { callee := Go.Callee.value (Go.Operand.func 21), args := #[Go.Operand.tmp 27, Go.Operand.tmp 28], argTypes := #[39, 3] }, type := 3, pos := "imply.go:105", after := #[{ on := 2, ground := Go.Ground.data }, { on := 3, ground := Go.Ground.data }], guard := none }) rfl (fun K hK => ?_) ?_
        · go_simp
          refine (HTH.out s hs1 _ HS.out).mono ?_
          rintro e w5 ⟨rfl, hb5⟩
          have HW5 : Hid (Below V.heap.size V w5) := Below.then HS.out hb5
          have HO5 := (show Hid _ from owns_below HOD.out hb5)
          clear hb5
          refine hK.out _ _ (fun _ => ?_) ?_
          · exact HW5.out
          have HS := HW5
          clear hK K
          try simp only [Act.put, List.setIfInBounds_toArray, List.set_cons_zero, List.set_cons_succ]
          refine lates_ready (rs := [5]) (by kernel_rfl) (by simp) ?_
          refine AllLate.cons (o := { dst := some 30, op := Go.Op.call { callee := Go.Callee.value (Go.Operand.func 20), args := #[Go.Operand.tmp 26, Go.Operand.tmp 29], argTypes := #[39, 3] }, type := 3, pos := "imply.go:105", after := #[{ on := 1, ground := Go.Ground.data }, { on := 4, ground := Go.Ground.data }, { on := 4, ground := Go.Ground.chain }], guard := none }) rfl (fun K hK => ?_) ?_
          · go_simp
            refine (HMK.out s hs1 _ HW5.out).mono ?_
            rintro e w6 ⟨rfl, hb6⟩
            have HW6 : Hid (Below V.heap.size V w6) := Below.then HW5.out hb6
            have HO6 := (show Hid _ from owns_below HO5.out hb6)
            clear hb6
            obtain ⟨y, HY⟩ : ∃ y, Hid (C s = y) := ⟨_, rfl⟩
            rw [HY.out]
            refine hK.out _ _ (fun _ => ?_) ?_
            · exact HW6.out
            have HS := HW6
            clear hK K
            try simp only [Act.put, List.setIfInBounds_toArray, List.set_cons_zero, List.set_cons_succ]
            refine lates_ready (rs := [6]) (by kernel_rfl) (by simp) ?_
            refine AllLate.cons (o := { dst := some 31, op := Go.Op.buildSlice 23 1 #[(0, Go.Operand.tmp 30)], type := 23, pos := "imply.go:105", after := #[{ on := 5, ground := Go.Ground.data }], guard := none }) rfl (fun K hK => ?_) ?_
            · go_simp
              have HW7 : Hid (Below V.heap.size V (w6.alloc (.cells #[.int .i64 (y : Nat)] 3))) := HW6.out.alloc HW6.out.size _
              have HO7 := (show Hid _ from owns_below HO6.out ((Below.refl w6.heap.size w6).alloc (Nat.le_refl _) (.cells #[.int .i64 (y : Nat)] 3)))
              have hcell : (w6.alloc (.cells #[.int .i64 (y : Nat)] 3)).cell? ⟨w6.heap.size, 0, none⟩ = some (.int .i64 (y : Nat)) := by simp
              refine hK.out _ _ (fun _ => ?_) ?_
              · exact HW7.out
              have HS : Hid (Below V.heap.size V (w6.alloc (.cells #[.int .i64 (y : Nat)] 3))) := HW7.out
              clear hK K
              try simp only [Act.put, List.setIfInBounds_toArray, List.set_cons_zero, List.set_cons_succ]
              refine lates_ready (rs := [7]) (by kernel_rfl) (by simp) ?_
              refine AllLate.cons (o := { dst := some 32, op := Go.Op.call { callee := Go.Callee.builtin Go.Builtin.append, args := #[Go.Operand.tmp 25, Go.Operand.tmp 31], argTypes := #[23, 23] }, type := 23, pos := "imply.go:105", after := #[{ on := 0, ground := Go.Ground.data }, { on := 6, ground := Go.Ground.data }, { on := 5, ground := Go.Ground.chain }], guard := none }) rfl (fun K hK => ?_) ?_
              · rw [if_pos (by rfl)]
                refine wp_grow _ _ _ rfl V.heap.size u7 s _ rfl HO7.out w6.heap.size _ rfl hcell (by omega) HW7.out.size ?_
                intro v8 w8 hown8 hgrow8 hblk8
                have HW8 : Hid (Below V.heap.size V w8) := HW7.out.grown hgrow8 HW7.out.size (owns_block HO7.out)
                refine hK.out _ _ (fun _ => ?_) ?_
                · exact HW8.out
                have HS : Hid (Below V.heap.size V w8) := HW8.out
                clear hK K
                try simp only [Act.put, List.setIfInBounds_toArray, List.set_cons_zero, List.set_cons_succ]
                refine lates_take (i := 8) (oi := { dst := some 7, op := Go.Op.assign (Go.Operand.tmp 32), type := 23, pos := "imply.go:105", after := #[{ on := 7, ground := Go.Ground.data }, { on := 7, ground := Go.Ground.chain }, { on := 0, ground := Go.Ground.phase }, { on := 1, ground := Go.Ground.phase }, { on := 2, ground := Go.Ground.phase }, { on := 3, ground := Go.Ground.phase }, { on := 4, ground := Go.Ground.phase }, { on := 5, ground := Go.Ground.phase }, { on := 6, ground := Go.Ground.phase }, { on := 7, ground := Go.Ground.phase }], guard := none }) (v := ?_) rfl (by kernel_rfl) (by kernel_rfl) (by kernel_rfl) ⟨rfl, by kernel_rfl⟩ (fun _ _ _ h => h) (Or.inl ⟨by rfl, ?hy⟩) HS.out ?_
                case hy => (intro w9 hSw; (have e0 := hc0 _ hSw); (have e1 := hc1 _ hSw); (have e2 := hc2 _ hSw); go_simp; try with_reducible rfl)
                try simp only [Act.put, List.setIfInBounds_toArray, List.set_cons_zero, List.set_cons_succ]
                refine lates_done (by kernel_rfl) ?_ _
                try simp only [Act.put, List.setIfInBounds_toArray, List.set_cons_zero, List.set_cons_succ]
                have HO9 : Hid (w8.ownsRow V.heap.size 3 1 v8 (s + 1) (rowVals C (s + 1))) := by
                  rw [rowVals_succ, HY.out]; exact hown8
                clear hown8 hgrow8 hblk8 HO7 HO6 HO5 HOD hcell
                go_wp2_with fail
                go_roundw
                case rel => exact ⟨s + 1, by omega, by go_num, HO9.out, HW8⟩
                case measure => simp [intOf]; omega
              exact AllLate.nil
            exact AllLate.nil
          exact AllLate.nil
        exact AllLate.nil
      · obtain rfl : s = pw r := by omega
        obtain ⟨pa, pc', e', hrow⟩ := owns_row hown
        subst e'
        have HF : Hid (Row wr pa (pw r) (fun k => (C k : Nat))) := hrow
        have HBR : Hid (Below w1.heap.size w1 wr) := Below.then HB2.out hB.out
        have hle : ((pw r : Nat) : Int) ≤ ((pw r : Nat) : Int) := Int.le_refl _
        clear hown hrow hB
        go_wp2_with fail
        refine (bit_any r _ (by omega)).mono ?_
        rintro e w' ⟨rfl, rfl⟩
        go_wp2_with fail
        refine (HBO.out _ _ _ HF.out).mono ?_
        rintro e w4 ⟨⟨v4, rfl, hv4⟩, hb4⟩
        have HB4 : Hid (Below w1.heap.size w1 w4) := Below.then HBR.out hb4
        have HV4 : Hid (PSl w4 v4 Lb) := hv4
        clear hb4 hv4 HBO HF k1
        go_wp2_with fail
        refine (implyBegun_any _ (HT0.out.step (Below.then HB1.out HB4.out))).mono ?_
        rintro e w5 ⟨rfl, hb5⟩
        have HB5 : Hid (Below w1.heap.size w1 w5) := Below.then HB4.out hb5
        have HV5 : Hid (PSl w5 v4 Lb) := HV4.out.below hb5
        clear hb5 HV4
        go_wp2_with fail
        refine (rulesAre_any _ _ _ _ Lb _ HBL.out (.inr ⟨rfl, HV5.out, HBS.out _ HB5.out⟩)).mono ?_
        rintro e w6 ⟨rfl, hb6⟩
        have HB6 : Hid (Below w1.heap.size w1 w6) := Below.then HB5.out hb6
        clear hb6
        go_wp2_with fail
        go_ret
        exact ⟨rfl, Below.then HB0.out (Below.then HB1.out HB6.out)⟩
end Go.Proofs.YtgjdpgjaaaeglaaDoor
