/-
  What realize's check and Dimension answer, whatever they are handed: the fewest rows that say an order. No condition but that a slice reads as a slice of numbers.
-/
import Derived.Deep.RegionHeld3
import Derived.Test.YtklfnghgpmjnmaaDoorRzD
import Derived.Test.YtklfnghgpmjnmaaDoorLateM
namespace Go.Proofs.YtklfnghgpmjnmaaDoor
open Go.RowKit

theorem lnVals_at (g : Nat → Nat) (n : Nat) : ∀ (xs : List (Option Addr × Nat × Nat)) (i : Nat) (x : Option Addr × Nat × Nat), xs[i]? = some x → (lnVals g n xs)[i * 2]? = some (encR n x) ∧ (lnVals g n xs)[i * 2 + 1]? = some (.int .u64 (hasK g n x.2.2 : Nat))
  | y :: xs, 0, x, h => by
    simp at h; subst h
    exact ⟨rfl, rfl⟩
  | y :: xs, i + 1, x, h => by
    have := lnVals_at g n xs i x (by simpa using h)
    have e : lnVals g n (y :: xs) = encR n y :: .int .u64 (hasK g n y.2.2 : Nat) :: lnVals g n xs := rfl
    rw [e, show (i + 1) * 2 = i * 2 + 1 + 1 by omega, show i * 2 + 1 + 1 + 1 = (i * 2 + 1) + 1 + 1 by omega]
    simp only [List.getElem?_cons_succ]
    exact this
theorem Lin.lnr {W : World} {Z : Nat} {v : Value} {g : Nat → Nat} {n N : Nat} {xs : List (Option Addr × Nat × Nat)} (h : Lin W Z v g n xs) (hx : xs.map (fun x => x.2.2) = List.range N) (hN : 0 < N) :
    ∃ b cap T, v = .slice (some ⟨b, 0, none⟩) N cap ∧ LnR W b N n T (hasK g n) ∧ ∀ i, i < N → Row W (T i).1 n (fun j => (nP g n i j : Nat)) := by
  have hl : xs.length = N := by have := congrArg List.length hx; simpa using this
  subst hl
  have hown := h.own
  obtain ⟨b, cap, rfl⟩ := owns_form hown hN
  have at' : ∀ i, i < xs.length → ∃ x, xs[i]? = some x ∧ x.2.2 = i := fun i hi => by
    refine ⟨xs[i], List.getElem?_eq_getElem hi, ?_⟩
    have := congrArg (fun l => l[i]?) hx
    simp [List.getElem?_eq_getElem hi, List.getElem?_range hi] at this
    exact this
  refine ⟨b, cap, fun i => ((xs.getD i (none, 0, 0)).1, (xs.getD i (none, 0, 0)).2.1), rfl, ⟨fun i hi => ?_, fun i hi => ?_⟩, fun i hi => ?_⟩
  · obtain ⟨x, e, _⟩ := at' i hi
    rw [hown.cellAt (i * 2) (by omega), (lnVals_at g n xs i x e).1]
    have e4 : xs.getD i (none, 0, 0) = x := by rw [List.getD_eq_getElem?_getD, e]; rfl
    simp only [e4]; rfl
  · obtain ⟨x, e, e2⟩ := at' i hi
    rw [hown.cellAt (i * 2 + 1) (by omega), (lnVals_at g n xs i x e).2, e2]
  · obtain ⟨x, e, e2⟩ := at' i hi
    have h2 := (h.row x (List.mem_of_getElem? e)).2
    obtain ⟨a', c', e3, hr⟩ := owns_row h2
    cases e3
    have e4 : xs.getD i (none, 0, 0) = x := by rw [List.getD_eq_getElem?_getD, e]; rfl
    simp only [e4]
    rw [← e2]
    exact hr
theorem map_ix {l : List Nat} {G : Nat → Value} {i : Nat} (hi : i < l.length) : (l.map G)[i]? = some (G (ix l i)) := by
  unfold ix
  rw [List.getElem?_map, List.getD_eq_getElem?_getD, List.getElem?_eq_getElem hi]; rfl
/-- What check must answer. -/
def SCk (n : Int) (len : Nat) (f : Nat → Int) (c : Int) : Prop := ∃ c0, Chk n len f c0 ∧ c = if c0 = 0 then (if 7 < n then 2 else 0) else c0
theorem SCk.one {n : Int} {len : Nat} {f : Nat → Int} {c c' : Int} (h : SCk n len f c) (h' : SCk n len f c') : c = c' := by
  obtain ⟨d, h1, rfl⟩ := h
  obtain ⟨d', h2, rfl⟩ := h'
  rw [Chk.unique h1 h2]
theorem SCk.good {n : Int} {len : Nat} {f : Nat → Int} (h : SCk n len f 0) : n = (len : Nat) ∧ len ≤ 7 ∧ Chk (len : Nat) len f 0 := by
  obtain ⟨d, h1, h2⟩ := h
  by_cases e : d = 0
  · subst e
    rw [if_pos rfl] at h2
    have hn := h1.good.1
    by_cases e2 : 7 < n
    · rw [if_pos e2] at h2; cases h2
    · subst hn
      exact ⟨rfl, by omega, h1⟩
  · rw [if_neg e] at h2; exact absurd h2.symm e
theorem rcheck_any (n : Int) (a : Option Addr) (len cap : Nat) (f : Nat → Int) (w : World) (hl : len ≤ maxLen) (hr : Row w a len f) :
    Calls Tryd.prog 11 #[.agg #[.int .i64 n, .slice a len cap]] w fun e w' => (∃ c : Int, e = .returned (.int .i64 c) ∧ SCk n len f c) ∧ Below w.heap.size w w' := by
  have HR := (show Hid (Row w a len f) from hr)
  obtain ⟨w1, HW1⟩ : ∃ w1, Hid (w1 = w.alloc (.cells #[.int .i64 n, .slice a len cap] 24)) := ⟨_, rfl⟩
  have hb1 : Below w.heap.size w w1 := by rw [HW1.out]; exact (Below.refl _ _).alloc (Nat.le_refl _) _
  have c0 : w1.cell? ⟨w.heap.size, 0, none⟩ = some (.int .i64 n) := by rw [HW1.out]; simp
  have c1 : w1.cell? ⟨w.heap.size, 1, none⟩ = some (.slice a len cap) := by rw [HW1.out]; simp
  have HB1 : Hid (Below w.heap.size w w1) := hb1
  clear hr hb1
  go_enter Tryd.func11, Tryd.ntmps11
  go_wp2_with fail
  rw [← HW1.out]
  go_wp2_with fail
  refine (check_any n a len cap f _ hl (HR.out.below HB1.out)).mono ?_
  rintro e w2 ⟨⟨c, rfl, hc⟩, hb2⟩
  have HB2 : Hid (Below w.heap.size w w2) := Below.then HB1.out hb2
  have d0 : w2.cell? ⟨w.heap.size, 0, none⟩ = some (.int .i64 n) := (hb2.cell (World.block_lt_of_cell? _ _ c0)).trans c0
  clear hb2
  by_cases e0 : c = 0
  · subst e0
    have h0 : ((0 : Int) != 0) = false := rfl
    by_cases h7 : 7 < n
    · have HF : Hid (SCk n len f 2) := ⟨0, hc, by rw [if_pos rfl, if_pos h7]⟩
      clear hc
      go_wp2_with fail
      go_ret
      exact ⟨⟨2, rfl, HF.out⟩, HB2.out⟩
    · have HF : Hid (SCk n len f 0) := ⟨0, hc, by rw [if_pos rfl, if_neg h7]⟩
      clear hc
      go_wp2_with fail
      go_ret
      exact ⟨⟨0, rfl, HF.out⟩, HB2.out⟩
  · have h0 : (c != 0) = true := by simpa using e0
    have HF : Hid (SCk n len f c) := ⟨c, hc, by rw [if_neg e0]⟩
    clear hc
    go_wp2_with fail
    go_ret
    exact ⟨⟨c, rfl, HF.out⟩, HB2.out⟩
def DimPost (n : Int) (len : Nat) (f : Nat → Int) (e : Ending) (w' : World) : Prop :=
  ∃ c, SCk n len f c ∧ ((c ≠ 0 ∧ e = .returned (.tuple #[.int .i64 0, .slice none 0 0, .int .i64 c])) ∨
    (c = 0 ∧ ∃ (l : List Nat) (a : Option Addr) (cap : Nat) (T : Nat → Option Addr × Nat × Nat), Dim (nat f) len l.length ∧ Cov (nat f) len l ∧ e = .returned (.tuple #[.int .i64 (l.length : Nat), .slice a l.length cap, .int .i64 0]) ∧
      RR w' a l.length T (fun i j => ((nP (nat f) len (ix l i) j : Nat) : Int)) ∧ ∀ i, i < l.length → (T i).2.1 = len))

set_option maxRecDepth 100000 in
set_option maxHeartbeats 4000000 in
theorem dim_any (n : Int) (a : Option Addr) (len cap : Nat) (f : Nat → Int) (w : World) (hl : len ≤ maxLen) (hr : Row w a len f) :
    Calls Tryd.prog 5 #[.agg #[.int .i64 n, .slice a len cap]] w fun e w' => DimPost n len f e w' ∧ Below w.heap.size w w' := by
  have HR0 := (show Hid (Row w a len f) from hr)
  obtain ⟨w1, HW1⟩ : ∃ w1, Hid (w1 = w.alloc (.cells #[.int .i64 n, .slice a len cap] 24)) := ⟨_, rfl⟩
  have hb1 : Below w.heap.size w w1 := by rw [HW1.out]; exact (Below.refl _ _).alloc (Nat.le_refl _) _
  have l0 : w1.cell? ⟨w.heap.size, 0, none⟩ = some (.int .i64 n) := by rw [HW1.out]; simp
  have l1 : w1.cell? ⟨w.heap.size, 1, none⟩ = some (.slice a len cap) := by rw [HW1.out]; simp
  have HB1 : Hid (Below w.heap.size w w1) := hb1
  clear hr hb1
  go_enter Tryd.func5, Tryd.ntmps5
  go_wp2_with fail
  rw [← HW1.out]
  go_wp2_with fail
  refine (rcheck_any n a len cap f _ hl (HR0.out.below HB1.out)).mono ?_
  rintro e W ⟨⟨c, rfl, hc⟩, hb2⟩
  have HBW : Hid (Below w.heap.size w W) := Below.then HB1.out hb2
  by_cases e0 : c = 0
  · subst e0
    obtain ⟨rfl, h7, hck⟩ := hc.good
    have HCK : Hid (Chk (len : Nat) len f 0) := hck
    obtain ⟨_, h10, hrng, hord⟩ := hck.good
    have HSM : Hid (Sm len len (nat f)) := fun k hk => by have := hrng k hk; show (f k).toNat < pw len; omega
    have HOR : Hid (Ord len (nat f)) := hord
    have HG : Hid (∀ k, k < len → nat f k < 128) := fun k hk => Nat.lt_of_lt_of_le (HSM.out k hk) (Nat.le_trans (Nat.pow_le_pow_right (by decide) h7) (by decide))
    have HWP : Hid (0 < ways (nat f) len 0) := by
      obtain ⟨R, h1, _⟩ := rz_some h10 HSM.out HOR.out
      obtain ⟨k, hk, _⟩ := rank_row h10 HSM.out (h1 0 (by omega))
      show 0 < _; omega
    have HWS : Hid (ways (nat f) len 0 ≤ 10000000000) := by have := ways_small (u := nat f) h10 (pw_pos len); show _ ≤ _; omega
    have HOL : Hid (opn (nat f) len < 562949953421312) := opn_lt h7
    have HR : Hid (∀ w', Below W.heap.size W w' → Row w' a len f) := fun w' h => HR0.out.below (Below.then HBW.out h)
    have HR2 : Hid (∀ w', Below W.heap.size W w' → Row w' a len (fun k => (nat f k : Nat))) := fun w' h => hrng.row (HR.out w' h)
    have HWL : Hid (w.heap.size < W.heap.size) := by
      have h1 := World.block_lt_of_cell? _ _ l0
      have h2 := hb2.size
      show _ < _
      simp only at h1; omega
    have g0 : W.cell? ⟨w.heap.size, 0, none⟩ = some (.int .i64 (len : Nat)) := (hb2.cell (World.block_lt_of_cell? _ _ l0)).trans l0
    have g1 : W.cell? ⟨w.heap.size, 1, none⟩ = some (.slice a len cap) := (hb2.cell (World.block_lt_of_cell? _ _ l1)).trans l1
    have c0 : ∀ w', Below W.heap.size W w' → w'.cell? ⟨w.heap.size, 0, none⟩ = some (.int .i64 (len : Nat)) := fun w' h => (h.cell HWL.out).trans g0
    have c1 : ∀ w', Below W.heap.size W w' → w'.cell? ⟨w.heap.size, 1, none⟩ = some (.slice a len cap) := fun w' h => (h.cell HWL.out).trans g1
    clear hb2 l0 l1 g0 g1 hc hck hrng hord HW1 HB1
    go_wp2_with fail
    refine wp_lates (S := (fun w' => Below W.heap.size W w')) (late := (fun _ => false)) (by kernel_rfl) ?_
    have HS : Hid (Below W.heap.size W W.drew) := (Below.refl _ _).drew
    refine lates_take (i := 0) (oi := { dst := some 16, op := Go.Op.load 24 (Go.Operand.tmp 1), type := 24, pos := "realize.go:34", after := #[], guard := none }) (v := ?_) rfl (by kernel_rfl) (by kernel_rfl) (by kernel_rfl) ⟨rfl, by kernel_rfl⟩ (fun _ _ _ h => h) (Or.inl ⟨by rfl, ?hy⟩) HS.out ?_
    case hy => (intro w9 hSw; (have e0 := c0 _ hSw); (have e1 := c1 _ hSw); go_simp; try with_reducible rfl)
    try simp only [Act.put, List.setIfInBounds_toArray, List.set_cons_zero, List.set_cons_succ]
    refine lates_take (i := 2) (oi := { dst := some 18, op := Go.Op.load 24 (Go.Operand.tmp 1), type := 24, pos := "realize.go:34", after := #[], guard := none }) (v := ?_) rfl (by kernel_rfl) (by kernel_rfl) (by kernel_rfl) ⟨rfl, by kernel_rfl⟩ (fun _ _ _ h => h) (Or.inl ⟨by rfl, ?hy⟩) HS.out ?_
    case hy => (intro w9 hSw; (have e0 := c0 _ hSw); (have e1 := c1 _ hSw); go_simp; try with_reducible rfl)
    try simp only [Act.put, List.setIfInBounds_toArray, List.set_cons_zero, List.set_cons_succ]
    refine lates_ready (rs := [1]) (by kernel_rfl) (by simp) ?_
    refine AllLate.cons (o := { dst := some 17, op := Go.Op.call { callee := Go.Callee.value (Go.Operand.func 12), args := #[Go.Operand.tmp 16], argTypes := #[24] }, type := 38, pos := "realize.go:34", after := #[{ on := 0, ground := Go.Ground.data }], guard := none }) rfl (fun K hK => ?_) ?_
    · go_simp
      refine (lay_any len a cap f _ h7 HCK.out (HR.out _ HS.out)).mono ?_
      rintro e w3 ⟨⟨v, xs, rfl, hxs, hlin⟩, hb3⟩
      obtain ⟨b, cap3, T, rfl, hlr, hrows⟩ := hlin.lnr hxs HWP.out
      have HS3 : Hid (Below W.heap.size W w3) := Below.then HS.out hb3
      have HLR : Hid (∀ w', Below w3.heap.size w3 w' → LnR w' b (ways (nat f) len 0) len T (hasK (nat f) len)) := fun w' h => hlr.step h
      have HRW : Hid (∀ w', Below w3.heap.size w3 w' → ∀ i, i < ways (nat f) len 0 → Row w' (T i).1 len (fun j => (nP (nat f) len i j : Nat))) := fun w' h i hi => (hrows i hi).below h
      clear hlr hrows hb3 hlin hxs
      refine hK.out _ _ (fun _ => ?_) ?_
      · exact HS3.out
      have HS := HS3
      clear hK K
      try simp only [Act.put, List.setIfInBounds_toArray, List.set_cons_zero, List.set_cons_succ]
      refine lates_ready (rs := [3]) (by kernel_rfl) (by simp) ?_
      refine AllLate.cons (o := { dst := some 19, op := Go.Op.call { callee := Go.Callee.value (Go.Operand.func 13), args := #[Go.Operand.tmp 18], argTypes := #[24] }, type := 41, pos := "realize.go:34", after := #[{ on := 2, ground := Go.Ground.data }, { on := 1, ground := Go.Ground.chain }], guard := none }) rfl (fun K hK => ?_) ?_
      · go_simp
        refine (undecided_any len a cap (nat f) _ h7 HG.out (HR2.out _ HS.out)).mono ?_
        rintro e w4 ⟨rfl, hb4⟩
        have HS4 : Hid (Below W.heap.size W w4) := Below.then HS.out hb4
        have HB4 : Hid (Below w3.heap.size w3 w4) := hb4
        rw [show pkd (fun b => setBy (stg (nat f) b) len) len = opn (nat f) len from rfl]
        clear hb4
        refine hK.out _ _ (fun _ => ?_) ?_
        · exact HS4.out
        have HS := HS4
        clear hK K
        try simp only [Act.put, List.setIfInBounds_toArray, List.set_cons_zero, List.set_cons_succ]
        refine lates_take (i := 4) (oi := { dst := some 6, op := Go.Op.assign (Go.Operand.tmp 17), type := 38, pos := "realize.go:34", after := #[{ on := 1, ground := Go.Ground.data }, { on := 3, ground := Go.Ground.chain }, { on := 0, ground := Go.Ground.phase }, { on := 1, ground := Go.Ground.phase }, { on := 2, ground := Go.Ground.textOnly Go.Departure.lateStores }, { on := 3, ground := Go.Ground.textOnly Go.Departure.lateStoresUnsure }], guard := none }) (v := ?_) rfl (by kernel_rfl) (by kernel_rfl) (by kernel_rfl) ⟨rfl, by kernel_rfl⟩ (fun _ _ _ h => h) (Or.inl ⟨by rfl, ?hy⟩) HS.out ?_
        case hy => (intro w9 hSw; (have e0 := c0 _ hSw); (have e1 := c1 _ hSw); go_simp; try with_reducible rfl)
        try simp only [Act.put, List.setIfInBounds_toArray, List.set_cons_zero, List.set_cons_succ]
        refine lates_take (i := 5) (oi := { dst := some 7, op := Go.Op.assign (Go.Operand.tmp 19), type := 41, pos := "realize.go:34", after := #[{ on := 3, ground := Go.Ground.data }, { on := 4, ground := Go.Ground.chain }, { on := 0, ground := Go.Ground.phase }, { on := 1, ground := Go.Ground.phase }, { on := 2, ground := Go.Ground.phase }, { on := 3, ground := Go.Ground.phase }, { on := 4, ground := Go.Ground.phase }], guard := none }) (v := ?_) rfl (by kernel_rfl) (by kernel_rfl) (by kernel_rfl) ⟨rfl, by kernel_rfl⟩ (fun _ _ _ h => h) (Or.inl ⟨by rfl, ?hy⟩) HS.out ?_
        case hy => (intro w9 hSw; (have e0 := c0 _ hSw); (have e1 := c1 _ hSw); go_simp; try with_reducible rfl)
        try simp only [Act.put, List.setIfInBounds_toArray, List.set_cons_zero, List.set_cons_succ]
        refine lates_done (by kernel_rfl) ?_ _
        try simp only [Act.put, List.setIfInBounds_toArray, List.set_cons_zero, List.set_cons_succ]
        obtain ⟨X, HX⟩ : ∃ X, Hid (X = opn (nat f) len) := ⟨_, rfl⟩
        rw [← HX.out] at HOL ⊢
        have hOL := HOL.out
        clear HOL
        go_wp2_with fail
        go_loopw [8] (fun x wx => ∃ m : Nat, m < max 1 len ∧ x = .int .i64 ((m + 1 : Nat) : Int) ∧ Hid (∀ j, 0 < j → j ≤ m → pkF (hasK (nat f) len) (ways (nat f) len 0) j X = none) ∧ Hid (Below w4.heap.size w4 wx)) (fun x _ => 9 - (intOf x).toNat)
        case atStart => exact ⟨0, by omega, rfl, fun j h1 h2 => by omega, Below.refl _ _⟩
        case round =>
          obtain ⟨m, hm, rfl, HNO, HBR⟩ := hrel
          have HCALL : Hid (Calls Tryd.prog 14 #[.slice (some ⟨b, 0, none⟩) (ways (nat f) len 0) cap3, .int .u64 (X : Nat), .int .i64 ((m + 1 : Nat) : Int)] wr fun e w' => PkPost wr.heap.size len T (pkF (hasK (nat f) len) (ways (nat f) len 0) (m + 1) X) e w' ∧ Below wr.heap.size wr w') :=
            pick_any b _ cap3 len T (hasK (nat f) len) (fun i => hasK_lt h7 i) HWS.out m X wr (by omega) hOL (HLR.out _ (Below.then HB4.out HBR.out))
          obtain ⟨M, HM⟩ : ∃ M, Hid (M = m + 1) := ⟨_, rfl⟩
          have hM8 : M ≤ 8 := by have := HM.out; omega
          rw [← HM.out] at HCALL ⊢
          go_wp2_with fail
          refine HCALL.out.mono ?_
          rintro e w5 ⟨hP, hb5⟩
          have HB5 : Hid (Below w4.heap.size w4 w5) := Below.then HBR.out hb5
          clear hb5 HCALL
          rw [HM.out] at hP
          rcases hP with ⟨hN0, rfl⟩ | ⟨l, v, hl, rfl, hown⟩
          · have HNX : Hid (∀ j, 0 < j → j ≤ M → pkF (hasK (nat f) len) (ways (nat f) len 0) j X = none) := fun j h1 h2 => by
              have := HM.out
              by_cases e : j = m + 1
              · rw [e]; exact hN0
              · exact HNO.out j h1 (by omega)
            have HML : Hid (M < max 1 len) := by
              have hne := (pick_rz h7 HSM.out HOR.out (m := max 1 len) (by omega)).2 (rz_some (by omega) HSM.out HOR.out)
              rw [← HX.out] at hne
              have := HM.out
              rcases Nat.lt_or_ge M (max 1 len) with h | h
              · exact h
              · exact absurd (HNX.out _ (by omega) h) hne
            clear hN0
            go_wp2_with fail
            go_roundw
            case rel => exact ⟨M, HML.out, by go_num, HNX.out, HB5.out⟩
            case measure => have := HM.out; simp [intOf]; omega
          · rw [HX.out] at hl
            obtain ⟨hd, hcv⟩ := pick_dim h7 HSM.out HOR.out (m := m) (fun j h1 h2 => by have := HNO.out j h1 h2; rw [HX.out] at this; exact this) hl
            obtain ⟨b5, cap5, rfl⟩ := owns_form hown hd.1
            have HFIN : Hid (DimPost (len : Nat) len f (.returned (.tuple #[.int .i64 (l.length : Nat), .slice (some ⟨b5, 0, none⟩) l.length cap5, .int .i64 0])) w5) := ⟨0, ⟨0, HCK.out, by rw [if_pos rfl, if_neg (by omega)]⟩, .inr ⟨rfl, l, _, cap5, fun i => ((T (ix l i)).1, len, (T (ix l i)).2), hd, hcv, rfl, fun i hi => ⟨b5, 0, rfl, by
              rw [Nat.zero_add, hown.cellAt i (by omega)]
              exact map_ix hi, show len ≤ maxLen by unfold maxLen; omega, HRW.out _ (Below.then HB4.out HB5.out) _ (hcv.1 _ (ix_mem hi))⟩, fun _ _ => rfl⟩⟩
            have HBE : Hid (Below w.heap.size w w5) := Below.then (Below.then HBW.out HS4.out) HB5.out
            clear hown hl hd hcv
            go_wp2_with fail
            exact bodyPost_ret (v := .tuple #[.int .i64 (l.length : Nat), .slice (some ⟨b5, 0, none⟩) l.length cap5, .int .i64 0]) (by simp [results, Tryd.results5, go_sem]) rfl ⟨HFIN.out, HBE.out⟩
      exact AllLate.nil
    exact AllLate.nil
  · have h0 : (c != 0) = true := by simpa using e0
    have HF : Hid (DimPost n len f (.returned (.tuple #[.int .i64 0, .slice none 0 0, .int .i64 c])) W) := ⟨c, hc, .inl ⟨e0, rfl⟩⟩
    clear hc hb2 l0 l1
    go_wp2_with fail
    exact bodyPost_ret (v := .tuple #[.int .i64 0, .slice none 0 0, .int .i64 c]) (by simp [results, Tryd.results5, go_sem]) rfl ⟨HF.out, HBW.out⟩
end Go.Proofs.YtklfnghgpmjnmaaDoor
