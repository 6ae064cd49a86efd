/-
  What the reference's ChainCounts answers. Conditions: an order of at most ten points that lies in a slice of numbers.
-/
import Derived.Test.YtncjlfhgenmheaaDoorRefChain
namespace Go.Proofs.YtncjlfhgenmheaaDoor
open Go.RowKit

/-- One more than the most points of a chain among the first sets. -/
def mx1 (g : Nat → Nat) (n s : Nat) : Nat := if chB g n s = true then pc s + 1 else 0
def mx (g : Nat → Nat) (n S : Nat) : Nat := maxTo (mx1 g n) S
theorem mx_no {g : Nat → Nat} {n S : Nat} (h : chB g n S = false) : mx g n (S + 1) = mx g n S := maxTo_le (by simp [mx1, h])
theorem mx_yes {g : Nat → Nat} {n S : Nat} (h : chB g n S = true) : mx g n (S + 1) = max (mx g n S) (pc S + 1) := by
  show max (mx g n S) (mx1 g n S) = _
  rw [show mx1 g n S = pc S + 1 by simp [mx1, h]]
theorem mx_le (g : Nat → Nat) (n S : Nat) : mx g n S ≤ 11 := (maxTo_le_iff _ _ _).2 fun s _ => by
  have := pcn_le s 10
  unfold mx1
  split
  · unfold pc; omega
  · omega
theorem cN_succ_no {g : Nat → Nat} {n S : Nat} (h : chB g n S = false) (s : Nat) : cN g n s (S + 1) = cN g n s S := by
  show cN g n s S + ind (chB g n S && (pc S == s)) = _
  rw [h]; rfl
theorem cN_same {g : Nat → Nat} {n S : Nat} (h : chB g n S = true) : cN g n (pc S) (S + 1) = cN g n (pc S) S + 1 := by
  show cN g n (pc S) S + ind (chB g n S && (pc S == pc S)) = _
  rw [h]; simp [ind]
theorem cN_other {g : Nat → Nat} {n S s : Nat} (h : pc S ≠ s) : cN g n s (S + 1) = cN g n s S := by
  show cN g n s S + ind (chB g n S && (pc S == s)) = _
  have : (pc S == s) = false := by simpa using h
  rw [this, Bool.and_false]; rfl
theorem cN_high {g : Nat → Nat} {n S s : Nat} (h : mx g n S ≤ s) : cN g n s S = 0 := by
  refine (sumTo_congr S fun S' hS' => ?_).trans (sumTo_zero S)
  cases hc : chB g n S'
  · rfl
  · have h1 := le_maxTo (φ := mx1 g n) hS'
    have h2 : mx1 g n S' = pc S' + 1 := by simp [mx1, hc]
    have h3 : maxTo (mx1 g n) S = mx g n S := rfl
    have : (pc S' == s) = false := by simp; omega
    rw [this]; rfl
theorem cN_le {g : Nat → Nat} {n s S : Nat} (hS : S ≤ 1024) : cN g n s S ≤ 1024 := Nat.le_trans (ind_sum_le _ _) hS
theorem mx_end {g : Nat → Nat} {n : Nat} (hn : n ≤ 10) (hg : ∀ k, k < n → g k < pw n) (ho : Ord n g) : mx g n (pw n) = tops g n + 1 := by
  have hpos : ∀ s, 0 < cN g n s (pw n) → s ≤ tops g n := fun s hs => by
    match s, hs with
    | 0, _ => exact Nat.zero_le _
    | s + 1, hs =>
      rw [cN_succ hn hg ho s] at hs
      exact (tot_pos hn hg ho s).1 hs
  have hle : mx g n (pw n) ≤ tops g n + 1 := (maxTo_le_iff _ _ _).2 fun S hS => by
    cases hc : chB g n S
    · simp [mx1, hc]
    · rw [show mx1 g n S = pc S + 1 by simp [mx1, hc]]
      have : 0 < cN g n (pc S) (pw n) := sumTo_pos.2 ⟨S, hS, by rw [hc]; simp [ind]⟩
      have := hpos _ this
      omega
  have hge : tops g n < mx g n (pw n) := by
    rcases Nat.lt_or_ge (tops g n) (mx g n (pw n)) with h | h
    · exact h
    · have h0 := cN_high h
      exfalso
      rcases Nat.eq_zero_or_pos (tops g n) with e | e
      · rw [e, cN_zero hn] at h0; cases h0
      · have e2 : tops g n = (tops g n - 1) + 1 := by omega
        rw [e2, cN_succ hn hg ho] at h0
        have := (tot_pos hn hg ho (tops g n - 1)).2 (by omega)
        omega
  omega
theorem mapTo_head (F : Nat → Nat) (k : Nat) : mapTo F (k + 1) = F 0 :: mapTo (fun s => F (s + 1)) k := by
  simp [mapTo, List.range_succ_eq_map]
theorem chs_eq {g : Nat → Nat} {n : Nat} (hn : n ≤ 10) (hg : ∀ k, k < n → g k < pw n) (ho : Ord n g) : mapTo (fun s => cN g n s (pw n)) (mx g n (pw n)) = chs g n := by
  rw [mx_end hn hg ho, mapTo_head, cN_zero hn]
  unfold chs chTo
  congr 2
  funext s
  exact cN_succ hn hg ho s
theorem mapTo_congr {F G : Nat → Nat} (k : Nat) (h : ∀ s, s < k → F s = G s) : mapTo F k = mapTo G k := by
  apply List.ext_getElem
  · simp [mapTo]
  · intro i h1 h2
    simp [mapTo] at h1 ⊢
    exact h i h1
theorem vals_set {F G : Nat → Nat} {L p : Nat} (_hp : p < L) (h1 : G p = F p + 1) (h2 : ∀ s, s ≠ p → G s = F s) : (natVals (mapTo F L)).set p (.int .i64 ((F p : Int) + 1)) = natVals (mapTo G L) := by
  apply List.ext_getElem
  · simp [natVals, mapTo]
  · intro i hi1 hi2
    simp [natVals, mapTo] at hi1 hi2 ⊢
    rw [List.getElem_set]
    by_cases e : p = i
    · subst e
      rw [if_pos rfl, h1]; simp
    · rw [if_neg e, h2 i (fun h => e h.symm)]; simp

theorem vals_at (F : Nat → Nat) {L p : Nat} (h : p < L) : (natVals (mapTo F L))[p]? = some (.int .i64 (F p : Nat)) := by
  simp [natVals, mapTo, h]
theorem owns_slice {w : World} {base n : Nat} {v : Value} {xs : List Value} (h : w.ownsRow base 3 1 v n xs) : ∃ a cap, v = .slice a n cap := by
  rcases h.2 with ⟨h1, h2⟩ | ⟨g, cap, cur, h1, _⟩
  · exact ⟨none, 0, by rw [h1, h2]⟩
  · exact ⟨_, cap, h1⟩

set_option maxHeartbeats 1000000 in
theorem refChains_any (a : Option Addr) (n cap : Nat) (g : Nat → Nat) (w : World) (h10 : n ≤ 10) (hg : Sm n n g) (ho : Ord n g) (hr : Row w a n (fun k => (g k : Nat))) :
    Calls Tryd.prog 38 #[.agg #[.int .i64 (n : Int), .slice a n cap]] w fun e w' => (∃ v, e = .returned v ∧ NSl w' v (chs g n)) ∧ Below w.heap.size w w' := by
  have HG : Hid (∀ k, k < n → g k < 1024) := fun k hk => Nat.lt_of_lt_of_le (hg k hk) (pw_le n h10)
  have HR : Hid (Row w a n (fun k => (g k : Nat))) := hr
  have HEND : Hid (mapTo (fun s => cN g n s (pw n)) (mx g n (pw n)) = chs g n) := chs_eq h10 hg ho
  have hpw := pw_le n h10
  have HBIT : Hid (∀ w, Calls Tryd.prog 26 #[.int .i64 (n : Nat)] w fun e w' => e = .returned (.int .i64 (pw n : Nat)) ∧ w = w') := fun w => bit_any n w (by omega)
  clear hr hg ho
  generalize pw n = N at *
  obtain ⟨c, HCN⟩ : ∃ c : Nat → Nat → Nat, Hid (c = fun S s => cN g n s S) := ⟨_, rfl⟩
  have HEND2 : Hid (mapTo (c N) (mx g n N) = chs g n) := by rw [HCN.out]; exact HEND.out
  have HC1 : Hid (∀ S s, chB g n S = false → c (S + 1) s = c S s) := fun S s h => by rw [HCN.out]; exact cN_succ_no h s
  have HC2 : Hid (∀ S, chB g n S = true → c (S + 1) (pc S) = c S (pc S) + 1) := fun S h => by rw [HCN.out]; exact cN_same h
  have HC3 : Hid (∀ S s, s ≠ pc S → c (S + 1) s = c S s) := fun S s h => by rw [HCN.out]; exact cN_other (fun e => h e.symm)
  have HC4 : Hid (∀ S s, mx g n S ≤ s → c S s = 0) := fun S s h => by rw [HCN.out]; exact cN_high h
  have HC5 : Hid (∀ S s, S ≤ N → c S s ≤ 1024) := fun S s h => by rw [HCN.out]; exact cN_le (by omega)
  clear HEND HCN
  obtain ⟨i0, hi, hz0, hz1, hz2⟩ := info_parts Tryd.info3
  go_enter Tryd.func38, Tryd.ntmps38
  go_wp2_with fail
  go_loopw [3, 4] (fun v x wx => ∃ S : Nat, S ≤ N ∧ x = .int .i64 S ∧ wx.ownsRow (w.heap.size + 1) 3 1 v (mapTo (c S) (mx g n S)).length (natVals (mapTo (c S) (mx g n S))) ∧ Hid (Below (w.heap.size + 1) (w.alloc (.cells #[.int .i64 (n : Int), .slice a n cap] 24)) wx)) (fun _ x _ => N - (intOf x).toNat)
  case atStart => exact ⟨0, Nat.zero_le _, rfl, World.ownsRow_nil _ _ _ _, Below.refl _ _⟩
  case round =>
    obtain ⟨S, hS, rfl, hown, hB⟩ := hrel
    have hH := Held.kept HR.out hB.out
    have c0 := hH.c0
    have c1 := hH.c1
    by_cases hlt : S < N
    · have hltI : (S : Int) < (N : Int) := by omega
      rcases (Bool.eq_false_or_eq_true (chB g n S)).symm with hb | hb
      · have HM : Hid (mapTo (c (S + 1)) (mx g n (S + 1)) = mapTo (c S) (mx g n S)) := by
          rw [mx_no hb]; exact mapTo_congr _ fun s _ => HC1.out S s hb
        go_wp2_with (go_at_call 26; refine (HBIT.out _).mono ?_; rintro e w' ⟨rfl, rfl⟩)
        refine (isChain_any n a cap g S _ h10 HG.out hH.row (by omega)).mono ?_
        rintro e w1 ⟨rfl, hb1⟩
        rw [hb]
        have HB2 : Hid (Below (w.heap.size + 1) (w.alloc (.cells #[.int .i64 (n : Int), .slice a n cap] 24)) w1) := below_call hB.out hb1
        have hown2 := owns_below hown hb1
        clear hown hb1 hH c0 c1 hB
        go_wp2_with fail
        go_roundw
        case rel => exact ⟨S + 1, by omega, by go_num, by rw [HM.out]; exact hown2, HB2.out⟩
        case measure => simp [intOf]; omega
      · have HM : Hid (mx g n (S + 1) = max (mx g n S) (pc S + 1)) := mx_yes hb
        have hml := mx_le g n S
        have hp10 := pcn_le S 10
        have HP : Hid (pcn S 10 = pc S) := rfl
        rw [HP.out] at hp10
        have HSZ : Hid (∀ w, Calls Tryd.prog 51 #[.int .i64 (S : Nat)] w fun e w' => e = .returned (.int .i64 (pc S : Nat)) ∧ w = w') := fun w => refSize_any S w (by omega)
        have HD2 := HC2.out S hb
        have HD3 := HC3.out S
        have HD4 := HC4.out S
        have HD5 := HC5.out S
        have HX2 : Hid (c (S + 1) (pc S) = c S (pc S) + 1) := HD2
        have HX3 : Hid (∀ s, s ≠ pc S → c (S + 1) s = c S s) := HD3
        have HX4 : Hid (∀ s, mx g n S ≤ s → c S s = 0) := HD4
        have HX5 : Hid (∀ s, c S s ≤ 1024) := fun s => HD5 s hS
        clear HD2 HD3 HD4 HD5 HP
        go_wp2_with (go_at_call 26; refine (HBIT.out _).mono ?_; rintro e w' ⟨rfl, rfl⟩)
        refine (isChain_any n a cap g S _ h10 HG.out hH.row (by omega)).mono ?_
        rintro e w1 ⟨rfl, hb1⟩
        rw [hb]
        have HB2 : Hid (Below (w.heap.size + 1) (w.alloc (.cells #[.int .i64 (n : Int), .slice a n cap] 24)) w1) := below_call hB.out hb1
        have HO2 : Hid (w1.ownsRow (w.heap.size + 1) 3 1 u3 (mapTo (c S) (mx g n S)).length (natVals (mapTo (c S) (mx g n S)))) := owns_below hown hb1
        clear hown hb1 hH c0 c1 hB hb
        generalize pc S = p at *
        generalize mx g n S = M at *
        go_wp2_with fail
        go_loopg [3] (p + 1) (fun m v wx => ∃ L : Nat, M ≤ L ∧ L ≤ max M (p + 1) ∧ p + 1 - L ≤ m ∧ wx.ownsRow (w.heap.size + 1) 3 1 v (mapTo (c S) L).length (natVals (mapTo (c S) L)) ∧ Hid (Below (w.heap.size + 1) (w.alloc (.cells #[.int .i64 (n : Int), .slice a n cap] 24)) wx))
        case atStart => exact ⟨M, Nat.le_refl _, Nat.le_max_left _ _, Nat.sub_le _ _, HO2.out, HB2.out⟩
        case round =>
          clear HO2 HB2
          obtain ⟨L, hML, hLm, hm, hown, hB⟩ := hrel
          have HLL : Hid ((mapTo (c S) L).length = L) := mapTo_len _ _
          rw [HLL.out] at hown
          obtain ⟨aa, cc, hv⟩ := owns_slice hown
          subst hv
          have hL12 : L ≤ 11 := by have : max M (p + 1) ≤ 11 := Nat.max_le.2 ⟨hml, by omega⟩; omega
          have hsz := hB.out.size
          simp at hsz
          by_cases hpl : L ≤ p
          · have hle : (L : Int) ≤ (p : Int) := by omega
            have HZ : Hid (c S L = 0) := HX4.out L hML
            have HE : Hid (mapTo (c S) (L + 1) = mapTo (c S) L ++ [c S L]) := mapTo_succ _ _
            go_wp2_with (first
              | (go_at_call 51; refine (HSZ.out _).mono ?_; rintro e w' ⟨rfl, rfl⟩)
              | (at_builtin; refine wpList_append_own _ rfl _ _ 22 rfl (w.heap.size + 1) 3 i0 (.int .i64 0) 1 8 Tryd.underlying22 hi hz0 hz1 hz2 rfl (by decide) _ _ _ rfl (hown.alloc _) ⟨wr.heap.size, 0, none⟩ 1 1 [.int .i64 0] rfl rfl ?c1 ?c2 ?c3 ?c4 ?c5 ?_))
            case c1 =>
              intro j u hj
              match j, hj with
              | 0, hj => simp at hj; subst hj; simp [Addr.add]
            case c2 => intro u hu; simp at hu; subst hu; rfl
            case c3 => unfold maxLen; omega
            case c4 => omega
            case c5 => simp; omega
            intro v' w2 hown' hgrow _
            have HB5 : Hid (Below (w.heap.size + 1) (w.alloc (.cells #[.int .i64 (n : Int), .slice a n cap] 24)) w2) := below_append hB.out hown hgrow
            have HO5 : Hid (w2.ownsRow (w.heap.size + 1) 3 1 v' (mapTo (c S) (L + 1)).length (natVals (mapTo (c S) (L + 1)))) := by
              rw [mapTo_len, HE.out, HZ.out, natVals_append]; exact hown'
            clear hown' hgrow hown hB hsz
            go_wp2_with fail
            go_roundg (gk - 1)
            case rel => exact ⟨L + 1, by omega, Nat.le_trans (by omega) (Nat.le_max_right _ _), by omega, HO5.out, HB5.out⟩
            case measure => omega
          · have hle : (p : Int) < (L : Int) := by omega
            have HEQ : Hid (L = mx g n (S + 1)) := by
              have h1 : L ≤ max M (p + 1) := hLm
              have h2 : max M (p + 1) ≤ L := Nat.max_le.2 ⟨hML, by omega⟩
              have h3 := HM.out
              have e : L = mx g n (S + 1) := by omega
              exact e
            obtain ⟨gg, cg, hform⟩ := owns_form hown (by omega)
            simp only [Value.slice.injEq] at hform
            obtain ⟨rfl, _, rfl⟩ := hform
            have hcell : wr.cell? ⟨gg, p, none⟩ = some (.int .i64 (c S p : Nat)) := by
              rw [hown.cellAt p (by omega)]
              exact vals_at _ (by omega)
            have hfr := hown.frozenAt p
            have hcp := HX5.out p
            generalize hcv : c S p = cv at *
            have HCV : Hid (c S p = cv) := hcv
            clear hcv
            go_wp2_with (go_at_call 51; refine (HSZ.out _).mono ?_; rintro e w' ⟨rfl, rfl⟩)
            have HB6 : Hid (Below (w.heap.size + 1) (w.alloc (.cells #[.int .i64 (n : Int), .slice a n cap] 24)) (wr.setCell ⟨gg, p, none⟩ (.int .i64 ((cv : Int) + 1)))) := Below.setCell (p := ⟨gg, p, none⟩) hB.out (owns_block hown gg rfl) _
            have HO6 : Hid ((wr.setCell ⟨gg, p, none⟩ (.int .i64 ((cv : Int) + 1))).ownsRow (w.heap.size + 1) 3 1 (.slice (some ⟨gg, 0, none⟩) L cc) (mapTo (c (S + 1)) (mx g n (S + 1))).length (natVals (mapTo (c (S + 1)) (mx g n (S + 1))))) := by
              have h := (hown.stored p (.int .i64 ((cv : Int) + 1))).1
              rw [← HCV.out, vals_set (F := c S) (G := c (S + 1)) (by omega) (by rw [HCV.out]; exact HX2.out) HX3.out] at h
              rw [mapTo_len, ← HEQ.out, ← HCV.out]
              exact h
            go_roundw
            case rel => exact ⟨S + 1, by omega, by go_num, HO6.out, HB6.out⟩
            case measure => simp [intOf]; omega
    · have hSn : S = N := by omega
      have HF : Hid (NSl wr u3 (chs g n)) := by rw [← HEND2.out, ← hSn]; exact owns_nats hown
      have hle : (N : Int) ≤ (S : Int) := by omega
      clear hown hH hSn hlt
      go_wp2_with (go_at_call 26; refine (HBIT.out _).mono ?_; rintro e w' ⟨rfl, rfl⟩)
      go_ret
      exact ⟨⟨_, rfl, HF.out⟩, out_below hB.out⟩
end Go.Proofs.YtncjlfhgenmheaaDoor
