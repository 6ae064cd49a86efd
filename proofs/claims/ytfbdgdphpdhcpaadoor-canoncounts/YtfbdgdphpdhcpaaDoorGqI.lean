/-
  How many lists leave each form as it is, reckoned. No condition.
  CanonCounts, from its start to its return. Condition: the library's tables.
-/
import Derived.Test.YtfbdgdphpdhcpaaDoorGqE
namespace Go.Proofs.YtfbdgdphpdhcpaaDoor
open Go Go.Conc Go.RowKit Sm
set_option maxRecDepth 100000

theorem cn_0_0 : cntL [] = 1 := by decide +kernel
theorem cn_1_0 : cntL [0] = 1 := by decide +kernel
theorem cn_2_0 : cntL [0, 0] = 2 := by decide +kernel
theorem cn_2_1 : cntL [0, 1] = 1 := by decide +kernel
theorem cn_3_0 : cntL [0, 0, 0] = 6 := by decide +kernel
theorem cn_3_1 : cntL [0, 0, 1] = 1 := by decide +kernel
theorem cn_3_2 : cntL [0, 0, 3] = 2 := by decide +kernel
theorem cn_3_3 : cntL [0, 1, 1] = 2 := by decide +kernel
theorem cn_3_4 : cntL [0, 1, 3] = 1 := by decide +kernel
theorem cn_4_0 : cntL [0, 0, 0, 0] = 24 := by decide +kernel
theorem cn_4_1 : cntL [0, 0, 0, 1] = 2 := by decide +kernel
theorem cn_4_2 : cntL [0, 0, 0, 3] = 2 := by decide +kernel
theorem cn_4_3 : cntL [0, 0, 0, 7] = 6 := by decide +kernel
theorem cn_4_4 : cntL [0, 0, 1, 1] = 2 := by decide +kernel
theorem cn_4_5 : cntL [0, 0, 1, 2] = 2 := by decide +kernel
theorem cn_4_6 : cntL [0, 0, 1, 3] = 1 := by decide +kernel
theorem cn_4_7 : cntL [0, 0, 1, 5] = 1 := by decide +kernel
theorem cn_4_8 : cntL [0, 0, 1, 7] = 1 := by decide +kernel
theorem cn_4_9 : cntL [0, 0, 3, 3] = 4 := by decide +kernel
theorem cn_4_10 : cntL [0, 0, 3, 7] = 2 := by decide +kernel
theorem cn_4_11 : cntL [0, 1, 1, 1] = 6 := by decide +kernel
theorem cn_4_12 : cntL [0, 1, 1, 3] = 1 := by decide +kernel
theorem cn_4_13 : cntL [0, 1, 1, 7] = 2 := by decide +kernel
theorem cn_4_14 : cntL [0, 1, 3, 3] = 2 := by decide +kernel
theorem cn_4_15 : cntL [0, 1, 3, 7] = 1 := by decide +kernel
theorem cn_5_0 : cntL [0, 0, 0, 0, 0] = 120 := by decide +kernel
theorem cn_5_1 : cntL [0, 0, 0, 0, 1] = 6 := by decide +kernel
theorem cn_5_2 : cntL [0, 0, 0, 0, 3] = 4 := by decide +kernel
theorem cn_5_3 : cntL [0, 0, 0, 0, 7] = 6 := by decide +kernel
theorem cn_5_4 : cntL [0, 0, 0, 0, 15] = 24 := by decide +kernel
theorem cn_5_5 : cntL [0, 0, 0, 1, 1] = 4 := by decide +kernel
theorem cn_5_6 : cntL [0, 0, 0, 1, 2] = 2 := by decide +kernel
theorem cn_5_7 : cntL [0, 0, 0, 1, 3] = 1 := by decide +kernel
theorem cn_5_8 : cntL [0, 0, 0, 1, 6] = 2 := by decide +kernel
theorem cn_5_9 : cntL [0, 0, 0, 1, 7] = 2 := by decide +kernel
theorem cn_5_10 : cntL [0, 0, 0, 1, 9] = 2 := by decide +kernel
theorem cn_5_11 : cntL [0, 0, 0, 1, 11] = 1 := by decide +kernel
theorem cn_5_12 : cntL [0, 0, 0, 1, 15] = 2 := by decide +kernel
theorem cn_5_13 : cntL [0, 0, 0, 3, 3] = 4 := by decide +kernel
theorem cn_5_14 : cntL [0, 0, 0, 3, 5] = 2 := by decide +kernel
theorem cn_5_15 : cntL [0, 0, 0, 3, 7] = 2 := by decide +kernel
theorem cn_5_16 : cntL [0, 0, 0, 3, 11] = 2 := by decide +kernel
theorem cn_5_17 : cntL [0, 0, 0, 3, 15] = 2 := by decide +kernel
theorem cn_5_18 : cntL [0, 0, 0, 7, 7] = 12 := by decide +kernel
theorem cn_5_19 : cntL [0, 0, 0, 7, 15] = 6 := by decide +kernel
theorem cn_5_20 : cntL [0, 0, 1, 1, 1] = 6 := by decide +kernel
theorem cn_5_21 : cntL [0, 0, 1, 1, 2] = 2 := by decide +kernel
theorem cn_5_22 : cntL [0, 0, 1, 1, 3] = 2 := by decide +kernel
theorem cn_5_23 : cntL [0, 0, 1, 1, 5] = 1 := by decide +kernel
theorem cn_5_24 : cntL [0, 0, 1, 1, 7] = 1 := by decide +kernel
theorem cn_5_25 : cntL [0, 0, 1, 1, 13] = 2 := by decide +kernel
theorem cn_5_26 : cntL [0, 0, 1, 1, 15] = 2 := by decide +kernel
theorem cn_5_27 : cntL [0, 0, 1, 2, 3] = 2 := by decide +kernel
theorem cn_5_28 : cntL [0, 0, 1, 2, 5] = 1 := by decide +kernel
theorem cn_5_29 : cntL [0, 0, 1, 2, 7] = 1 := by decide +kernel
theorem cn_5_30 : cntL [0, 0, 1, 2, 15] = 2 := by decide +kernel
theorem cn_5_31 : cntL [0, 0, 1, 3, 3] = 2 := by decide +kernel
theorem cn_5_32 : cntL [0, 0, 1, 3, 5] = 1 := by decide +kernel
theorem cn_5_33 : cntL [0, 0, 1, 3, 7] = 1 := by decide +kernel
theorem cn_5_34 : cntL [0, 0, 1, 3, 11] = 1 := by decide +kernel
theorem cn_5_35 : cntL [0, 0, 1, 3, 15] = 1 := by decide +kernel
theorem cn_5_36 : cntL [0, 0, 1, 5, 5] = 2 := by decide +kernel
theorem cn_5_37 : cntL [0, 0, 1, 5, 7] = 1 := by decide +kernel
theorem cn_5_38 : cntL [0, 0, 1, 5, 13] = 1 := by decide +kernel
theorem cn_5_39 : cntL [0, 0, 1, 5, 15] = 1 := by decide +kernel
theorem cn_5_40 : cntL [0, 0, 1, 7, 7] = 2 := by decide +kernel
theorem cn_5_41 : cntL [0, 0, 1, 7, 15] = 1 := by decide +kernel
theorem cn_5_42 : cntL [0, 0, 3, 3, 3] = 12 := by decide +kernel
theorem cn_5_43 : cntL [0, 0, 3, 3, 7] = 2 := by decide +kernel
theorem cn_5_44 : cntL [0, 0, 3, 3, 15] = 4 := by decide +kernel
theorem cn_5_45 : cntL [0, 0, 3, 7, 7] = 4 := by decide +kernel
theorem cn_5_46 : cntL [0, 0, 3, 7, 15] = 2 := by decide +kernel
theorem cn_5_47 : cntL [0, 1, 1, 1, 1] = 24 := by decide +kernel
theorem cn_5_48 : cntL [0, 1, 1, 1, 3] = 2 := by decide +kernel
theorem cn_5_49 : cntL [0, 1, 1, 1, 7] = 2 := by decide +kernel
theorem cn_5_50 : cntL [0, 1, 1, 1, 15] = 6 := by decide +kernel
theorem cn_5_51 : cntL [0, 1, 1, 3, 3] = 2 := by decide +kernel
theorem cn_5_52 : cntL [0, 1, 1, 3, 5] = 2 := by decide +kernel
theorem cn_5_53 : cntL [0, 1, 1, 3, 7] = 1 := by decide +kernel
theorem cn_5_54 : cntL [0, 1, 1, 3, 11] = 1 := by decide +kernel
theorem cn_5_55 : cntL [0, 1, 1, 3, 15] = 1 := by decide +kernel
theorem cn_5_56 : cntL [0, 1, 1, 7, 7] = 4 := by decide +kernel
theorem cn_5_57 : cntL [0, 1, 1, 7, 15] = 2 := by decide +kernel
theorem cn_5_58 : cntL [0, 1, 3, 3, 3] = 6 := by decide +kernel
theorem cn_5_59 : cntL [0, 1, 3, 3, 7] = 1 := by decide +kernel
theorem cn_5_60 : cntL [0, 1, 3, 3, 15] = 2 := by decide +kernel
theorem cn_5_61 : cntL [0, 1, 3, 7, 7] = 2 := by decide +kernel
theorem cn_5_62 : cntL [0, 1, 3, 7, 15] = 1 := by decide +kernel
theorem l1_is : lvl 1 = [[0]] := by decide +kernel
theorem l2_is : lvl 2 = [[0, 0], [0, 1]] := by decide +kernel
def okB (n : Nat) (o : List Nat) : Bool := decide (o.length = n) && (decide (0 < cntL o) && decide (facL n % cntL o = 0))
theorem ok_0 : (lvq 0).all (okB 0) = true := by
  simp only [lvq, okB, List.all_cons, List.all_nil, cn_0_0]
  rfl
theorem sum_0 : sumL 0 (lvq 0) = 1 := by
  simp only [lvq, sumL, List.map_cons, List.map_nil, List.foldr_cons, List.foldr_nil, cn_0_0]
  rfl
theorem ok_1 : (lvq 1).all (okB 1) = true := by
  simp only [lvq, l1_is, okB, List.all_cons, List.all_nil, cn_1_0]
  rfl
theorem sum_1 : sumL 1 (lvq 1) = 1 := by
  simp only [lvq, l1_is, sumL, List.map_cons, List.map_nil, List.foldr_cons, List.foldr_nil, cn_1_0]
  rfl
theorem ok_2 : (lvq 2).all (okB 2) = true := by
  simp only [lvq, l2_is, okB, List.all_cons, List.all_nil, cn_2_0, cn_2_1]
  rfl
theorem sum_2 : sumL 2 (lvq 2) = 3 := by
  simp only [lvq, l2_is, sumL, List.map_cons, List.map_nil, List.foldr_cons, List.foldr_nil, cn_2_0, cn_2_1]
  rfl
theorem ok_3 : (lvq 3).all (okB 3) = true := by
  simp only [lvq, L3, okB, List.all_cons, List.all_nil, cn_3_0, cn_3_1, cn_3_2, cn_3_3, cn_3_4]
  rfl
theorem sum_3 : sumL 3 (lvq 3) = 19 := by
  simp only [lvq, L3, sumL, List.map_cons, List.map_nil, List.foldr_cons, List.foldr_nil, cn_3_0, cn_3_1, cn_3_2, cn_3_3, cn_3_4]
  rfl
theorem ok_4 : (lvq 4).all (okB 4) = true := by
  simp only [lvq, L4, okB, List.all_cons, List.all_nil, cn_4_0, cn_4_1, cn_4_2, cn_4_3, cn_4_4, cn_4_5, cn_4_6, cn_4_7, cn_4_8, cn_4_9, cn_4_10, cn_4_11, cn_4_12, cn_4_13, cn_4_14, cn_4_15]
  rfl
theorem sum_4 : sumL 4 (lvq 4) = 219 := by
  simp only [lvq, L4, sumL, List.map_cons, List.map_nil, List.foldr_cons, List.foldr_nil, cn_4_0, cn_4_1, cn_4_2, cn_4_3, cn_4_4, cn_4_5, cn_4_6, cn_4_7, cn_4_8, cn_4_9, cn_4_10, cn_4_11, cn_4_12, cn_4_13, cn_4_14, cn_4_15]
  rfl
theorem ok_5 : (lvq 5).all (okB 5) = true := by
  simp only [lvq, L5, okB, List.all_cons, List.all_nil, cn_5_0, cn_5_1, cn_5_2, cn_5_3, cn_5_4, cn_5_5, cn_5_6, cn_5_7, cn_5_8, cn_5_9, cn_5_10, cn_5_11, cn_5_12, cn_5_13, cn_5_14, cn_5_15, cn_5_16, cn_5_17, cn_5_18, cn_5_19, cn_5_20, cn_5_21, cn_5_22, cn_5_23, cn_5_24, cn_5_25, cn_5_26, cn_5_27, cn_5_28, cn_5_29, cn_5_30, cn_5_31, cn_5_32, cn_5_33, cn_5_34, cn_5_35, cn_5_36, cn_5_37, cn_5_38, cn_5_39, cn_5_40, cn_5_41, cn_5_42, cn_5_43, cn_5_44, cn_5_45, cn_5_46, cn_5_47, cn_5_48, cn_5_49, cn_5_50, cn_5_51, cn_5_52, cn_5_53, cn_5_54, cn_5_55, cn_5_56, cn_5_57, cn_5_58, cn_5_59, cn_5_60, cn_5_61, cn_5_62]
  rfl
theorem sum_5 : sumL 5 (lvq 5) = 4231 := by
  simp only [lvq, L5, sumL, List.map_cons, List.map_nil, List.foldr_cons, List.foldr_nil, cn_5_0, cn_5_1, cn_5_2, cn_5_3, cn_5_4, cn_5_5, cn_5_6, cn_5_7, cn_5_8, cn_5_9, cn_5_10, cn_5_11, cn_5_12, cn_5_13, cn_5_14, cn_5_15, cn_5_16, cn_5_17, cn_5_18, cn_5_19, cn_5_20, cn_5_21, cn_5_22, cn_5_23, cn_5_24, cn_5_25, cn_5_26, cn_5_27, cn_5_28, cn_5_29, cn_5_30, cn_5_31, cn_5_32, cn_5_33, cn_5_34, cn_5_35, cn_5_36, cn_5_37, cn_5_38, cn_5_39, cn_5_40, cn_5_41, cn_5_42, cn_5_43, cn_5_44, cn_5_45, cn_5_46, cn_5_47, cn_5_48, cn_5_49, cn_5_50, cn_5_51, cn_5_52, cn_5_53, cn_5_54, cn_5_55, cn_5_56, cn_5_57, cn_5_58, cn_5_59, cn_5_60, cn_5_61, cn_5_62]
  rfl
theorem fok5 : L5.all fokB = true := by decide +kernel
theorem lvq_fok : ∀ n, n ≤ 5 → ∀ o ∈ lvq n, FOk o := by
  intro n hn o ho
  match n, hn with
  | 0, _ => exact fok_of (List.all_eq_true.1 (show (lvq 0).all fokB = true by decide +kernel) o ho)
  | 1, _ => exact fok_of (List.all_eq_true.1 (show (lvl 1).all fokB = true by decide +kernel) o ho)
  | 2, _ => exact fok_of (List.all_eq_true.1 (show (lvl 2).all fokB = true by decide +kernel) o ho)
  | 3, _ => exact fok_of (List.all_eq_true.1 (show L3.all fokB = true by decide +kernel) o ho)
  | 4, _ => exact fok_of (List.all_eq_true.1 l4_fok o ho)
  | 5, _ => exact fok_of (List.all_eq_true.1 fok5 o ho)
theorem lvq_cnt : ∀ n, n ≤ 5 → ∀ o ∈ lvq n, o.length = n ∧ 0 < cntL o ∧ facL n % cntL o = 0 := by
  intro n hn o ho
  have h : okB n o = true := by
    match n, hn with
    | 0, _ => exact List.all_eq_true.1 ok_0 o ho
    | 1, _ => exact List.all_eq_true.1 ok_1 o ho
    | 2, _ => exact List.all_eq_true.1 ok_2 o ho
    | 3, _ => exact List.all_eq_true.1 ok_3 o ho
    | 4, _ => exact List.all_eq_true.1 ok_4 o ho
    | 5, _ => exact List.all_eq_true.1 ok_5 o ho
  unfold okB at h
  simpa only [Bool.and_eq_true, decide_eq_true_eq] using h
theorem lvq_sum : ∀ n, n ≤ 5 → [1, 1, 3, 19, 219, 4231][n]? = some (sumL n (lvq n)) := by
  intro n hn
  match n, hn with
  | 0, _ => rw [sum_0]; rfl
  | 1, _ => rw [sum_1]; rfl
  | 2, _ => rw [sum_2]; rfl
  | 3, _ => rw [sum_3]; rfl
  | 4, _ => rw [sum_4]; rfl
  | 5, _ => rw [sum_5]; rfl
theorem lvq_len : ∀ n, n ≤ 5 → (lvq n).length < 1000 := by
  intro n hn
  match n, hn with
  | 0, _ => decide
  | 1, _ => show (lvl 1).length < 1000; rw [l1_is]; decide
  | 2, _ => show (lvl 2).length < 1000; rw [l2_is]; decide
  | 3, _ => decide
  | 4, _ => decide
  | 5, _ => decide
end Go.Proofs.YtfbdgdphpdhcpaaDoor
namespace Go.Proofs.YtfbdgdphpdhcpaaDoor
open Go Go.Conc Go.RowKit Sm
set_option maxRecDepth 100000

abbrev sumT (n : Nat) (l : List (List Nat)) : Nat := sumL n l
theorem sumL_snoc (n : Nat) (l : List (List Nat)) (o : List Nat) : sumL n (l ++ [o]) = sumL n l + facL n / cntL o := by
  unfold sumL
  induction l with
  | nil => simp
  | cons x l ih => simp at ih ⊢; omega
theorem sumL_le (n : Nat) (hn : n ≤ 5) (l : List (List Nat)) : sumL n l ≤ 120 * l.length := by
  have hf : facL n ≤ 120 := by
    match n, hn with
    | 0, _ => decide
    | 1, _ => decide
    | 2, _ => decide
    | 3, _ => decide
    | 4, _ => decide
    | 5, _ => decide
  unfold sumL
  induction l with
  | nil => simp
  | cons x l ih =>
    have := Nat.div_le_self (facL n) (cntL x)
    simp at ih ⊢
    omega
/-- What the loop holds. -/
structure K1 (r : Nat → Nat → Prop) (v0 v : World) (tm tm' : Array Value) (bf capf n i : Nat) : Prop where
  hb : HB v0 v
  xr : XR (Rg Tryd.prog afs cgs r) tm tm'
  rg : ∀ g ∈ cgs, r g g
  sz : tm.size = 62
  t0 : tm[0]? = some (.int .i64 (n : Nat))
  t3 : tm[3]? = some (.slice (some ⟨bf, 0, none⟩) (lvq n).length capf)
  t5 : tm[5]? = some (.int .i64 (sumL n ((lvq n).take i) : Nat))
  t6 : tm[6]? = some (.int .i64 (i : Nat))
  lv : LObj v bf (lvq n)
  tab0 : Tab v0
theorem K1.mv {r r' : Nat → Nat → Prop} {v0 v v' : World} {tm tm' tm1 tm1' : Array Value} {bf capf n i : Nat} (h : K1 r v0 v tm tm' bf capf n i)
    (hr : ∀ b b', r b b' → r' b b') (hv : HB v v') (hx : XR (Rg Tryd.prog afs cgs r') tm1 tm1') (hs : tm1.size = 62) (ht : ∀ j, j < 7 → tm1[j]? = tm[j]?) : K1 r' v0 v' tm1 tm1' bf capf n i where
  hb := h.hb.trans hv
  xr := hx
  rg g hg := hr _ _ (h.rg g hg)
  sz := hs
  t0 := (ht 0 (by simp)).trans h.t0
  t3 := (ht 3 (by simp)).trans h.t3
  t5 := (ht 5 (by simp)).trans h.t5
  t6 := (ht 6 (by simp)).trans h.t6
  lv := h.lv.hn (hv.hn 70)
  tab0 := h.tab0
section
variable {Fin : Value → World → Prop} {K : World} {k : List Item} {rc : List Frame}
theorem k_loop {C : Code} (hC : IsK C) {v0 : World} {bf capf n : Nat} (hn : n ≤ 5)
    (hk : ∀ r v tm tm', K1 r v0 v tm tm' bf capf n (lvq n).length → Mc Fin K r v (fun _ => none) none (G (fF GK tm' k [] .normal) rc)) :
    ∀ d i, i + d = (lvq n).length → ∀ r v tm tm', K1 r v0 v tm tm' bf capf n i → Mc Fin K r v (fun _ => none) none (G (fF GK tm' (.code (kbody C) :: .inLoop (kbody C) :: .inBlock 0 :: k) [] .normal) rc) := by
  intro d
  induction d with
  | zero =>
    intro i hi r v tm tm' h
    obtain rfl : i = (lvq n).length := by omega
    refine mmv (mv_seq _ _) ?_
    refine mmv (mv_seq _ _) ?_
    refine mpiece gk_in (gk_ok hC (by simp)) h.rg h.xr (Q := fun s w => HB v w ∧ s.tmps.size = 62 ∧ s.tmps[23]? = some (.bool (decide (((lvq n).length : Int) < ((lvq n).length : Int)))) ∧ ∀ j, j < 9 → s.tmps[j]? = tm[j]?) (fun τ => ?_) fun r1 v1 tm1 tm1' hr1 hx1 hq => ?_
    · rw [hC]; exact k_r9 tm _ _ _ _ (tap τ v) h.sz h.t6 h.t3
    obtain ⟨hb1, s1, e23, e1⟩ := hq
    rw [decide_eq_false (by omega)] at e23
    refine mmv (mv_cond (b := false) (eval_tmp (D := []) (vr_bool hx1 e23))) ?_
    refine mmv (mv_exit (k' := k) rfl) ?_
    exact hk r1 v1 tm1 tm1' (h.mv hr1 hb1 hx1 s1 fun j hj => e1 j (by omega))
  | succ d ih =>
    intro i hi r v tm tm' h
    have hil : i < (lvq n).length := by omega
    refine mmv (mv_seq _ _) ?_
    refine mmv (mv_seq _ _) ?_
    refine mpiece gk_in (gk_ok hC (by simp)) h.rg h.xr (Q := fun s w => HB v w ∧ s.tmps.size = 62 ∧ s.tmps[23]? = some (.bool (decide ((i : Int) < ((lvq n).length : Int)))) ∧ ∀ j, j < 9 → s.tmps[j]? = tm[j]?) (fun τ => ?_) fun r1 v1 tm1 tm1' hr1 hx1 hq => ?_
    · rw [hC]; exact k_r9 tm _ _ _ _ (tap τ v) h.sz h.t6 h.t3
    obtain ⟨hb1, s1, e23, e1⟩ := hq
    rw [decide_eq_true (by omega)] at e23
    refine mmv (mv_cond (b := true) (eval_tmp (D := []) (vr_bool hx1 e23))) ?_
    refine mmv mv_skip ?_
    have h1 := h.mv hr1 hb1 hx1 s1 fun j hj => e1 j (by omega)
    clear hr1 hx1 hb1 e23 e1 h
    refine mmv (mv_seq _ _) ?_
    refine mmv (mv_block _ _) ?_
    refine mmv (mv_seq _ _) ?_
    obtain ⟨o, ho⟩ : ∃ o, (lvq n)[i]? = some o := ⟨_, List.getElem?_eq_getElem hil⟩
    have hmem : o ∈ lvq n := List.mem_of_getElem? ho
    have hFO := lvq_fok n hn o hmem
    obtain ⟨hlen, hc0, hcd⟩ := lvq_cnt n hn o hmem
    obtain ⟨cf, fr, hcf, hlv⟩ := h1.lv
    obtain ⟨p, q, hO, hp, hq⟩ := hlv i o ho
    obtain ⟨pn, qa, ql, qc, rfl, rfl⟩ := oval_form hO
    refine mpiece gk_in (gk_ok hC (by simp)) h1.rg h1.xr (Q := fun s w => HB v1 w ∧ s.tmps.size = 62 ∧ (∃ q cap, s.tmps[7]? = some (.slice q (cntL o) cap)) ∧ s.tmps[8]? = some (.int .i64 0) ∧ ∀ j, j < 7 → s.tmps[j]? = tm1[j]?) (fun τ => ?_) fun r2 v2 tm2 tm2' hr2 hx2 hq2 => ?_
    · rw [hC]
      exact k_r11 tm1 bf (lvq n).length capf i o pn qa ql qc (tap τ v1) h1.sz h1.t3 h1.t6 hil hO (by unfold World.cell?; rw [show (tap τ v1).heap[bf]? = _ from hcf]; exact hp) (by unfold World.cell?; rw [show (tap τ v1).heap[bf]? = _ from hcf]; exact hq) hFO hc0 (h1.hb.tab h1.tab0)
    obtain ⟨hb2, s2, ⟨qq, cap, u7⟩, u8, e2⟩ := hq2
    have h2 := h1.mv hr2 hb2 hx2 s2 fun j hj => e2 j (by omega)
    clear hr2 hx2 hb2 e2 h1 hO hp hq hlv hcf
    refine mmv (mv_seq _ _) ?_
    refine mmv (mv_seq _ _) ?_
    refine mpiece gk_in (gk_ok hC (by simp)) h2.rg h2.xr (Q := fun s w => HB v2 w ∧ s.tmps.size = 62 ∧ s.tmps[48]? = some (.bool false) ∧ ∀ j, j < 9 → s.tmps[j]? = tm2[j]?) (fun τ => ?_) fun r3 v3 tm3 tm3' hr3 hx3 hq3 => ?_
    · rw [hC]; exact k_r12 tm2 n cap (cntL o) qq (tap τ v2) h2.sz hn h2.t0 u8 u7 hc0 hcd
    obtain ⟨hb3, s3, e48, e3⟩ := hq3
    have u7 := (e3 7 (by decide)).trans u7
    have h3 := h2.mv hr3 hb3 hx3 s3 fun j hj => e3 j (by omega)
    refine mmv (mv_cond (b := false) (eval_tmp (D := []) (vr_bool hx3 e48))) ?_
    refine mmv mv_skip ?_
    clear hr3 hx3 hb3 e3 h2 e48
    have hsb : sumL n ((lvq n).take i) ≤ 100000 := by
      have h4 := sumL_le n hn ((lvq n).take i)
      have h5 : ((lvq n).take i).length ≤ 63 := by
        have h6 : (lvq n).length ≤ 63 := by
          match n, hn with
          | 0, _ => decide
          | 1, _ => show (lvl 1).length ≤ 63; rw [l1_is]; decide
          | 2, _ => show (lvl 2).length ≤ 63; rw [l2_is]; decide
          | 3, _ => decide
          | 4, _ => decide
          | 5, _ => decide
        simp
        omega
      omega
    refine mpiece gk_in (gk_ok hC (by simp)) h3.rg h3.xr (Q := fun s w => HB v3 w ∧ s.tmps.size = 62 ∧ s.tmps[5]? = some (.int .i64 ((sumL n ((lvq n).take i) + facL n / cntL o : Nat) : Int)) ∧ ∀ j, j < 9 → j ≠ 5 → s.tmps[j]? = tm3[j]?) (fun τ => ?_) fun r4 v4 tm4 tm4' hr4 hx4 hq4 => ?_
    · rw [hC]; exact k_r14 tm3 n cap (cntL o) qq _ (tap τ v3) h3.sz hn h3.t5 h3.t0 u7 hc0 hsb
    obtain ⟨hb4, s4, u5, e4⟩ := hq4
    refine mmv (mv_inBlock _) ?_
    refine mpiece gk_in (gk_ok hC (by simp)) (fun g h => hr4 _ _ (h3.rg g h)) hx4 (Q := fun s w => HB v4 w ∧ s.tmps.size = 62 ∧ s.tmps[6]? = some (.int .i64 ((i + 1 : Nat) : Int)) ∧ ∀ j, j < 9 → j ≠ 6 → s.tmps[j]? = tm4[j]?) (fun τ => ?_) fun r5 v5 tm5 tm5' hr5 hx5 hq5 => ?_
    · rw [hC]; exact k_r10 tm4 i (tap τ v4) s4 ((e4 6 (by decide) (by decide)).trans h3.t6) (by have := lvq_len n hn; omega)
    obtain ⟨hb5, s5, u6, e5⟩ := hq5
    refine mmv (mv_inLoop _) ?_
    have hk5 : ∀ j, j = 0 ∨ j = 3 → tm5[j]? = tm3[j]? := fun j hj => (e5 j (by omega) (by omega)).trans (e4 j (by omega) (by omega))
    refine ih (i + 1) (by omega) r5 v5 tm5 tm5' ⟨(h3.hb.trans hb4).trans hb5, hx5, fun g h => hr5 _ _ (hr4 _ _ (h3.rg g h)), s5, (hk5 0 (by simp)).trans h3.t0, (hk5 3 (by simp)).trans h3.t3, ?_, u6, h3.lv.hn ((hb4.trans hb5).hn 70), h3.tab0⟩
    rw [(e5 5 (by decide) (by decide)).trans u5, List.take_add_one, ho, Option.toList_some, sumL_snoc]
end
end Go.Proofs.YtfbdgdphpdhcpaaDoor
