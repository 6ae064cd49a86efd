/-
  How many lists leave each form as it is, reckoned. No condition.
-/
import Derived.Test.YtfbdgdphpdhcpaaDoorGqE
namespace Go.Proofs.YtfbdgdphpdhcpaaDoor
open Go Go.Conc Go.RowKit Sm
set_option maxRecDepth 100000

theorem cn_0_0 : cntL [] = 1 := by decide +kernel
theorem cn_1_0 : cntL [0] = 1 := by decide +kernel
theorem cn_2_0 : cntL [0, 0] = 2 := by decide +kernel
theorem cn_2_1 : cntL [0, 1] = 1 := by decide +kernel
theorem cn_3_0 : cntL [0, 0, 0] = 6 := by decide +kernel
theorem cn_3_1 : cntL [0, 0, 1] = 1 := by decide +kernel
theorem cn_3_2 : cntL [0, 0, 3] = 2 := by decide +kernel
theorem cn_3_3 : cntL [0, 1, 1] = 2 := by decide +kernel
theorem cn_3_4 : cntL [0, 1, 3] = 1 := by decide +kernel
theorem cn_4_0 : cntL [0, 0, 0, 0] = 24 := by decide +kernel
theorem cn_4_1 : cntL [0, 0, 0, 1] = 2 := by decide +kernel
theorem cn_4_2 : cntL [0, 0, 0, 3] = 2 := by decide +kernel
theorem cn_4_3 : cntL [0, 0, 0, 7] = 6 := by decide +kernel
theorem cn_4_4 : cntL [0, 0, 1, 1] = 2 := by decide +kernel
theorem cn_4_5 : cntL [0, 0, 1, 2] = 2 := by decide +kernel
theorem cn_4_6 : cntL [0, 0, 1, 3] = 1 := by decide +kernel
theorem cn_4_7 : cntL [0, 0, 1, 5] = 1 := by decide +kernel
theorem cn_4_8 : cntL [0, 0, 1, 7] = 1 := by decide +kernel
theorem cn_4_9 : cntL [0, 0, 3, 3] = 4 := by decide +kernel
theorem cn_4_10 : cntL [0, 0, 3, 7] = 2 := by decide +kernel
theorem cn_4_11 : cntL [0, 1, 1, 1] = 6 := by decide +kernel
theorem cn_4_12 : cntL [0, 1, 1, 3] = 1 := by decide +kernel
theorem cn_4_13 : cntL [0, 1, 1, 7] = 2 := by decide +kernel
theorem cn_4_14 : cntL [0, 1, 3, 3] = 2 := by decide +kernel
theorem cn_4_15 : cntL [0, 1, 3, 7] = 1 := by decide +kernel
theorem cn_5_0 : cntL [0, 0, 0, 0, 0] = 120 := by decide +kernel
theorem cn_5_1 : cntL [0, 0, 0, 0, 1] = 6 := by decide +kernel
theorem cn_5_2 : cntL [0, 0, 0, 0, 3] = 4 := by decide +kernel
theorem cn_5_3 : cntL [0, 0, 0, 0, 7] = 6 := by decide +kernel
theorem cn_5_4 : cntL [0, 0, 0, 0, 15] = 24 := by decide +kernel
theorem cn_5_5 : cntL [0, 0, 0, 1, 1] = 4 := by decide +kernel
theorem cn_5_6 : cntL [0, 0, 0, 1, 2] = 2 := by decide +kernel
theorem cn_5_7 : cntL [0, 0, 0, 1, 3] = 1 := by decide +kernel
theorem cn_5_8 : cntL [0, 0, 0, 1, 6] = 2 := by decide +kernel
theorem cn_5_9 : cntL [0, 0, 0, 1, 7] = 2 := by decide +kernel
theorem cn_5_10 : cntL [0, 0, 0, 1, 9] = 2 := by decide +kernel
theorem cn_5_11 : cntL [0, 0, 0, 1, 11] = 1 := by decide +kernel
theorem cn_5_12 : cntL [0, 0, 0, 1, 15] = 2 := by decide +kernel
theorem cn_5_13 : cntL [0, 0, 0, 3, 3] = 4 := by decide +kernel
theorem cn_5_14 : cntL [0, 0, 0, 3, 5] = 2 := by decide +kernel
theorem cn_5_15 : cntL [0, 0, 0, 3, 7] = 2 := by decide +kernel
theorem cn_5_16 : cntL [0, 0, 0, 3, 11] = 2 := by decide +kernel
theorem cn_5_17 : cntL [0, 0, 0, 3, 15] = 2 := by decide +kernel
theorem cn_5_18 : cntL [0, 0, 0, 7, 7] = 12 := by decide +kernel
theorem cn_5_19 : cntL [0, 0, 0, 7, 15] = 6 := by decide +kernel
theorem cn_5_20 : cntL [0, 0, 1, 1, 1] = 6 := by decide +kernel
theorem cn_5_21 : cntL [0, 0, 1, 1, 2] = 2 := by decide +kernel
theorem cn_5_22 : cntL [0, 0, 1, 1, 3] = 2 := by decide +kernel
theorem cn_5_23 : cntL [0, 0, 1, 1, 5] = 1 := by decide +kernel
theorem cn_5_24 : cntL [0, 0, 1, 1, 7] = 1 := by decide +kernel
theorem cn_5_25 : cntL [0, 0, 1, 1, 13] = 2 := by decide +kernel
theorem cn_5_26 : cntL [0, 0, 1, 1, 15] = 2 := by decide +kernel
theorem cn_5_27 : cntL [0, 0, 1, 2, 3] = 2 := by decide +kernel
theorem cn_5_28 : cntL [0, 0, 1, 2, 5] = 1 := by decide +kernel
theorem cn_5_29 : cntL [0, 0, 1, 2, 7] = 1 := by decide +kernel
theorem cn_5_30 : cntL [0, 0, 1, 2, 15] = 2 := by decide +kernel
theorem cn_5_31 : cntL [0, 0, 1, 3, 3] = 2 := by decide +kernel
theorem cn_5_32 : cntL [0, 0, 1, 3, 5] = 1 := by decide +kernel
theorem cn_5_33 : cntL [0, 0, 1, 3, 7] = 1 := by decide +kernel
theorem cn_5_34 : cntL [0, 0, 1, 3, 11] = 1 := by decide +kernel
theorem cn_5_35 : cntL [0, 0, 1, 3, 15] = 1 := by decide +kernel
theorem cn_5_36 : cntL [0, 0, 1, 5, 5] = 2 := by decide +kernel
theorem cn_5_37 : cntL [0, 0, 1, 5, 7] = 1 := by decide +kernel
theorem cn_5_38 : cntL [0, 0, 1, 5, 13] = 1 := by decide +kernel
theorem cn_5_39 : cntL [0, 0, 1, 5, 15] = 1 := by decide +kernel
theorem cn_5_40 : cntL [0, 0, 1, 7, 7] = 2 := by decide +kernel
theorem cn_5_41 : cntL [0, 0, 1, 7, 15] = 1 := by decide +kernel
theorem cn_5_42 : cntL [0, 0, 3, 3, 3] = 12 := by decide +kernel
theorem cn_5_43 : cntL [0, 0, 3, 3, 7] = 2 := by decide +kernel
theorem cn_5_44 : cntL [0, 0, 3, 3, 15] = 4 := by decide +kernel
theorem cn_5_45 : cntL [0, 0, 3, 7, 7] = 4 := by decide +kernel
theorem cn_5_46 : cntL [0, 0, 3, 7, 15] = 2 := by decide +kernel
theorem cn_5_47 : cntL [0, 1, 1, 1, 1] = 24 := by decide +kernel
theorem cn_5_48 : cntL [0, 1, 1, 1, 3] = 2 := by decide +kernel
theorem cn_5_49 : cntL [0, 1, 1, 1, 7] = 2 := by decide +kernel
theorem cn_5_50 : cntL [0, 1, 1, 1, 15] = 6 := by decide +kernel
theorem cn_5_51 : cntL [0, 1, 1, 3, 3] = 2 := by decide +kernel
theorem cn_5_52 : cntL [0, 1, 1, 3, 5] = 2 := by decide +kernel
theorem cn_5_53 : cntL [0, 1, 1, 3, 7] = 1 := by decide +kernel
theorem cn_5_54 : cntL [0, 1, 1, 3, 11] = 1 := by decide +kernel
theorem cn_5_55 : cntL [0, 1, 1, 3, 15] = 1 := by decide +kernel
theorem cn_5_56 : cntL [0, 1, 1, 7, 7] = 4 := by decide +kernel
theorem cn_5_57 : cntL [0, 1, 1, 7, 15] = 2 := by decide +kernel
theorem cn_5_58 : cntL [0, 1, 3, 3, 3] = 6 := by decide +kernel
theorem cn_5_59 : cntL [0, 1, 3, 3, 7] = 1 := by decide +kernel
theorem cn_5_60 : cntL [0, 1, 3, 3, 15] = 2 := by decide +kernel
theorem cn_5_61 : cntL [0, 1, 3, 7, 7] = 2 := by decide +kernel
theorem cn_5_62 : cntL [0, 1, 3, 7, 15] = 1 := by decide +kernel
theorem l1_is : lvl 1 = [[0]] := by decide +kernel
theorem l2_is : lvl 2 = [[0, 0], [0, 1]] := by decide +kernel
def okB (n : Nat) (o : List Nat) : Bool := decide (o.length = n) && (decide (0 < cntL o) && decide (facL n % cntL o = 0))
theorem ok_0 : (lvq 0).all (okB 0) = true := by
  simp only [lvq, okB, List.all_cons, List.all_nil, cn_0_0]
  rfl
theorem ok_1 : (lvq 1).all (okB 1) = true := by
  simp only [lvq, l1_is, okB, List.all_cons, List.all_nil, cn_1_0]
  rfl
theorem ok_2 : (lvq 2).all (okB 2) = true := by
  simp only [lvq, l2_is, okB, List.all_cons, List.all_nil, cn_2_0, cn_2_1]
  rfl
theorem ok_3 : (lvq 3).all (okB 3) = true := by
  simp only [lvq, L3, okB, List.all_cons, List.all_nil, cn_3_0, cn_3_1, cn_3_2, cn_3_3, cn_3_4]
  rfl
theorem ok_4 : (lvq 4).all (okB 4) = true := by
  simp only [lvq, L4, okB, List.all_cons, List.all_nil, cn_4_0, cn_4_1, cn_4_2, cn_4_3, cn_4_4, cn_4_5, cn_4_6, cn_4_7, cn_4_8, cn_4_9, cn_4_10, cn_4_11, cn_4_12, cn_4_13, cn_4_14, cn_4_15]
  rfl
theorem ok_5 : (lvq 5).all (okB 5) = true := by
  simp only [lvq, L5, okB, List.all_cons, List.all_nil, cn_5_0, cn_5_1, cn_5_2, cn_5_3, cn_5_4, cn_5_5, cn_5_6, cn_5_7, cn_5_8, cn_5_9, cn_5_10, cn_5_11, cn_5_12, cn_5_13, cn_5_14, cn_5_15, cn_5_16, cn_5_17, cn_5_18, cn_5_19, cn_5_20, cn_5_21, cn_5_22, cn_5_23, cn_5_24, cn_5_25, cn_5_26, cn_5_27, cn_5_28, cn_5_29, cn_5_30, cn_5_31, cn_5_32, cn_5_33, cn_5_34, cn_5_35, cn_5_36, cn_5_37, cn_5_38, cn_5_39, cn_5_40, cn_5_41, cn_5_42, cn_5_43, cn_5_44, cn_5_45, cn_5_46, cn_5_47, cn_5_48, cn_5_49, cn_5_50, cn_5_51, cn_5_52, cn_5_53, cn_5_54, cn_5_55, cn_5_56, cn_5_57, cn_5_58, cn_5_59, cn_5_60, cn_5_61, cn_5_62]
  rfl
theorem lvq_cnt : ∀ n, n ≤ 5 → ∀ o ∈ lvq n, o.length = n ∧ 0 < cntL o ∧ facL n % cntL o = 0 := by
  intro n hn o ho
  have h : okB n o = true := by
    match n, hn with
    | 0, _ => exact List.all_eq_true.1 ok_0 o ho
    | 1, _ => exact List.all_eq_true.1 ok_1 o ho
    | 2, _ => exact List.all_eq_true.1 ok_2 o ho
    | 3, _ => exact List.all_eq_true.1 ok_3 o ho
    | 4, _ => exact List.all_eq_true.1 ok_4 o ho
    | 5, _ => exact List.all_eq_true.1 ok_5 o ho
  unfold okB at h
  simpa only [Bool.and_eq_true, decide_eq_true_eq] using h
theorem lvq_len : ∀ n, n ≤ 5 → (lvq n).length < 1000 := by
  intro n hn
  match n, hn with
  | 0, _ => decide
  | 1, _ => show (lvl 1).length < 1000; rw [l1_is]; decide
  | 2, _ => show (lvl 2).length < 1000; rw [l2_is]; decide
  | 3, _ => decide
  | 4, _ => decide
  | 5, _ => decide
end Go.Proofs.YtfbdgdphpdhcpaaDoor
