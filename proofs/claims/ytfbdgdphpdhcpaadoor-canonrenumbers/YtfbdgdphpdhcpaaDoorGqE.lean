/-
  The forms of four and of five points, reckoned; and in how many ways each can be numbered. No condition.
-/
import Derived.Test.YtfbdgdphpdhcpaaDoorGqF
namespace Go.Proofs.YtfbdgdphpdhcpaaDoor
open Go Go.Conc Go.RowKit Sm
set_option maxRecDepth 100000

def L3 : List (List Nat) := [[0, 0, 0], [0, 0, 1], [0, 0, 3], [0, 1, 1], [0, 1, 3]]
def L4 : List (List Nat) := [[0, 0, 0, 0], [0, 0, 0, 1], [0, 0, 0, 3], [0, 0, 0, 7], [0, 0, 1, 1], [0, 0, 1, 2], [0, 0, 1, 3], [0, 0, 1, 5], [0, 0, 1, 7], [0, 0, 3, 3], [0, 0, 3, 7], [0, 1, 1, 1], [0, 1, 1, 3], [0, 1, 1, 7], [0, 1, 3, 3], [0, 1, 3, 7]]
def L5 : List (List Nat) := [[0, 0, 0, 0, 0], [0, 0, 0, 0, 1], [0, 0, 0, 0, 3], [0, 0, 0, 0, 7], [0, 0, 0, 0, 15], [0, 0, 0, 1, 1], [0, 0, 0, 1, 2], [0, 0, 0, 1, 3], [0, 0, 0, 1, 6], [0, 0, 0, 1, 7], [0, 0, 0, 1, 9], [0, 0, 0, 1, 11], [0, 0, 0, 1, 15], [0, 0, 0, 3, 3], [0, 0, 0, 3, 5], [0, 0, 0, 3, 7], [0, 0, 0, 3, 11], [0, 0, 0, 3, 15], [0, 0, 0, 7, 7], [0, 0, 0, 7, 15], [0, 0, 1, 1, 1], [0, 0, 1, 1, 2], [0, 0, 1, 1, 3], [0, 0, 1, 1, 5], [0, 0, 1, 1, 7], [0, 0, 1, 1, 13], [0, 0, 1, 1, 15], [0, 0, 1, 2, 3], [0, 0, 1, 2, 5], [0, 0, 1, 2, 7], [0, 0, 1, 2, 15], [0, 0, 1, 3, 3], [0, 0, 1, 3, 5], [0, 0, 1, 3, 7], [0, 0, 1, 3, 11], [0, 0, 1, 3, 15], [0, 0, 1, 5, 5], [0, 0, 1, 5, 7], [0, 0, 1, 5, 13], [0, 0, 1, 5, 15], [0, 0, 1, 7, 7], [0, 0, 1, 7, 15], [0, 0, 3, 3, 3], [0, 0, 3, 3, 7], [0, 0, 3, 3, 15], [0, 0, 3, 7, 7], [0, 0, 3, 7, 15], [0, 1, 1, 1, 1], [0, 1, 1, 1, 3], [0, 1, 1, 1, 7], [0, 1, 1, 1, 15], [0, 1, 1, 3, 3], [0, 1, 1, 3, 5], [0, 1, 1, 3, 7], [0, 1, 1, 3, 11], [0, 1, 1, 3, 15], [0, 1, 1, 7, 7], [0, 1, 1, 7, 15], [0, 1, 3, 3, 3], [0, 1, 3, 3, 7], [0, 1, 3, 3, 15], [0, 1, 3, 7, 7], [0, 1, 3, 7, 15]]
def M5 : List (List Nat) := [[0, 0, 0, 0, 0], [0, 0, 0, 0, 1], [0, 0, 0, 0, 1], [0, 0, 0, 0, 3], [0, 0, 0, 0, 1], [0, 0, 0, 0, 3], [0, 0, 0, 0, 3], [0, 0, 0, 0, 7], [0, 0, 0, 0, 1], [0, 0, 0, 0, 3], [0, 0, 0, 0, 3], [0, 0, 0, 0, 7], [0, 0, 0, 0, 3], [0, 0, 0, 0, 7], [0, 0, 0, 0, 7], [0, 0, 0, 0, 15], [0, 0, 0, 0, 1], [0, 0, 0, 1, 1], [0, 0, 0, 1, 2], [0, 0, 0, 1, 3], [0, 0, 0, 1, 2], [0, 0, 0, 1, 3], [0, 0, 0, 1, 6], [0, 0, 0, 1, 7], [0, 0, 0, 1, 9], [0, 0, 0, 1, 11], [0, 0, 0, 1, 11], [0, 0, 0, 1, 15], [0, 0, 0, 0, 3], [0, 0, 0, 1, 3], [0, 0, 0, 1, 3], [0, 0, 0, 3, 3], [0, 0, 0, 1, 6], [0, 0, 0, 3, 5], [0, 0, 0, 3, 5], [0, 0, 0, 3, 7], [0, 0, 0, 3, 11], [0, 0, 0, 3, 15], [0, 0, 0, 0, 7], [0, 0, 0, 1, 7], [0, 0, 0, 1, 7], [0, 0, 0, 3, 7], [0, 0, 0, 1, 7], [0, 0, 0, 3, 7], [0, 0, 0, 3, 7], [0, 0, 0, 7, 7], [0, 0, 0, 7, 15], [0, 0, 0, 1, 1], [0, 0, 1, 1, 1], [0, 0, 1, 1, 2], [0, 0, 1, 1, 3], [0, 0, 1, 1, 5], [0, 0, 1, 1, 7], [0, 0, 1, 1, 5], [0, 0, 1, 1, 7], [0, 0, 1, 1, 13], [0, 0, 1, 1, 15], [0, 0, 0, 1, 2], [0, 0, 1, 1, 2], [0, 0, 1, 1, 2], [0, 0, 1, 2, 3], [0, 0, 1, 2, 5], [0, 0, 1, 2, 7], [0, 0, 1, 2, 5], [0, 0, 1, 2, 7], [0, 0, 1, 2, 15], [0, 0, 0, 1, 3], [0, 0, 1, 1, 3], [0, 0, 1, 2, 3], [0, 0, 1, 3, 3], [0, 0, 1, 3, 5], [0, 0, 1, 3, 7], [0, 0, 1, 3, 11], [0, 0, 1, 3, 15], [0, 0, 0, 1, 9], [0, 0, 1, 1, 5], [0, 0, 1, 2, 5], [0, 0, 1, 3, 5], [0, 0, 1, 5, 5], [0, 0, 1, 5, 7], [0, 0, 1, 5, 13], [0, 0, 1, 5, 15], [0, 0, 0, 1, 11], [0, 0, 1, 1, 7], [0, 0, 1, 2, 7], [0, 0, 1, 3, 7], [0, 0, 1, 5, 7], [0, 0, 1, 7, 7], [0, 0, 1, 7, 15], [0, 0, 0, 3, 3], [0, 0, 1, 3, 3], [0, 0, 1, 3, 3], [0, 0, 3, 3, 3], [0, 0, 3, 3, 7], [0, 0, 3, 3, 7], [0, 0, 3, 3, 15], [0, 0, 0, 3, 11], [0, 0, 1, 3, 11], [0, 0, 1, 3, 11], [0, 0, 3, 3, 7], [0, 0, 3, 7, 7], [0, 0, 3, 7, 15], [0, 0, 1, 1, 1], [0, 1, 1, 1, 1], [0, 1, 1, 1, 3], [0, 1, 1, 1, 3], [0, 1, 1, 1, 7], [0, 1, 1, 1, 3], [0, 1, 1, 1, 7], [0, 1, 1, 1, 7], [0, 1, 1, 1, 15], [0, 0, 1, 1, 5], [0, 1, 1, 1, 3], [0, 1, 1, 3, 3], [0, 1, 1, 3, 5], [0, 1, 1, 3, 7], [0, 1, 1, 3, 11], [0, 1, 1, 3, 15], [0, 0, 1, 1, 13], [0, 1, 1, 1, 7], [0, 1, 1, 3, 7], [0, 1, 1, 3, 7], [0, 1, 1, 7, 7], [0, 1, 1, 7, 15], [0, 0, 1, 5, 5], [0, 1, 1, 3, 3], [0, 1, 3, 3, 3], [0, 1, 3, 3, 7], [0, 1, 3, 3, 7], [0, 1, 3, 3, 15], [0, 0, 1, 5, 13], [0, 1, 1, 3, 11], [0, 1, 3, 3, 7], [0, 1, 3, 7, 7], [0, 1, 3, 7, 15]]
theorem l3_is : lvl 3 = L3 := by decide +kernel
theorem l4_is : compL (srtL 4 (L3.flatMap outsL)) = L4 := by decide +kernel
theorem stp3 : stpB 4 L3 = true := by decide +kernel
theorem o4_0 : outsL [0, 0, 0, 0] = [[0, 0, 0, 0, 0], [0, 0, 0, 0, 1], [0, 0, 0, 0, 1], [0, 0, 0, 0, 3], [0, 0, 0, 0, 1], [0, 0, 0, 0, 3], [0, 0, 0, 0, 3], [0, 0, 0, 0, 7], [0, 0, 0, 0, 1], [0, 0, 0, 0, 3], [0, 0, 0, 0, 3], [0, 0, 0, 0, 7], [0, 0, 0, 0, 3], [0, 0, 0, 0, 7], [0, 0, 0, 0, 7], [0, 0, 0, 0, 15]] := by decide +kernel
theorem o4_1 : outsL [0, 0, 0, 1] = [[0, 0, 0, 0, 1], [0, 0, 0, 1, 1], [0, 0, 0, 1, 2], [0, 0, 0, 1, 3], [0, 0, 0, 1, 2], [0, 0, 0, 1, 3], [0, 0, 0, 1, 6], [0, 0, 0, 1, 7], [0, 0, 0, 1, 9], [0, 0, 0, 1, 11], [0, 0, 0, 1, 11], [0, 0, 0, 1, 15]] := by decide +kernel
theorem o4_2 : outsL [0, 0, 0, 3] = [[0, 0, 0, 0, 3], [0, 0, 0, 1, 3], [0, 0, 0, 1, 3], [0, 0, 0, 3, 3], [0, 0, 0, 1, 6], [0, 0, 0, 3, 5], [0, 0, 0, 3, 5], [0, 0, 0, 3, 7], [0, 0, 0, 3, 11], [0, 0, 0, 3, 15]] := by decide +kernel
theorem o4_3 : outsL [0, 0, 0, 7] = [[0, 0, 0, 0, 7], [0, 0, 0, 1, 7], [0, 0, 0, 1, 7], [0, 0, 0, 3, 7], [0, 0, 0, 1, 7], [0, 0, 0, 3, 7], [0, 0, 0, 3, 7], [0, 0, 0, 7, 7], [0, 0, 0, 7, 15]] := by decide +kernel
theorem o4_4 : outsL [0, 0, 1, 1] = [[0, 0, 0, 1, 1], [0, 0, 1, 1, 1], [0, 0, 1, 1, 2], [0, 0, 1, 1, 3], [0, 0, 1, 1, 5], [0, 0, 1, 1, 7], [0, 0, 1, 1, 5], [0, 0, 1, 1, 7], [0, 0, 1, 1, 13], [0, 0, 1, 1, 15]] := by decide +kernel
theorem o4_5 : outsL [0, 0, 1, 2] = [[0, 0, 0, 1, 2], [0, 0, 1, 1, 2], [0, 0, 1, 1, 2], [0, 0, 1, 2, 3], [0, 0, 1, 2, 5], [0, 0, 1, 2, 7], [0, 0, 1, 2, 5], [0, 0, 1, 2, 7], [0, 0, 1, 2, 15]] := by decide +kernel
theorem o4_6 : outsL [0, 0, 1, 3] = [[0, 0, 0, 1, 3], [0, 0, 1, 1, 3], [0, 0, 1, 2, 3], [0, 0, 1, 3, 3], [0, 0, 1, 3, 5], [0, 0, 1, 3, 7], [0, 0, 1, 3, 11], [0, 0, 1, 3, 15]] := by decide +kernel
theorem o4_7 : outsL [0, 0, 1, 5] = [[0, 0, 0, 1, 9], [0, 0, 1, 1, 5], [0, 0, 1, 2, 5], [0, 0, 1, 3, 5], [0, 0, 1, 5, 5], [0, 0, 1, 5, 7], [0, 0, 1, 5, 13], [0, 0, 1, 5, 15]] := by decide +kernel
theorem o4_8 : outsL [0, 0, 1, 7] = [[0, 0, 0, 1, 11], [0, 0, 1, 1, 7], [0, 0, 1, 2, 7], [0, 0, 1, 3, 7], [0, 0, 1, 5, 7], [0, 0, 1, 7, 7], [0, 0, 1, 7, 15]] := by decide +kernel
theorem o4_9 : outsL [0, 0, 3, 3] = [[0, 0, 0, 3, 3], [0, 0, 1, 3, 3], [0, 0, 1, 3, 3], [0, 0, 3, 3, 3], [0, 0, 3, 3, 7], [0, 0, 3, 3, 7], [0, 0, 3, 3, 15]] := by decide +kernel
theorem o4_10 : outsL [0, 0, 3, 7] = [[0, 0, 0, 3, 11], [0, 0, 1, 3, 11], [0, 0, 1, 3, 11], [0, 0, 3, 3, 7], [0, 0, 3, 7, 7], [0, 0, 3, 7, 15]] := by decide +kernel
theorem o4_11 : outsL [0, 1, 1, 1] = [[0, 0, 1, 1, 1], [0, 1, 1, 1, 1], [0, 1, 1, 1, 3], [0, 1, 1, 1, 3], [0, 1, 1, 1, 7], [0, 1, 1, 1, 3], [0, 1, 1, 1, 7], [0, 1, 1, 1, 7], [0, 1, 1, 1, 15]] := by decide +kernel
theorem o4_12 : outsL [0, 1, 1, 3] = [[0, 0, 1, 1, 5], [0, 1, 1, 1, 3], [0, 1, 1, 3, 3], [0, 1, 1, 3, 5], [0, 1, 1, 3, 7], [0, 1, 1, 3, 11], [0, 1, 1, 3, 15]] := by decide +kernel
theorem o4_13 : outsL [0, 1, 1, 7] = [[0, 0, 1, 1, 13], [0, 1, 1, 1, 7], [0, 1, 1, 3, 7], [0, 1, 1, 3, 7], [0, 1, 1, 7, 7], [0, 1, 1, 7, 15]] := by decide +kernel
theorem o4_14 : outsL [0, 1, 3, 3] = [[0, 0, 1, 5, 5], [0, 1, 1, 3, 3], [0, 1, 3, 3, 3], [0, 1, 3, 3, 7], [0, 1, 3, 3, 7], [0, 1, 3, 3, 15]] := by decide +kernel
theorem o4_15 : outsL [0, 1, 3, 7] = [[0, 0, 1, 5, 13], [0, 1, 1, 3, 11], [0, 1, 3, 3, 7], [0, 1, 3, 7, 7], [0, 1, 3, 7, 15]] := by decide +kernel
theorem m5_is : L4.flatMap outsL = M5 := by
  simp only [L4, List.flatMap_cons, List.flatMap_nil, o4_0, o4_1, o4_2, o4_3, o4_4, o4_5, o4_6, o4_7, o4_8, o4_9, o4_10, o4_11, o4_12, o4_13, o4_14, o4_15]
  rfl
theorem l5_is : compL (srtL 5 M5) = L5 := by decide +kernel
theorem insL_mem {N : Nat} {x z : List Nat} {l : List (List Nat)} (h : z ∈ insL N x l) : z = x ∨ z ∈ l := List.mem_cons.1 ((insL_perm N x l).mem_iff.1 h)
theorem insL_srt (N : Nat) (x : List Nat) : ∀ l : List (List Nat), l.Pairwise (fun a b => ¬ cmpF (nth b) (nth a) N 0 < 0) → (insL N x l).Pairwise (fun a b => ¬ cmpF (nth b) (nth a) N 0 < 0)
  | [], _ => by simp [insL]
  | y :: l, h => by
    obtain ⟨h1, h2⟩ := List.pairwise_cons.1 h
    unfold insL
    split
    · rename_i hlt
      refine List.pairwise_cons.2 ⟨fun z hz q => ?_, h⟩
      rcases List.mem_cons.1 hz with rfl | hz
      · exact cmp_irr _ _ (cmp_trans hlt q)
      · exact h1 z hz (cmp_trans q hlt)
    · rename_i hlt
      refine List.pairwise_cons.2 ⟨fun z hz => ?_, insL_srt N x l h2⟩
      rcases insL_mem hz with rfl | hz
      · exact hlt
      · exact h1 z hz
theorem srtL_srt (N : Nat) : ∀ l : List (List Nat), (srtL N l).Pairwise (fun a b => ¬ cmpF (nth b) (nth a) N 0 < 0)
  | [] => .nil
  | x :: l => insL_srt N x _ (srtL_srt N l)
theorem srtL_is (N : Nat) (l : List (List Nat)) : Srt N (srtL N l) := fun j k a b hjk ha hb => by
  obtain ⟨hj, rfl⟩ := List.getElem?_eq_some_iff.1 ha
  obtain ⟨hk, rfl⟩ := List.getElem?_eq_some_iff.1 hb
  exact List.pairwise_iff_getElem.1 (srtL_srt N l) j k hj hk hjk
theorem l4_fok : L4.all fokB = true := by decide +kernel
theorem m5_len : M5.all (fun y => y.length == 5) = true := by decide +kernel
theorem stp4 : Stp 5 L4 L5 := by
  have hl : (srtL 5 M5).length = M5.length := (srtL_perm 5 M5).length_eq
  have hm : M5.length = 135 := by decide +kernel
  refine ⟨srtL 5 M5, l5_is.symm, fun o ho => fok_of (List.all_eq_true.1 l4_fok o ho), by decide, by decide, by decide, fun y hy => ?_, by omega, by omega, by rw [m5_is]; exact srtL_perm 5 M5, srtL_is 5 M5⟩
  have := List.all_eq_true.1 m5_len y ((srtL_perm 5 M5).mem_iff.1 hy)
  simpa using this
/-- The forms of so many points. -/
def lvq : Nat → List (List Nat)
  | 0 => [[]]
  | 1 => lvl 1
  | 2 => lvl 2
  | 3 => L3
  | 4 => L4
  | _ => L5
theorem lvq_stp : ∀ i, i < 5 → Stp (i + 1) (lvq i) (lvq (i + 1)) := by
  intro i hi
  match i, hi with
  | 0, _ => exact lvl_three 0 (by decide)
  | 1, _ => exact lvl_three 1 (by decide)
  | 2, _ => show Stp 3 (lvl 2) L3; exact l3_is ▸ lvl_three 2 (by decide)
  | 3, _ => show Stp 4 L3 L4; exact l4_is ▸ stp_of stp3
  | 4, _ => exact stp4
def sumL (n : Nat) (l : List (List Nat)) : Nat := (l.map fun o => facL n / cntL o).foldr (· + ·) 0
def cntB (n : Nat) : Bool := (lvq n).all fun o => fokB o && (decide (o.length = n) && (decide (0 < cntL o) && decide (facL n % cntL o = 0)))
end Go.Proofs.YtfbdgdphpdhcpaaDoor
