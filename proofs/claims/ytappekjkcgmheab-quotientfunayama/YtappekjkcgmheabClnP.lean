/-
  What slices.Clone answers of pairs. Conditions: the pairs lie there; at most a thousand.
-/
import Derived.Lib.SliceRun
import Derived.Test.YtappekjkcgmheabPrP
namespace Go.Proofs.Ytappekjkcgmheab
open Go.RowKit

/-- Pairs that lie there, or nil. -/
def PSrc (w : World) (v : Value) (l : List (Nat × Nat)) : Prop := (l = [] ∧ v = .slice none 0 0) ∨ (∃ b off c, v = .slice (some ⟨b, off, none⟩) l.length c ∧ PRow w (some ⟨b, off, none⟩) l.length (pairAt l))
theorem PSrc.step {w w' : World} {v : Value} {l : List (Nat × Nat)} (h : PSrc w v l) (hb : Below w.heap.size w w') : PSrc w' v l := by
  rcases h with h | ⟨b, off, c, e, hr⟩
  · exact .inl h
  · exact .inr ⟨b, off, c, e, hr.below hb⟩
set_option maxRecDepth 100000 in
set_option maxHeartbeats 1000000 in
theorem clone_any (v : Value) (l : List (Nat × Nat)) (w : World) (hl : l.length ≤ 1000) (hv : PSrc w v l) :
    Calls Try.prog 31 #[v] w fun e w' => (∃ v', e = .returned v' ∧ w'.ownsRow w.heap.size 49 2 v' l.length (pairVals l)) ∧ Below w.heap.size w w' := by
  obtain ⟨i0, hi, hz0, hz1, hz2⟩ := info_parts Try.infoRU
  rcases hv with ⟨rfl, rfl⟩ | ⟨b, off, c, rfl, hr⟩
  · have hq : ∀ w, (binOp .eql 46 (.slice none 0 0) (.slice none 0 0)).run Try.prog w = .ok (.bool true) w := fun w => Lib.run_eql_slice_nil w 46 49 none 0 0 0 0 Try.underlying46
    go_enter Try.func31, Try.ntmps31
    go_wp2_with fail
    go_ret
    exact ⟨⟨_, rfl, World.ownsRow_nil _ _ _ _⟩, Below.refl _ _⟩
  · have hq : ∀ w, (binOp .eql 46 (.slice (some ⟨b, off, none⟩) l.length c) (.slice none 0 0)).run Try.prog w = .ok (.bool false) w := fun w => Lib.run_eql_slice_nil w 46 49 (some ⟨b, off, none⟩) l.length c 0 0 Try.underlying46
    have hb0 : Below w.heap.size w (w.alloc (.cells #[] 49)) := (Below.refl _ _).alloc (Nat.le_refl _) _
    have HC := (show Hid _ from prow_cells (hr.below hb0))
    have HB : Hid (Below w.heap.size w (w.alloc (.cells #[] 49))) := hb0
    have hown : (w.alloc (.cells #[] 49)).ownsRow w.heap.size 49 2 (.slice (some ⟨w.heap.size, 0, none⟩) 0 0) 0 [] := World.ownsRow_made w #[] 0 (Nat.le_refl _) (by unfold maxLen; omega) (by simp)
    clear hr hb0
    go_enter Try.func31, Try.ntmps31
    go_wp2_with (at_builtin; refine wpList_append_own _ rfl _ _ 46 rfl w.heap.size 49 i0 (.agg #[.int .i64 0, .int .i64 0]) 2 16 Try.underlying46 hi hz0 hz1 hz2 rfl (by decide) _ _ _ rfl hown ⟨b, off, none⟩ l.length c (pairVals l) rfl (pairVals_len l) ?c1 (pairVals_one l) ?c3 ?c4 ?c5 ?_)
    case c1 => exact HC.out
    case c3 => unfold maxLen; omega
    case c4 => omega
    case c5 => simp
    intro v' w' hown' hgrow _
    have HO : Hid (w'.ownsRow w.heap.size 49 2 v' l.length (pairVals l)) := hown'
    have HB2 : Hid (Below w.heap.size w w') := HB.out.grown hgrow (by simp) (fun j e => by cases e; exact Nat.le_refl _)
    clear hown' hgrow hown
    go_wp2_with fail
    go_ret
    exact ⟨⟨_, rfl, HO.out⟩, HB2.out⟩
end Go.Proofs.Ytappekjkcgmheab
