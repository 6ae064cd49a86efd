/-
  What slices.Clone answers of numbers. Conditions: at most ten.
-/
import Derived.Test.YtklfnghgpmjnmaaDoorMay
import Derived.Test.YtklfnghgpmjnmaaDoorBuild
namespace Go.Proofs.YtklfnghgpmjnmaaDoor
open Go.RowKit

set_option maxHeartbeats 1000000 in
theorem clone_any (n : Nat) (a : Option Addr) (cap : Nat) (g : Nat → Nat) (w : World) (hn : n ≤ 10) (hr : Row w a n (fun k => (g k : Nat))) :
    Calls Tryd.prog 46 #[.slice a n cap] w fun e w' => (∃ v, e = .returned v ∧ w'.ownsRow w.heap.size 3 1 v n (rowVals g n)) ∧ Below w.heap.size w w' := by
  obtain ⟨i0, hi, hz0, hz1, hz2⟩ := info_parts Tryd.info3
  rcases a with _ | a
  · have h0 : n = 0 := by
      rcases Nat.eq_zero_or_pos n with h | h
      · exact h
      · obtain ⟨b, off, e, _⟩ := hr 0 h; cases e
    subst h0
    clear hr
    have hq : ∀ w, (binOp .eql 22 (.slice none 0 cap) (.slice none 0 0)).run Tryd.prog w = .ok (.bool true) w := fun w => Lib.run_eql_slice_nil w 22 3 none 0 cap 0 0 Tryd.underlying22
    go_enter Tryd.func46, Tryd.ntmps46
    go_wp2_with fail
    go_ret
    exact ⟨⟨_, rfl, World.ownsRow_nil _ _ _ _⟩, Below.refl _ _⟩
  · have hq : ∀ w, (binOp .eql 22 (.slice (some a) n cap) (.slice none 0 0)).run Tryd.prog w = .ok (.bool false) w := fun w => Lib.run_eql_slice_nil w 22 3 (some a) n cap 0 0 Tryd.underlying22
    go_enter Tryd.func46, Tryd.ntmps46
    have hown : (w.alloc (.cells #[] 3)).ownsRow w.heap.size 3 1 (.slice (some ⟨w.heap.size, 0, none⟩) 0 0) 0 [] := World.ownsRow_made w #[] 0 (Nat.le_refl _) (by unfold maxLen; omega) (by simp)
    go_wp2_with (at_builtin; refine wpList_append_own _ rfl _ _ 22 rfl w.heap.size 3 i0 (.int .i64 0) 1 8 Tryd.underlying22 hi hz0 hz1 hz2 rfl (by decide) _ _ _ rfl hown a n cap (rowVals g n) rfl (by simp [rowVals]) ?c1 ?c2 ?c3 ?c4 ?c5 ?_)
    case c1 =>
      intro j u hj
      have hjn : j < n := by
        rcases Nat.lt_or_ge j n with h | h
        · exact h
        · rw [List.getElem?_eq_none (by simp [rowVals]; omega)] at hj; cases hj
      rw [rowVals_at g n j hjn] at hj
      cases hj
      obtain ⟨b, off, e, hc⟩ := hr j hjn
      cases e
      have hlt := World.block_lt_of_cell? _ _ hc
      have e2 : (⟨b, off, none⟩ : Addr).add j = ⟨b, off + j, none⟩ := by unfold Addr.add; split <;> simp_all
      rw [e2, World.cell?_alloc_old _ _ _ (Nat.ne_of_lt hlt)]
      exact hc
    case c2 =>
      intro u hu
      simp [rowVals] at hu
      obtain ⟨k, _, rfl⟩ := hu
      rfl
    case c3 => unfold maxLen; omega
    case c4 => omega
    case c5 => simp
    intro v' w2 hown' hgrow _
    have HO : Hid (w2.ownsRow w.heap.size 3 1 v' n (rowVals g n)) := by
      first
        | exact hown'
        | simpa using hown'
    have HB : Hid (Below w.heap.size w w2) := ((Below.refl _ _).alloc (Nat.le_refl _) _).grown hgrow (by simp) (by intro k hk; simp [Value.ownBlock] at hk; omega)
    clear hown' hgrow hown
    go_wp2_with fail
    go_ret
    exact ⟨⟨_, rfl, HO.out⟩, HB.out⟩
end Go.Proofs.YtklfnghgpmjnmaaDoor
