/-
  What the reference's Single and PiecesOf answer. Conditions: a good order.
-/
import Derived.Test.YtggngpnenbjidaaDoorPilM
import Derived.Test.YtggngpnenbjidaaDoorSpB
namespace Go.Proofs.YtggngpnenbjidaaDoor
open Go.RowKit

theorem natVals_range (k : Nat) : natVals (List.range (k + 1)) = natVals (List.range k) ++ [.int .i64 (k : Nat)] := by rw [List.range_succ, natVals_append]; rfl
set_option maxHeartbeats 2000000 in
theorem single_any (n : Nat) (w : World) (hn : n ≤ 10) :
    Calls Tryd.prog 55 #[.int .i64 (n : Nat)] w fun e w' => (∃ v, e = .returned v ∧ w'.ownsRow w.heap.size 3 1 v n (natVals (List.range n))) ∧ Below w.heap.size w w' := by
  obtain ⟨i0, hi, hz0, hz1, hz2⟩ := info_parts Tryd.info3
  go_enter Tryd.func55, Tryd.ntmps55
  go_wp2_with fail
  go_loopw [3, 4] (fun v i wx => ∃ k : Nat, k ≤ n ∧ i = .int .i64 k ∧ wx.ownsRow w.heap.size 3 1 v k (natVals (List.range k)) ∧ Hid (Below w.heap.size w wx)) (fun _ i _ => n - (intOf i).toNat)
  case atStart => exact ⟨0, Nat.zero_le _, rfl, World.ownsRow_nil _ _ _ _, Below.refl _ _⟩
  case round =>
    obtain ⟨k, hk, rfl, hown, HB⟩ := hrel
    by_cases hlt : k < n
    · have hsz := HB.out.size
      have HNV : Hid (natVals (List.range (k + 1)) = natVals (List.range k) ++ [.int .i64 (k : Nat)]) := natVals_range k
      go_wp2_with (at_builtin; refine wpList_append_own _ rfl _ _ 22 rfl w.heap.size 3 i0 (.int .i64 0) 1 8 Tryd.underlying22 hi hz0 hz1 hz2 rfl (by decide) _ _ _ rfl (hown.alloc _) ⟨wr.heap.size, 0, none⟩ 1 1 [.int .i64 (k : Nat)] rfl rfl ?c1 ?c2 ?c3 ?c4 ?c5 ?_)
      case c1 =>
        intro j u hj
        match j, hj with
        | 0, hj => simp at hj; subst hj; simp [Addr.add]
      case c2 => intro u hu; simp at hu; subst hu; rfl
      case c3 => unfold maxLen; omega
      case c4 => omega
      case c5 => simp; omega
      intro v' w1 hown' hgrow _
      have HB5 : Hid (Below w.heap.size w w1) := below_append3 HB.out hown hgrow
      clear hgrow hown HB
      go_wp2_with fail
      go_roundw
      case rel => exact ⟨k + 1, by omega, by go_num, by rw [HNV.out]; exact hown', HB5⟩
      case measure => simp [intOf]; omega
    · obtain rfl : k = n := by omega
      have HO := (show Hid (World.ownsRow _ _ _ _ _ _ _) from hown)
      clear hown
      go_wp2_with fail
      go_ret
      exact ⟨⟨_, rfl, HO.out⟩, HB.out⟩
/-- A row of the call's own, to be written. -/
theorem own_list {w : World} {base n : Nat} {v : Value} (h : w.ownsRow base 3 1 v n (natVals (List.range n))) (hn : 0 < n) : ∃ b cap, v = .slice (some ⟨b, 0, none⟩) n cap ∧ base ≤ b ∧ Own w b n (fun k => k) := by
  obtain ⟨b, cap, rfl⟩ := owns_form h hn
  refine ⟨b, cap, rfl, (h.lt b rfl).1, fun k hk => ⟨?_, h.frozenAt k⟩⟩
  rw [h.cellAt k (by omega)]
  have := natVals_at (List.range n) k (by simpa using hk)
  rw [this]
  simp [nth, hk]
end Go.Proofs.YtggngpnenbjidaaDoor
