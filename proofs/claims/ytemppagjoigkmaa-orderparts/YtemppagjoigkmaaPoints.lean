/-
  What order.members and the reference's Points answer: the points of a set, rising. Conditions: a set that is not negative, at most ten points.
-/
import Derived.Test.YtemppagjoigkmaaDuals
namespace Go.Proofs.Ytemppagjoigkmaa
open Go.RowKit

def pts (s : Nat) : Nat → List Nat
  | 0 => []
  | k + 1 => if s.testBit k = true then pts s k ++ [k] else pts s k
theorem pts_yes {s k : Nat} (h : s.testBit k = true) : pts s (k + 1) = pts s k ++ [k] := by simp [pts, h]
theorem pts_no {s k : Nat} (h : s.testBit k = false) : pts s (k + 1) = pts s k := by simp [pts, h]
theorem pts_len (s : Nat) : ∀ k, (pts s k).length ≤ k
  | 0 => by simp [pts]
  | k + 1 => by
    have ih := pts_len s k
    cases h : s.testBit k
    · rw [pts_no h]; omega
    · rw [pts_yes h, List.length_append]; simp; exact ih
theorem pts_lt (s : Nat) : ∀ k i, i ∈ pts s k → i < k
  | 0, i, h => by simp [pts] at h
  | k + 1, i, h => by
    cases hb : s.testBit k
    · rw [pts_no hb] at h; have := pts_lt s k i h; omega
    · rw [pts_yes hb, List.mem_append] at h
      rcases h with h | h
      · have := pts_lt s k i h; omega
      · simp at h; omega
theorem pts_more {s n : Nat} (hs : s < pw n) : ∀ d, pts s (n + d) = pts s n
  | 0 => rfl
  | d + 1 => by
    have hb : s.testBit (n + d) = false := by
      cases e : s.testBit (n + d)
      · rfl
      · have := bit_of_lt hs e; omega
    rw [show n + (d + 1) = (n + d) + 1 from rfl, pts_no hb, pts_more hs d]
def natVals (l : List Nat) : List Value := l.map fun x => .int .i64 (x : Nat)
theorem natVals_append (l m : List Nat) : natVals (l ++ m) = natVals l ++ natVals m := by simp [natVals]
def nth (l : List Nat) (k : Nat) : Nat := l.getD k 0
theorem natVals_at (l : List Nat) (k : Nat) (h : k < l.length) : (natVals l)[k]? = some (.int .i64 (nth l k : Nat)) := by
  simp [natVals, nth, h]
/-- A value that is a slice of the numbers l. -/
def NSl (w : World) (v : Value) (l : List Nat) : Prop := ∃ a cap, v = .slice a l.length cap ∧ Row w a l.length (fun k => (nth l k : Nat))
theorem owns_nats {w : World} {base : Nat} {v : Value} {l : List Nat} (h : w.ownsRow base 3 1 v l.length (natVals l)) : NSl w v l := by
  by_cases hn : 0 < l.length
  · obtain ⟨g, cap, rfl⟩ := owns_form h hn
    refine ⟨_, cap, rfl, fun k hk => ⟨g, 0, rfl, ?_⟩⟩
    rw [Nat.zero_add, h.cellAt _ (by omega)]; exact natVals_at l k hk
  · have h0 : l.length = 0 := by omega
    rcases h.2 with ⟨rfl, _⟩ | ⟨g, cap, cur, rfl, _⟩
    · exact ⟨none, 0, by rw [h0], fun k hk => absurd (Nat.lt_of_le_of_lt (Nat.zero_le _) hk) hn⟩
    · exact ⟨_, cap, rfl, fun k hk => absurd (Nat.lt_of_le_of_lt (Nat.zero_le _) hk) hn⟩
theorem below_append3 {w wx w1 : World} {o2 : Obj} {e : TypeId} {size n : Nat} {v : Value} {xs : List Value} (h : Below w.heap.size w wx) (hown : wx.ownsRow w.heap.size e size v n xs) (hg : (wx.alloc o2).grownBy w1 v.ownBlock) : Below w.heap.size w w1 :=
  (h.alloc h.size o2).grown hg (by have := h.size; simp; omega) (owns_block hown)

set_option maxHeartbeats 1000000 in
theorem members_any (s : Nat) (w : World) (hs : s < 1024) :
    Calls Try.prog 41 #[.int .i64 s] w fun e w' => (∃ v, e = .returned v ∧ NSl w' v (pts s 10)) ∧ Below w.heap.size w w' := by
  obtain ⟨i0, hi, hz0, hz1, hz2⟩ := info_parts Try.info3
  go_enter Try.func41, Try.ntmps41
  go_wp2
  go_loopw [3, 5] (fun v i wx => ∃ k : Nat, k ≤ 10 ∧ i = .int .i64 k ∧ wx.ownsRow w.heap.size 3 1 v (pts s k).length (natVals (pts s k)) ∧ Hid (Below w.heap.size w wx)) (fun _ i _ => 10 - (intOf i).toNat)
  case atStart => exact ⟨0, Nat.zero_le _, rfl, World.ownsRow_nil _ _ _ _, Below.refl _ _⟩
  case round =>
    obtain ⟨k, hk, rfl, hown, hB⟩ := hrel
    by_cases hlt : k < 10
    · rcases (Bool.eq_false_or_eq_true (s.testBit k)).symm with hb | hb
      · have HE : Hid (pts s (k + 1) = pts s k) := pts_no hb
        go_wp2_with (go_at_call 37; refine (has_any _ _ _ (by omega) (by omega)).mono ?_; rintro e w' ⟨rfl, rfl⟩)
        go_roundw
        case rel => exact ⟨k + 1, by omega, by go_num, by rw [HE.out]; exact hown, hB⟩
        case measure => simp [intOf]; omega
      · have HE : Hid (pts s (k + 1) = pts s k ++ [k]) := pts_yes hb
        have hlen := pts_len s k
        have hsz := hB.out.size
        obtain ⟨L, HL⟩ : ∃ L, Hid (L = pts s k) := ⟨_, rfl⟩
        rw [← HL.out] at hown hlen
        go_wp2_with (first | (go_at_call 37; refine (has_any _ _ _ (by omega) (by omega)).mono ?_; rintro e w' ⟨rfl, rfl⟩) | (at_builtin; refine wpList_append_own _ rfl _ _ 22 rfl w.heap.size 3 i0 (.int .i64 0) 1 8 Try.underlying22 hi hz0 hz1 hz2 rfl (by decide) _ _ _ rfl (hown.alloc _) ⟨wr.heap.size, 0, none⟩ 1 1 [.int .i64 (k : Nat)] rfl rfl ?c1 ?c2 ?c3 ?c4 ?c5 ?_))
        case c1 =>
          intro j u hj
          match j, hj with
          | 0, hj => simp at hj; subst hj; simp [Addr.add]
        case c2 => intro u hu; simp at hu; subst hu; rfl
        case c3 => unfold maxLen; omega
        case c4 => omega
        case c5 => simp; omega
        intro v' w1 hown' hgrow _
        have HB5 : Hid (Below w.heap.size w w1) := below_append3 hB.out hown hgrow
        have HO5 : Hid (w1.ownsRow w.heap.size 3 1 v' (pts s (k + 1)).length (natVals (pts s (k + 1)))) := by
          rw [HE.out, ← HL.out, natVals_append, List.length_append]; exact hown'
        clear hown' hgrow hown hB hlen hsz HL
        go_wp2_with fail
        go_roundw
        case rel => exact ⟨k + 1, by omega, by go_num, HO5.out, HB5.out⟩
        case measure => simp [intOf]; omega
    · have hkn : k = 10 := by omega
      subst hkn
      have HF : Hid (NSl wr u3 (pts s 10)) := owns_nats hown
      clear hown
      go_wp2
      go_ret
      exact ⟨⟨_, rfl, HF.out⟩, hB.out⟩

set_option maxHeartbeats 1000000 in
theorem points_any (s n : Nat) (w : World) (hs : s < 1024) (hn : n ≤ 10) :
    Calls Try.prog 43 #[.int .i64 s, .int .i64 n] w fun e w' => (∃ v, e = .returned v ∧ NSl w' v (pts s n)) ∧ Below w.heap.size w w' := by
  obtain ⟨i0, hi, hz0, hz1, hz2⟩ := info_parts Try.info3
  go_enter Try.func43, Try.ntmps43
  go_wp2
  go_loopw [5, 6] (fun v i wx => ∃ k : Nat, k ≤ n ∧ i = .int .i64 k ∧ wx.ownsRow w.heap.size 3 1 v (pts s k).length (natVals (pts s k)) ∧ Hid (Below w.heap.size w wx)) (fun _ i _ => n - (intOf i).toNat)
  case atStart => exact ⟨0, Nat.zero_le _, rfl, World.ownsRow_nil _ _ _ _, Below.refl _ _⟩
  case round =>
    obtain ⟨k, hk, rfl, hown, hB⟩ := hrel
    by_cases hlt : k < n
    · rcases (Bool.eq_false_or_eq_true (s.testBit k)).symm with hb | hb
      · have HE : Hid (pts s (k + 1) = pts s k) := pts_no hb
        go_wp2_with (go_at_call 46; refine (in_any _ _ _ (by omega) (by omega)).mono ?_; rintro e w' ⟨rfl, rfl⟩)
        go_roundw
        case rel => exact ⟨k + 1, by omega, by go_num, by rw [HE.out]; exact hown, hB⟩
        case measure => simp [intOf]; omega
      · have HE : Hid (pts s (k + 1) = pts s k ++ [k]) := pts_yes hb
        have hlen := pts_len s k
        have hsz := hB.out.size
        obtain ⟨L, HL⟩ : ∃ L, Hid (L = pts s k) := ⟨_, rfl⟩
        rw [← HL.out] at hown hlen
        go_wp2_with (first | (go_at_call 46; refine (in_any _ _ _ (by omega) (by omega)).mono ?_; rintro e w' ⟨rfl, rfl⟩) | (at_builtin; refine wpList_append_own _ rfl _ _ 22 rfl w.heap.size 3 i0 (.int .i64 0) 1 8 Try.underlying22 hi hz0 hz1 hz2 rfl (by decide) _ _ _ rfl (hown.alloc _) ⟨wr.heap.size, 0, none⟩ 1 1 [.int .i64 (k : Nat)] rfl rfl ?c1 ?c2 ?c3 ?c4 ?c5 ?_))
        case c1 =>
          intro j u hj
          match j, hj with
          | 0, hj => simp at hj; subst hj; simp [Addr.add]
        case c2 => intro u hu; simp at hu; subst hu; rfl
        case c3 => unfold maxLen; omega
        case c4 => omega
        case c5 => simp; omega
        intro v' w1 hown' hgrow _
        have HB5 : Hid (Below w.heap.size w w1) := below_append3 hB.out hown hgrow
        have HO5 : Hid (w1.ownsRow w.heap.size 3 1 v' (pts s (k + 1)).length (natVals (pts s (k + 1)))) := by
          rw [HE.out, ← HL.out, natVals_append, List.length_append]; exact hown'
        clear hown' hgrow hown hB hlen hsz HL
        go_wp2_with fail
        go_roundw
        case rel => exact ⟨k + 1, by omega, by go_num, HO5.out, HB5.out⟩
        case measure => simp [intOf]; omega
    · have hkn : k = n := by omega
      subst hkn
      have HF : Hid (NSl wr u5 (pts s k)) := owns_nats hown
      clear hown
      go_wp2
      go_ret
      exact ⟨⟨_, rfl, HF.out⟩, hB.out⟩
end Go.Proofs.Ytemppagjoigkmaa
