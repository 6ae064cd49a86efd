/-
  What slices.Repeat answers of one number. Conditions: at most ten times.
-/
import Derived.Laws.CopyOwn
import Derived.Deep.Cut
import Derived.Test.YtinblbkglkhjmaaDoorBuild
namespace Go.Proofs.YtinblbkglkhjmaaDoor
open Go.RowKit
set_option maxRecDepth 100000

theorem mul64_one (m : Nat) (w : World) (hm : m ≤ 10) :
    Calls Tryd.prog 72 #[.int .u64 1, .int .u64 (m : Nat)] w fun e w' => e = .returned (.tuple #[.int .u64 0, .int .u64 (m : Nat)]) ∧ w = w' := by
  rcases (by omega : m = 0 ∨ m = 1 ∨ m = 2 ∨ m = 3 ∨ m = 4 ∨ m = 5 ∨ m = 6 ∨ m = 7 ∨ m = 8 ∨ m = 9 ∨ m = 10) with rfl | rfl | rfl | rfl | rfl | rfl | rfl | rfl | rfl | rfl | rfl
  all_goals
    go_enter Tryd.func72, Tryd.ntmps72
    go_wp2
    go_ret2
    exact ⟨by kernel_rfl, rfl⟩
theorem mul_one (m : Nat) (w : World) (hm : m ≤ 10) :
    Calls Tryd.prog 62 #[.int .u64 1, .int .u64 (m : Nat)] w fun e w' => e = .returned (.tuple #[.int .u64 0, .int .u64 (m : Nat)]) ∧ w = w' := by
  go_enter Tryd.func62, Tryd.ntmps62
  go_wp2_with (go_at_call 72; refine (mul64_one m _ hm).mono ?_; rintro e w' ⟨rfl, rfl⟩)
  go_ret2
  exact ⟨rfl, rfl⟩

/-- The row of n cells of which the first k are v. -/
def filled (v : Value) (n k : Nat) : List Value := List.replicate k v ++ List.replicate (n - k) (.int .i64 0)
theorem filled_len {v : Value} {n k : Nat} (h : k ≤ n) : (filled v n k).length = n := by simp [filled]; omega
theorem filled_zero (v : Value) (n : Nat) : filled v n 0 = List.replicate n (.int .i64 0) := by simp [filled]
theorem filled_full (v : Value) (n : Nat) : filled v n n = List.replicate n v := by simp [filled]
theorem filled_splice {v : Value} {n k d : Nat} (h : k + d ≤ n) : splice (filled v n k) k (List.replicate d v) = filled v n (k + d) := by
  unfold splice filled
  rw [List.take_append_of_le_length (by simp), List.take_of_length_le (by simp), List.length_replicate, List.drop_append, List.length_replicate]
  have e1 : List.drop (k + d) (List.replicate k v) = [] := List.drop_of_length_le (by simp)
  rw [e1, List.nil_append, List.drop_replicate, ← List.append_assoc, List.replicate_append_replicate]
  congr 2
  omega
theorem made_row {w : World} {base b m : Nat} (h : w.ownsRow base 3 1 (.slice (some ⟨b, 0, none⟩) m m) m (madeCells (Value.int .i64 0).cells (m * 1)).toList) (v : Value) : w.heap[b]? = some (.cells (filled v m 0).toArray 3 (0, 0)) := by
  rcases h.2 with ⟨h1, _⟩ | ⟨g, cap, cur, h1, _, hh, _, _, hsz, htk⟩
  · cases h1
  · simp only [Value.slice.injEq, Option.some.injEq, Addr.mk.injEq] at h1
    obtain ⟨⟨rfl, _, _⟩, _, rfl⟩ := h1
    rw [hh]
    have e : cur = (filled v m 0).toArray := by
      have h2 : cur.toList = (madeCells (Value.int .i64 0).cells (m * 1)).toList := by
        rw [← htk, List.take_of_length_le (by rw [Array.length_toList]; omega)]
      have e3 : (Value.int .i64 0).cells = #[Value.int .i64 0] := rfl
      rw [e3, toList_madeCells_one] at h2
      rw [filled_zero]
      apply Array.toList_inj.1
      rw [h2]; simp
    rw [e]
theorem row_made {w : World} {base b m : Nat} {xs : List Value} (hm : m ≤ 1000) (hb : base ≤ b) (hx : xs.length = m) (h : w.heap[b]? = some (.cells xs.toArray 3 (0, 0))) : w.ownsRow base 3 1 (.slice (some ⟨b, 0, none⟩) m m) m xs :=
  ⟨by omega, .inr ⟨b, m, xs.toArray, rfl, hb, h, Nat.le_refl _, by unfold maxLen; omega, by simp; omega, by simp [← hx]⟩⟩
theorem row_cell {w : World} {b : Nat} {xs : List Value} {k : Nat} {v : Value} (hx : xs.length ≤ 1000) (h : w.heap[b]? = some (.cells xs.toArray 3 (0, 0))) (hk : xs[k]? = some v) : w.cell? ⟨b, k, none⟩ = some v := by
  have hlt : k < xs.length := by
    rcases Nat.lt_or_ge k xs.length with h1 | h1
    · exact h1
    · rw [List.getElem?_eq_none h1] at hk; cases hk
  have ho := row_made (base := 0) hx (Nat.zero_le b) rfl h
  rw [ho.cellAt k (by omega)]; exact hk
theorem replicate_at {v u : Value} {d j : Nat} (h : (List.replicate d v)[j]? = some u) : u = v ∧ j < d := by
  rw [List.getElem?_replicate] at h
  split at h
  · rename_i hj; simp at h; exact ⟨h.symm, hj⟩
  · cases h
theorem filled_at {v : Value} {n k j : Nat} (h : j < k) : (filled v n k)[j]? = some v := by
  unfold filled
  rw [List.getElem?_append_left (by simpa using h), List.getElem?_replicate, if_pos h]

set_option maxHeartbeats 1000000 in
theorem repeat_any (m : Nat) (z : Int) (a : Addr) (cap : Nat) (w : World) (hm : m ≤ 10) (hz : w.cell? a = some (.int .i64 z)) :
    Calls Tryd.prog 51 #[.slice (some a) 1 cap, .int .i64 (m : Nat)] w fun e w' => (e = .returned (.slice (some ⟨w.heap.size, 0, none⟩) m m) ∧ w'.ownsRow w.heap.size 3 1 (.slice (some ⟨w.heap.size, 0, none⟩) m m) m (List.replicate m (.int .i64 z))) ∧ Below w.heap.size w w' := by
  obtain ⟨i0, hi, hz0, hz1, hz2⟩ := info_parts Tryd.info3
  have hab : a.block < w.heap.size := World.block_lt_of_cell? _ _ hz
  have HZ : Hid (w.cell? a = some (.int .i64 z)) := hz
  have hsz : (Tryd.prog.info? 3).map (·.size) = some 1 := by rw [hi]; simp [hz1]
  clear hz
  rcases Nat.eq_zero_or_pos m with rfl | hpos
  · go_enter Tryd.func51, Tryd.ntmps51
    go_upto_region 7 with (first
      | (go_at_call 62; refine (mul_one 0 _ hm).mono ?_; rintro e w' ⟨rfl, rfl⟩)
      | (at_make; refine wpList_make_full _ rfl _ _ 22 rfl w.heap.size 3 i0 (.int .i64 0) 1 Tryd.underlying22 hi hz0 hz1 .i64 .i64 _ _ 0 rfl rfl rfl rfl (by rw [hz2]; omega) (by unfold maxLen; omega) (Nat.le_refl _) ?_; intro w1 hown1 hgrow1))
    have HF : Hid (w1.ownsRow w.heap.size 3 1 (.slice (some ⟨w.heap.size, 0, none⟩) 0 0) 0 (List.replicate 0 (.int .i64 z))) := row_made (by omega) (Nat.le_refl _) rfl (made_row hown1 (.int .i64 z))
    have HB : Hid (Below w.heap.size w w1) := (Below.refl _ _).grown hgrow1 (Nat.le_refl _) (by simp)
    clear hown1 hgrow1
    go_wp2_with (refine wpList_copy_nothing rfl (.tmp 31) (.tmp 32) 22 22 rfl 3 Tryd.underlying22 hsz (some ⟨w.heap.size, 0, none⟩) (some a) 0 0 1 cap rfl rfl rfl ?_)
    go_loop [8] (fun x => x = .int .i64 0) (fun _ => 0)
    case atStart => rfl
    case round =>
      subst hrel
      go_wp2
      go_ret
      exact ⟨⟨rfl, HF.out⟩, HB.out⟩
  · go_enter Tryd.func51, Tryd.ntmps51
    go_upto_region 7 with (first
      | (go_at_call 62; refine (mul_one m _ hm).mono ?_; rintro e w' ⟨rfl, rfl⟩)
      | (at_make; refine wpList_make_full _ rfl _ _ 22 rfl w.heap.size 3 i0 (.int .i64 0) 1 Tryd.underlying22 hi hz0 hz1 .i64 .i64 _ _ m rfl rfl rfl rfl (by rw [hz2]; omega) (by unfold maxLen; omega) (Nat.le_refl _) ?_; intro w1 hown1 hgrow1))
    have HF : Hid (w1.heap[w.heap.size]? = some (.cells (filled (.int .i64 z) m 0).toArray 3 (0, 0))) := made_row hown1 (.int .i64 z)
    have HB : Hid (Below w.heap.size w w1) := (Below.refl _ _).grown hgrow1 (Nat.le_refl _) (by simp)
    have HQ1 : Hid ([Value.int .i64 z].length = Nat.min 1 m) := (Nat.min_eq_left hpos).symm
    have HQ2 : Hid (∀ j v, [Value.int .i64 z][j]? = some v → w1.cell? (a.add j) = some v) := fun j v hj => by
      match j, hj with
      | 0, hj =>
        simp at hj
        subst hj
        have h := (HB.out.cell (p := a) hab).trans HZ.out
        simpa [Addr.add] using h
    have HQ3 : Hid (0 + [Value.int .i64 z].length ≤ (filled (.int .i64 z) m 0).length) := by
      have e : 0 + [Value.int .i64 z].length ≤ (filled (.int .i64 z) m 0).length := by rw [filled_len (Nat.zero_le _)]; simp; omega
      exact e
    have HQ4 : Hid (∀ v ∈ [Value.int .i64 z], v.oneCell' = true) := fun v hv => by simp at hv; subst hv; rfl
    clear hown1 hgrow1
    go_wp2_with (refine wpList_copy_splice rfl (.tmp 31) (.tmp 32) 22 22 rfl 3 Tryd.underlying22 hsz (some ⟨w.heap.size, 0, none⟩) (some a) m m 1 cap rfl rfl w.heap.size 0 (filled (.int .i64 z) m 0) 3 HF.out [.int .i64 z] HQ1.out (fun _ => ⟨rfl, a, rfl, HQ2.out⟩) HQ3.out HQ4.out w.heap.size w HB.out (Nat.le_refl _) ?_; intro w2 HG2 hB2)
    have HS : Hid (w2.heap[w.heap.size]? = some (.cells (filled (.int .i64 z) m 1).toArray 3 (0, 0))) := by
      have e := filled_splice (v := .int .i64 z) (n := m) (k := 0) (d := 1) (by omega)
      have h := HG2.out
      rw [show [Value.int .i64 z] = List.replicate 1 (.int .i64 z) from rfl, e] at h
      exact h
    have HB2 : Hid (Below w.heap.size w w2) := hB2
    clear HG2 hB2 HQ1 HQ2 HQ3 HQ4 HF HB
    go_loopw [8] (fun x wx => ∃ k : Nat, 1 ≤ k ∧ k ≤ m ∧ x = .int .i64 k ∧ Hid (wx.heap[w.heap.size]? = some (.cells (filled (.int .i64 z) m k).toArray 3 (0, 0))) ∧ Hid (Below w.heap.size w wx)) (fun x _ => m - (intOf x).toNat)
    case atStart => exact ⟨1, Nat.le_refl _, hpos, rfl, HS.out, HB2.out⟩
    case round =>
      clear HS HB2
      obtain ⟨k, hk1, hkm, rfl, HR, HB⟩ := hrel
      by_cases hlt : k < m
      · obtain ⟨d, HD⟩ : ∃ d, Hid (d = Nat.min k (m - k)) := ⟨_, rfl⟩
        have hd1 : 1 ≤ d := by have := HD.out; rw [this]; exact Nat.le_min.2 ⟨hk1, by omega⟩
        have hd2 : k + d ≤ m := by have h1 : d ≤ m - k := by rw [HD.out]; exact Nat.min_le_right _ _; ; omega
        have hd3 : d ≤ k := by rw [HD.out]; exact Nat.min_le_left _ _
        have HQ1 : Hid ((List.replicate d (Value.int .i64 z)).length = Nat.min k (m - k)) := by
          have e : (List.replicate d (Value.int .i64 z)).length = Nat.min k (m - k) := by rw [List.length_replicate]; exact HD.out
          exact e
        have HQ2 : Hid (∀ j v, (List.replicate d (Value.int .i64 z))[j]? = some v → wr.drew.cell? (Addr.add ⟨w.heap.size, 0, none⟩ j) = some v) := fun j v hj => by
          obtain ⟨rfl, hjd⟩ := replicate_at hj
          have h := row_cell (by rw [filled_len hkm]; omega) HR.out (filled_at (v := .int .i64 z) (n := m) (k := k) (j := j) (by omega))
          have e : Addr.add ⟨w.heap.size, 0, none⟩ j = ⟨w.heap.size, j, none⟩ := by
            by_cases hj0 : j = 0
            · subst hj0; simp [Addr.add]
            · simp [Addr.add, hj0]
          rw [e]; exact h
        have HQ3 : Hid (k + (List.replicate d (Value.int .i64 z)).length ≤ (filled (.int .i64 z) m k).length) := by
          have e : k + (List.replicate d (Value.int .i64 z)).length ≤ (filled (.int .i64 z) m k).length := by rw [filled_len hkm, List.length_replicate]; exact hd2
          exact e
        have HQ4 : Hid (∀ v ∈ List.replicate d (Value.int .i64 z), v.oneCell' = true) := fun v hv => by rw [(List.mem_replicate.1 hv).2]; rfl
        have HQ5 : Hid (wr.drew.heap[w.heap.size]? = some (.cells (filled (.int .i64 z) m k).toArray 3 (0, 0))) := HR.out
        have HQ6 : Hid (Below w.heap.size w wr.drew) := HB.out.drew
        obtain ⟨C, HC⟩ : ∃ C, Hid (C = List.replicate d (Value.int .i64 z)) := ⟨_, rfl⟩
        obtain ⟨F, HF⟩ : ∃ F, Hid (F = filled (.int .i64 z) m k) := ⟨_, rfl⟩
        have hCl : C.length = d := by rw [HC.out, List.length_replicate]
        have HSP : Hid (splice F k C = filled (.int .i64 z) m (k + d)) := by rw [HC.out, HF.out]; exact filled_splice hd2
        rw [← HC.out] at HQ1 HQ2 HQ3 HQ4
        rw [← HF.out] at HQ3 HQ5
        have hwr : IntKind.i64.wrap ((k : Int) + (d : Int)) = (k : Int) + (d : Int) := wrap_i64_small _ (by omega) (by omega)
        have h0k : (0 : Int) ≤ (k : Int) := by omega
        have hkm' : (k : Int) ≤ (m : Int) := by omega
        have hkl : (k : Int) < (m : Int) := by omega
        clear HD HC HF HR HB
        go_wp2_with fail
        go_region_law (refine step_copy_splice rfl (.tmp 41) (.tmp 44) 22 22 rfl 3 Tryd.underlying22 hsz (some ⟨w.heap.size, k, none⟩) (some ⟨w.heap.size, 0, none⟩) (m - k) (m - k) k m (by simp [Act.eval, Act.put]; omega) (by simp [Act.eval, Act.put]) w.heap.size k F 3 HQ5.out C HQ1.out (fun _ => ⟨rfl, _, rfl, HQ2.out⟩) HQ3.out HQ4.out w.heap.size w HQ6.out (Nat.le_refl _) ?_; intro w2 HG2 hB2)
        have HS : Hid (w2.heap[w.heap.size]? = some (.cells (filled (.int .i64 z) m (k + d)).toArray 3 (0, 0))) := by
          have h := HG2.out
          rw [HSP.out] at h
          exact h
        have HB2 : Hid (Below w.heap.size w w2) := hB2
        clear HG2 hB2 HQ1 HQ2 HQ3 HQ4 HQ5 HQ6 HSP
        go_wp2_with fail
        go_roundw
        case rel => exact ⟨k + d, by omega, hd2, by omega, HS.out⟩
        case measure => simp [intOf]; omega
      · have hkn : k = m := by omega
        have HF : Hid (wr.ownsRow w.heap.size 3 1 (.slice (some ⟨w.heap.size, 0, none⟩) m m) m (List.replicate m (.int .i64 z))) := by
          have h := HR.out
          rw [hkn, filled_full] at h
          exact row_made (by omega) (Nat.le_refl _) (by simp) h
        have hge : (m : Int) ≤ (k : Int) := by omega
        clear HR hkn
        go_wp2_with fail
        go_ret
        exact ⟨⟨rfl, HF.out⟩, HB.out⟩
end Go.Proofs.YtinblbkglkhjmaaDoor
