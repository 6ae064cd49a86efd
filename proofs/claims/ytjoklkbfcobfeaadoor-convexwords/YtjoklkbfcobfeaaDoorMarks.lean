/-
  Rows of truths that a call made for itself; what convex.newMarks, marks.hasStep and marks.list answer. Conditions: as each theorem says.
-/
import Derived.Test.YtjoklkbfcobfeaaDoorCoM
import Derived.Test.YtjoklkbfcobfeaaDoorPoints
namespace Go.Proofs.YtjoklkbfcobfeaaDoor
open Go.RowKit

theorem Tryd.info4 : (Tryd.prog.info? 4).map (fun i => (i.zero, i.size, i.bytes)) = some (some (.bool false), 1, 1) := by kernel_rfl
/-- A slice of the call's own at the head of block b: the truths M. -/
def BOwn (w : World) (b n : Nat) (M : Nat → Bool) : Prop := ∀ k, k < n → w.cell? ⟨b, k, none⟩ = some (.bool (M k)) ∧ w.frozen? ⟨b, k, none⟩ = false
theorem BOwn.set {w : World} {b n : Nat} {M : Nat → Bool} (h : BOwn w b n M) (u : Nat) : BOwn (w.setCell ⟨b, u, none⟩ (.bool true)) b n (updB M u) := by
  intro k hk
  refine ⟨?_, by rw [World.frozen?_setCell]; exact (h k hk).2⟩
  by_cases e : k = u
  · subst e; rw [updB_same]; exact World.cell?_setCell_same _ _ _ (h k hk).1
  · rw [updB_other _ e, World.cell?_setCell_other _ _ _ _ (fun e2 => e (by injection e2 with _ h2; exact h2.symm))]; exact (h k hk).1
theorem BOwn.lt {w : World} {b n : Nat} {M : Nat → Bool} (h : BOwn w b n M) {k : Nat} (hk : k < n) : b < w.heap.size := World.block_lt_of_cell? _ _ (h k hk).1
theorem BOwn.step {w w' : World} {b n : Nat} {M : Nat → Bool} (h : BOwn w b n M) (hB : Below w.heap.size w w') : BOwn w' b n M :=
  fun k hk => ⟨(hB.cell (p := ⟨b, k, none⟩) (h.lt hk)).trans (h k hk).1, (hB.frozen (p := ⟨b, k, none⟩) (h.lt hk)).trans (h k hk).2⟩
theorem bools_made {w : World} {base b m : Nat} (h : w.ownsRow base 4 1 (.slice (some ⟨b, 0, none⟩) m m) m (madeCells (Value.bool false).cells (m * 1)).toList) : BOwn w b m (fun _ => false) := fun k hk => by
  refine ⟨?_, h.frozenAt k⟩
  rw [h.cellAt k (by omega)]
  have e : (Value.bool false).cells = #[Value.bool false] := rfl
  rw [e, toList_madeCells_one]
  simp [hk]
theorem below_set {w0 w : World} {b u : Nat} {v : Value} (h : Below w0.heap.size w0 w) (hb : w0.heap.size ≤ b) : Below w0.heap.size w0 (w.setCell ⟨b, u, none⟩ v) := h.setCell (p := ⟨b, u, none⟩) hb _

theorem newMarks_any (n : Nat) (w : World) (h10 : n ≤ 10) :
    Calls Tryd.prog 39 #[.int .i64 (n : Nat)] w fun e w' => e = .returned (.slice (some ⟨w.heap.size, 0, none⟩) (pw n) (pw n)) ∧ BOwn w' w.heap.size (pw n) (fun _ => false) ∧ Below w.heap.size w w' := by
  obtain ⟨i0, hi, hz0, hz1, hz2⟩ := info_parts Tryd.info4
  have h := wrap_pow n (by omega)
  have h2 := pw_le n h10
  go_enter Tryd.func39, Tryd.ntmps39
  go_wp2_with (at_make; refine wpList_make_full _ rfl _ _ 57 rfl w.heap.size 4 i0 (.bool false) 1 Tryd.underlying57 hi hz0 hz1 .i64 .i64 _ _ (pw n) rfl rfl h h (by rw [hz2]; omega) (by unfold maxLen; omega) (Nat.le_refl _) ?_; intro w2 hown2 hgrow2)
  have HB2 : Hid (Below w.heap.size w w2) := (Below.refl _ _).grown hgrow2 (Nat.le_refl _) (by simp)
  have HO2 : Hid (BOwn w2 w.heap.size (pw n) (fun _ => false)) := bools_made hown2
  clear hown2 hgrow2
  go_wp2
  go_ret
  exact ⟨rfl, HO2.out, HB2.out⟩
theorem pts_mem (s : Nat) : ∀ k i, i ∈ pts s k ↔ i < k ∧ s.testBit i = true
  | 0, i => by simp [pts]
  | k + 1, i => by
    cases hb : s.testBit k
    · rw [pts_no hb, pts_mem s k i]
      constructor
      · rintro ⟨h1, h2⟩; exact ⟨by omega, h2⟩
      · rintro ⟨h1, h2⟩
        refine ⟨?_, h2⟩
        by_cases e : i = k
        · subst e; rw [hb] at h2; cases h2
        · omega
    · rw [pts_yes hb, List.mem_append, pts_mem s k i, List.mem_singleton]
      constructor
      · rintro (⟨h1, h2⟩ | rfl)
        · exact ⟨by omega, h2⟩
        · exact ⟨by omega, hb⟩
      · rintro ⟨h1, h2⟩
        by_cases e : i = k
        · exact .inr e
        · exact .inl ⟨by omega, h2⟩
/-- The points of a set, one by one. -/
theorem pts_all {s k : Nat} (hk : k < (pts s 10).length) : nth (pts s 10) k < 10 ∧ s.testBit (nth (pts s 10) k) = true := by
  have h : nth (pts s 10) k ∈ pts s 10 := by
    have e : nth (pts s 10) k = (pts s 10)[k] := by simp [nth, hk]
    rw [e]; exact List.getElem_mem hk
  exact (pts_mem s 10 _).1 h
theorem pts_at {s i : Nat} (hi : i < 10) (hb : s.testBit i = true) : ∃ k, k < (pts s 10).length ∧ nth (pts s 10) k = i := by
  obtain ⟨k, hk, e⟩ := List.getElem_of_mem ((pts_mem s 10 i).2 ⟨hi, hb⟩)
  exact ⟨k, hk, by simp [nth, hk, e]⟩

theorem and_not_pw {s p : Nat} (hs : s < 1024) (hp : p < 10) (h : s.testBit p = true) : bits .andNot .i64 (s : Int) (wrap64 (2 ^ p)) = ((s - pw p : Nat) : Int) := by
  have h1 : pw p < 1024 := Nat.lt_of_lt_of_le (Nat.pow_lt_pow_right (by decide) hp) (Nat.le_refl (2 ^ 10))
  rw [wrap_pow p (by omega), i64_andNot s (pw p) (by omega) (by omega), lack_pw hs hp h]

set_option maxHeartbeats 1000000 in
theorem hasStep_any (n b s : Nat) (M : Nat → Bool) (w : World) (h10 : n ≤ 10) (hs : s < pw n) (hM : BOwn w b (pw n) M) (hT : Tab w) :
    Calls Tryd.prog 51 #[.slice (some ⟨b, 0, none⟩) (pw n) (pw n), .int .i64 (s : Nat)] w fun e w' => e = .returned (.bool (stp M s 10)) ∧ Below w.heap.size w w' := by
  have hpn := pw_le n h10
  have hs1 : s < 1024 := by omega
  have HM : Hid (BOwn w b (pw n) M) := hM
  obtain ⟨V, HV⟩ : ∃ V, Hid (V = stp M s 10) := ⟨_, rfl⟩
  rw [← HV.out]
  have HMEM := (show Hid (Calls Tryd.prog 48 #[.int .i64 (s : Nat)] w _) from members_any s w hs1 hT)
  clear hM hT
  go_enter Tryd.func51, Tryd.ntmps51
  go_wp2_with fail
  refine HMEM.out.mono ?_
  rintro e w1 ⟨⟨v, rfl, hv⟩, hb1⟩
  obtain ⟨a1, cap1, rfl, hr1⟩ := hv
  have HB1 : Hid (Below w.heap.size w w1) := hb1
  have HM1 : Hid (BOwn w1 b (pw n) M) := HM.out.step hb1
  have HR1 : Hid (Row w1 a1 (pts s 10).length (fun k => (nth (pts s 10) k : Nat))) := hr1
  have hpl := pts_len s 10
  have HPA : Hid (∀ k, k < (pts s 10).length → nth (pts s 10) k < 10 ∧ s.testBit (nth (pts s 10) k) = true) := fun k hk => pts_all hk
  have HPT : Hid (∀ i, i < 10 → s.testBit i = true → ∃ k, k < (pts s 10).length ∧ nth (pts s 10) k = i) := fun i hi hb => pts_at hi hb
  clear hb1 hr1 HMEM HM
  generalize pts s 10 = P at *
  obtain ⟨m, HQ⟩ : ∃ m, Hid (m = P.length) := ⟨_, rfl⟩
  rw [← HQ.out] at hpl HR1 HPA HPT ⊢
  go_wp2_with fail
  go_loop [10] (fun i => ∃ k : Nat, k ≤ m ∧ i = .int .i64 k ∧ Hid (∀ j, j < k → M (s - pw (nth P j)) = false)) (fun i => m - (intOf i).toNat)
  case atStart => exact ⟨0, Nat.zero_le _, rfl, upto_zero⟩
  case round =>
    obtain ⟨k, hk, rfl, hok⟩ := hrel
    by_cases hlt : k < m
    · obtain ⟨b2, off, rfl, hc⟩ := HR1.out k hlt
      have hlt' : (k : Int) < (m : Int) := by omega
      obtain ⟨hp, hb⟩ := HPA.out k hlt
      have hc2 : w1.cell? ⟨b2, off + k, none⟩ = some (.int .i64 (nth P k : Nat)) := hc
      clear hc
      have HQ2 : Hid (nth P k < 10 ∧ s.testBit (nth P k) = true) := ⟨hp, hb⟩
      generalize hpp : nth P k = p at *
      have HPE : Hid (nth P k = p) := hpp
      have han := and_not_pw hs1 hp hb
      have hsub := sub_lt' hs1 hp hb
      obtain ⟨d, hd⟩ : ∃ d, s - pw p = d := ⟨_, rfl⟩
      rw [hd] at han hsub
      have hdn : d < pw n := by omega
      have hdi : (d : Int) < ((pw n : Nat) : Int) := by omega
      have hcd := (HM1.out d hdn).1
      have HD : Hid (s - pw p = d) := hd
      clear hpp hd
      cases hmd : M d
      · rw [hmd] at hcd
        have HN : Hid (∀ j, j < k + 1 → M (s - pw (nth P j)) = false) := upto_succ hok.out (by rw [HPE.out, HD.out]; exact hmd)
        clear hok
        go_wp2_with (rw [han])
        go_round
        case rel => exact ⟨k + 1, by omega, by go_num, HN⟩
        case measure => simp [intOf]; omega
      · rw [hmd] at hcd
        have HE : Hid (V = true) := by rw [Hid, HV.out]; exact stp_iff.2 ⟨p, hp, hb, by rw [HD.out]; exact hmd⟩
        clear hok
        go_wp2_with (rw [han])
        go_ret
        exact ⟨by rw [HE.out]; rfl, HB1.out⟩
    · obtain rfl : k = m := by omega
      have HE : Hid (V = false) := by
        rw [Hid, HV.out]
        cases e : stp M s 10
        · rfl
        · obtain ⟨p, h1, h2, h3⟩ := stp_iff.1 e
          obtain ⟨j, hj, e2⟩ := HPT.out p h1 h2
          have := hok.out j hj
          rw [e2, h3] at this; cases this
      clear hok
      go_wp2_with fail
      go_ret
      exact ⟨by rw [HE.out]; rfl, HB1.out⟩
end Go.Proofs.YtjoklkbfcobfeaaDoor
