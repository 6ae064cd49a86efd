/-
  What the reference's BaseOf and SameRules answer, and hasselaw.rulesAre. Conditions: as each theorem says.
-/
import Derived.Test.YtgjdpgjaaaeglaaDoorRefCls
import Derived.BigQuiet
namespace Go.Proofs.YtgjdpgjaaaeglaaDoor
open Go.RowKit

/-- Is s skew, as far as the first j rules go? -/
def skB (C : Nat → Nat) (L : List (Nat × Nat)) (s j : Nat) : Bool := (C s != s) && allB (fun i => obe s (L.getD i (0, 0))) j
theorem skB_succ (C : Nat → Nat) (L : List (Nat × Nat)) (s j : Nat) : skB C L s (j + 1) = (skB C L s j && obe s (L.getD j (0, 0))) := by
  unfold skB; rw [allB, Bool.and_assoc]
theorem skB_all {C : Nat → Nat} {L : List (Nat × Nat)} {s : Nat} : skB C L s L.length = true ↔ C s ≠ s ∧ L.all (obe s) = true := by
  unfold skB
  rw [Bool.and_eq_true, allB_iff]
  constructor
  · rintro ⟨h1, h2⟩; exact ⟨by simpa using h1, all_getD h2⟩
  · rintro ⟨h1, h2⟩
    exact ⟨by simpa using h1, fun k hk => List.all_eq_true.1 h2 _ (getD_mem (0, 0) hk)⟩
theorem bas_le (C : Nat → Nat) : ∀ k, (bas C k).length ≤ k
  | 0 => Nat.le_refl _
  | k + 1 => by
    have := bas_le C k
    by_cases e : C k ≠ k ∧ (bas C k).all (obe k) = true
    · rw [bas_yes e.1 e.2, List.length_append, List.length_singleton]; omega
    · rw [bas, if_neg e]; omega

set_option maxHeartbeats 4000000 in
theorem baseOf_any (K : Nat) (C : Nat → Nat) (a : Option Addr) (cap : Nat) (w : World) (hK : K ≤ 1024) (hC : ∀ s, s < K → C s < 1024) (hr : Row w a K (fun k => (C k : Nat))) :
    Calls Tryd.prog 16 #[.slice a K cap] w fun e w' => (∃ v, e = .returned v ∧ PSl w' v (bas C K)) ∧ Below w.heap.size w w' := by
  have HR : Hid (∀ w', Below w.heap.size w w' → Row w' a K (fun k => (C k : Nat))) := fun w' h => hr.below h
  have HC : Hid (∀ s, s < K → C s < 1024) := hC
  obtain ⟨i0, hi, hz0, hz1, hz2⟩ := info_parts Tryd.infoRU
  clear hr hC
  go_enter Tryd.func16, Tryd.ntmps16
  go_wp2_with fail
  go_loopw [3, 4] (fun v i wx => ∃ s : Nat, s ≤ K ∧ i = .int .i64 s ∧ wx.ownsRow w.heap.size 47 2 v (bas C s).length (pairVals (bas C s)) ∧ Hid (∃ pb n' c', v = .slice pb n' c' ∧ n' = (bas C s).length) ∧ Hid (Below w.heap.size w wx)) (fun _ i _ => K - (intOf i).toNat)
  case atStart => exact ⟨0, Nat.zero_le _, rfl, World.ownsRow_nil _ _ _ _, ⟨_, _, _, rfl, rfl⟩, Below.refl _ _⟩
  case round =>
    obtain ⟨s, hs, rfl, hown, ⟨pb, n', c', rfl, rfl⟩, hB⟩ := hrel
    by_cases hlt : s < K
    · have hlt' : (s : Int) < (K : Int) := by omega
      obtain ⟨b, off, rfl, hc⟩ := HR.out _ hB.out s hlt
      have hc2 : wr.cell? ⟨b, off + s, none⟩ = some (.int .i64 (C s : Nat)) := hc
      have hcs := HC.out s hlt
      obtain ⟨L, HL⟩ : ∃ L, Hid (L = bas C s) := ⟨_, rfl⟩
      have HLM : Hid (∀ k, k < L.length → (L.getD k (0, 0)).1 < 1024 ∧ (L.getD k (0, 0)).2 < 1024) := fun k hk => by
        rw [HL.out] at hk ⊢
        have hm := bas_mem (getD_mem (0, 0) hk)
        exact ⟨by omega, by rw [hm.2]; exact HC.out _ (by omega)⟩
      have hLl : L.length ≤ 1024 := by rw [HL.out]; have := bas_le C s; omega
      have HALL : Hid (skB C L s L.length = true ↔ C s ≠ s ∧ (bas C s).all (obe s) = true) := by rw [← HL.out]; exact skB_all
      have HSK : Hid (∀ j, skB C L s (j + 1) = (skB C L s j && obe s (L.getD j (0, 0)))) := fun j => skB_succ _ _ _ _
      have h0 : (((C s : Nat) : Int) != ((s : Nat) : Int)) = skB C L s 0 := by
        show _ = ((C s != s) && true)
        rw [Bool.and_true, Bool.eq_iff_iff]; simp; omega
      rw [← HL.out] at hown ⊢
      have HO : Hid (wr.ownsRow w.heap.size 47 2 (.slice pb L.length c') L.length (pairVals L)) := hown
      obtain ⟨y, HY⟩ : ∃ y, Hid (C s = y) := ⟨_, rfl⟩
      rw [HY.out] at hc2 hcs h0
      clear hown hc
      go_wp2_with fail
      try rw [h0]
      clear h0
      go_loop [5, 6] (fun k i => ∃ j : Nat, j ≤ L.length ∧ i = .int .i64 (j : Nat) ∧ k = .bool (skB C L s j)) (fun _ i => L.length - (intOf i).toNat)
      case atStart => exact ⟨0, Nat.zero_le _, rfl, rfl⟩
      case round =>
        obtain ⟨j, hj, rfl, rfl⟩ := hrel
        by_cases hjl : j < L.length
        · have hjl' : (j : Int) < (L.length : Int) := by omega
          obtain ⟨pa', pc', e', hrow⟩ := owns_pairs HO.out
          cases e'
          obtain ⟨b1, off1, rfl, c1, c2⟩ := hrow j hjl
          obtain ⟨r, HRR⟩ : ∃ r, Hid (r = L.getD j (0, 0)) := ⟨_, rfl⟩
          obtain ⟨g1, g2⟩ := HLM.out j hjl
          have hsk := HSK.out j
          rw [← HRR.out] at g1 g2 hsk
          have HSJ : Hid (skB C L s (j + 1) = (skB C L s j && obe s r)) := hsk
          have d1 : wr.cell? ⟨b1, off1 + j * 2, none⟩ = some (.int .i64 (r.1 : Nat)) := by rw [c1, HRR.out]; rfl
          have d2 : wr.cell? ⟨b1, off1 + j * 2 + 1, none⟩ = some (.int .i64 (r.2 : Nat)) := by rw [c2, HRR.out]; rfl
          clear c1 c2 hrow hsk
          rcases (Bool.eq_false_or_eq_true (skB C L s j)).symm with ha | ha
          · rw [ha]
            go_wp2_with fail
            go_round
            case rel => exact ⟨j + 1, by omega, by go_num, by rw [HSJ.out, ha]; rfl⟩
            case measure => simp [intOf]; omega
          · rcases (Bool.eq_false_or_eq_true (lack r.1 s == 0)).symm with h1 | h1
            · rw [ha]
              go_wp2_with fail
              refine (inside_any r.1 s _ (by omega) (by omega)).mono ?_
              rintro e w' ⟨rfl, rfl⟩
              rw [h1]
              go_wp2_with fail
              go_round
              case rel => exact ⟨j + 1, by omega, by go_num, by rw [HSJ.out, ha]; unfold obe; rw [h1]; rfl⟩
              case measure => simp [intOf]; omega
            · rw [ha]
              go_wp2_with fail
              refine (inside_any r.1 s _ (by omega) (by omega)).mono ?_
              rintro e w' ⟨rfl, rfl⟩
              rw [h1]
              go_wp2_with fail
              refine (inside_any r.2 s _ (by omega) (by omega)).mono ?_
              rintro e w' ⟨rfl, rfl⟩
              go_wp2_with fail
              go_round
              case rel => exact ⟨j + 1, by omega, by go_num, by rw [HSJ.out, ha]; unfold obe; rw [h1]; rfl⟩
              case measure => simp [intOf]; omega
        · obtain rfl : j = L.length := by omega
          rcases (Bool.eq_false_or_eq_true (skB C L s L.length)).symm with ha | ha
          · have HE : Hid (bas C (s + 1) = bas C s) := by
              rw [Hid, bas, if_neg]
              intro h
              rw [HALL.out.2 h] at ha; cases ha
            rw [ha]
            go_wp2_with fail
            go_roundw
            case rel => exact ⟨s + 1, by omega, by go_num, by rw [HE.out, ← HL.out]; exact HO.out, ⟨_, _, _, rfl, by rw [HE.out, ← HL.out]⟩, hB⟩
            case measure => simp [intOf]; omega
          · have HE : Hid (bas C (s + 1) = bas C s ++ [(s, y)]) := by
              obtain ⟨h1, h2⟩ := HALL.out.1 ha
              rw [Hid, bas_yes h1 h2, HY.out]
            rw [ha]
            have hown3 := HO.out
            have hsz : w.heap.size ≤ wr.heap.size := hB.out.size
            clear HO
            go_wp2_with (at_builtin; refine wpList_append_own _ rfl _ _ 22 rfl w.heap.size 47 i0 (.agg #[.int .i64 0, .int .i64 0]) 2 16 Tryd.underlying22 hi hz0 hz1 hz2 rfl (by decide) _ _ _ rfl (hown3.alloc _) ⟨wr.heap.size, 0, none⟩ 1 1 [.int .i64 (s : Nat), .int .i64 (y : Nat)] rfl rfl ?c1 ?c2 ?c3 ?c4 ?c5 ?_)
            try case c1 =>
              intro j u hj
              match j, hj with
              | 0, hj => simp at hj; subst hj; simp [Addr.add]
              | 1, hj => simp at hj; subst hj; simp [Addr.add]
            case c2 => first | exact ⟨rfl, rfl⟩ | (intro u hu; simp at hu; rcases hu with rfl | rfl <;> rfl)
            case c3 => first | omega | (unfold maxLen; omega)
            case c4 => omega
            case c5 => first | omega | (simp; omega)
            intro v' w4 hown' hgrow _
            have HB5 : Hid (Below w.heap.size w w4) := below_append2 hB.out hown3 hgrow
            have HO5 : Hid (w4.ownsRow w.heap.size 47 2 v' (bas C (s + 1)).length (pairVals (bas C (s + 1)))) := by
              rw [HE.out, ← HL.out, pairVals_append, List.length_append]; exact hown'
            obtain ⟨g7, c7, rfl⟩ := owns_form hown' (by omega)
            have HLE : Hid ((bas C (s + 1)).length = L.length + 1) := by rw [Hid, HE.out, ← HL.out, List.length_append]; rfl
            clear hown' hgrow hown3 hB hsz
            go_wp2_with fail
            go_roundw
            case rel => exact ⟨s + 1, by omega, by go_num, HO5.out, ⟨_, _, _, rfl, by rw [HLE.out]⟩, HB5⟩
            case measure => simp [intOf]; omega
    · obtain rfl : s = K := by omega
      have HF : Hid (PSl wr (.slice pb (bas C s).length c') (bas C s)) := owns_pairs hown
      have hle : (s : Int) ≤ (s : Int) := Int.le_refl _
      clear hown
      go_wp2_with fail
      go_ret
      exact ⟨⟨_, rfl, HF.out⟩, hB.out⟩

theorem neq_rule (x y : Int) (w : World) : (binOp .neq 47 (.agg #[.int .i64 x, .int .i64 y]) (.agg #[.int .i64 x, .int .i64 y])).run Tryd.prog w = .ok (.bool false) w := by
  rw [run_neq_struct, run_equalIn_struct w 9999 47 _ _ (by kernel_rfl) (by kernel_rfl)]
  simp [go_sem, Op.eqFields]
theorem sameRules_any (v v' : Value) (l : List (Nat × Nat)) (w : World) (hl : l.length ≤ 1024) (ha : PSl w v l) (hb : PSl w v' l) :
    Calls Tryd.prog 33 #[v, v'] w fun e w' => e = .returned (.bool true) ∧ Below w.heap.size w w' := by
  obtain ⟨a, ca, rfl, hA⟩ := ha
  obtain ⟨b, cb, rfl, hB⟩ := hb
  generalize l.length = n at *
  generalize pairAt l = p at *
  have HA : Hid (PRow w a n p) := hA
  have HB : Hid (PRow w b n p) := hB
  clear hA hB
  have hneq := neq_rule
  go_enter Tryd.func33, Tryd.ntmps33
  go_wp2
  go_loopw [5] (fun i wx => ∃ k : Nat, k ≤ n ∧ i = .int .i64 k ∧ Hid (PRow wx a n p) ∧ Hid (PRow wx b n p) ∧ Hid (Below w.heap.size w wx)) (fun i _ => n - (intOf i).toNat)
  case atStart => exact ⟨0, Nat.zero_le _, rfl, HA.out, HB.out, Below.refl _ _⟩
  case round =>
    obtain ⟨k, hk, rfl, hA, hB, hW⟩ := hrel
    clear HA HB
    by_cases hlt : k < n
    · obtain ⟨b1, o1, rfl, d1, d2⟩ := hA.out k hlt
      obtain ⟨b2, o2, rfl, d3, d4⟩ := hB.out k hlt
      have hlt' : (k : Int) < (n : Int) := by omega
      go_wp2
      go_quiet (fail)
      go_wp2
      go_roundw
      case rel => exact ⟨k + 1, by omega, by go_num, hA.out, hB.out, below_drewN hW.out _⟩
      case measure => simp [intOf]; omega
    · have hkn : k = n := by omega
      subst hkn
      go_wp2
      go_ret
      exact ⟨rfl, hW.out⟩
end Go.Proofs.YtgjdpgjaaaeglaaDoor
