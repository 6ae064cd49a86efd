/-
  What the reference's CheckEvents answers, whatever it is handed. Condition: a slice reads as a slice of events.
-/
import Derived.Test.YtomoodpgmkjacaaDoorClA
namespace Go.Proofs.YtomoodpgmkjacaaDoor
open Go.RowKit

theorem hasE_succ {E : Nat → Int × Int × Int} {k : Nat} {kd ms : Int} : hasE E (k + 1) kd ms ↔ hasE E k kd ms ∨ ((E k).1 = kd ∧ (E k).2.2 = ms) := by
  constructor
  · rintro ⟨j, hj, h1, h2⟩
    by_cases e : j = k
    · subst e; exact .inr ⟨h1, h2⟩
    · exact .inl ⟨j, by omega, h1, h2⟩
  · rintro (⟨j, hj, h1, h2⟩ | ⟨h1, h2⟩)
    · exact ⟨j, by omega, h1, h2⟩
    · exact ⟨k, by omega, h1, h2⟩
/-- A Bool that tells whether P. -/
def SvI (b : Bool) (P : Prop) : Prop := b = true ↔ P
theorem hasE_zero {E : Nat → Int × Int × Int} {kd ms : Int} : ¬ hasE E 0 kd ms := fun ⟨_, h, _⟩ => absurd h (Nat.not_lt_zero _)
set_option maxRecDepth 100000 in
set_option maxHeartbeats 8000000 in
theorem checkEvents_any (Wk : Int) (a : Option Addr) (len cap : Nat) (E : Nat → Int × Int × Int) (w : World) (hl : len ≤ maxLen) (hr : ERow w a len E) :
    Calls Tryd.prog 5 #[.int .i64 Wk, .slice a len cap] w fun e w' => (∃ c : Int, e = .returned (.int .i64 c) ∧ CkE Wk len E c) ∧ Below w.heap.size w w' := by
  unfold maxLen at hl
  have HR : Hid (ERow w a len E) := hr
  have HB0 : Hid (Below w.heap.size w w) := Below.refl _ _
  clear hr
  by_cases k1 : Wk < 1
  · have k1' : decide (Wk < 1) = true := by simpa using k1
    have HE : Hid (CkE Wk len E 2) := .inl ⟨rfl, .inl k1⟩
    go_enter Tryd.func5, Tryd.ntmps5
    go_wp2
    go_ret
    exact ⟨⟨_, rfl, HE.out⟩, HB0.out⟩
  by_cases k2 : 4 < Wk
  · have k1' : decide (Wk < 1) = false := by simpa using k1
    have k2' : decide (4 < Wk) = true := by simpa using k2
    have HE : Hid (CkE Wk len E 2) := .inl ⟨rfl, .inr (.inl k2)⟩
    go_enter Tryd.func5, Tryd.ntmps5
    go_wp2
    go_ret
    exact ⟨⟨_, rfl, HE.out⟩, HB0.out⟩
  have k1' : decide (Wk < 1) = false := by simpa using k1
  have k2' : decide (4 < Wk) = false := by simpa using k2
  by_cases k3 : 10 < len
  · have HE : Hid (CkE Wk len E 2) := .inl ⟨rfl, .inr (.inr k3)⟩
    have k3' : (10 : Int) < (len : Int) := by omega
    go_enter Tryd.func5, Tryd.ntmps5
    go_wp2
    go_ret
    exact ⟨⟨_, rfl, HE.out⟩, HB0.out⟩
  have HG : Hid (1 ≤ Wk ∧ Wk ≤ 4 ∧ len ≤ 10) := ⟨by omega, by omega, by omega⟩
  have k3' : ¬ (10 : Int) < (len : Int) := by omega
  clear k1 k2 k3
  go_enter Tryd.func5, Tryd.ntmps5
  go_wp2
  go_loopw [5] (fun t wx => ∃ k : Nat, k ≤ len ∧ t = .int .i64 k ∧ Hid (∀ j, j < k → EvIs Wk E j 0) ∧ Hid (Below w.heap.size w wx)) (fun t _ => len - (intOf t).toNat)
  case atStart => exact ⟨0, Nat.zero_le _, rfl, upto_zero, HB0.out⟩
  case round =>
    obtain ⟨i, hi, rfl, hok, hB⟩ := hrel
    clear HB0
    by_cases hlt : i < len
    · have hlt' : (i : Int) < (len : Int) := by omega
      obtain ⟨b, off, rfl, c1, c2, c3⟩ := (HR.out.below hB.out) i hlt
      have HEV : Hid (∀ c, EvF Wk E i (E i).1 (E i).2.1 (E i).2.2 c → EvIs Wk E i c) := fun c h => h
      have HFIN : Hid (∀ c, c ≠ 0 → EvIs Wk E i c → CkE Wk len E c) := fun c h0 h => .inr ⟨HG.out, .inl ⟨h0, i, hlt, hok.out, h⟩⟩
      generalize hq1 : (E i).1 = q1 at *
      generalize hq2 : (E i).2.1 = q2 at *
      generalize hq3 : (E i).2.2 = q3 at *
      have HB1 : Hid (Below w.heap.size w (wr.alloc (.cells #[.int .i64 q1, .int .i64 q2, .int .i64 q3] 40))) := hB.out.alloc hB.out.size _
      have HX1 : Hid (EBox (wr.alloc (.cells #[.int .i64 q1, .int .i64 q2, .int .i64 q3] 40)) wr.heap.size (q1, q2, q3)) := heap_alloc_new wr _
      clear hB hq1 hq2 hq3
      by_cases a1 : q1 < 1
      · have a1' : decide (q1 < 1) = true := by simpa using a1
        have HE : Hid (CkE Wk len E 7) := HFIN.out 7 (by decide) (HEV.out 7 (.inl ⟨rfl, .inl a1⟩))
        go_wp2_with fail
        go_ret
        exact ⟨⟨_, rfl, HE.out⟩, HB1.out⟩
      have a1' : decide (q1 < 1) = false := by simpa using a1
      by_cases a2 : 3 < q1
      · have a2' : decide (3 < q1) = true := by simpa using a2
        have HE : Hid (CkE Wk len E 7) := HFIN.out 7 (by decide) (HEV.out 7 (.inl ⟨rfl, .inr a2⟩))
        go_wp2_with fail
        go_ret
        exact ⟨⟨_, rfl, HE.out⟩, HB1.out⟩
      have a2' : decide (3 < q1) = false := by simpa using a2
      have HK : Hid (1 ≤ q1 ∧ q1 ≤ 3) := ⟨by omega, by omega⟩
      by_cases a3 : q2 < 0
      · have a3' : decide (q2 < 0) = true := by simpa using a3
        have HE : Hid (CkE Wk len E 3) := HFIN.out 3 (by decide) (HEV.out 3 (.inr ⟨HK.out, .inl ⟨rfl, .inl a3⟩⟩))
        go_wp2_with fail
        go_ret
        exact ⟨⟨_, rfl, HE.out⟩, HB1.out⟩
      have a3' : decide (q2 < 0) = false := by simpa using a3
      by_cases a4 : Wk ≤ q2
      · have a4' : decide (Wk ≤ q2) = true := by simpa using a4
        have HE : Hid (CkE Wk len E 3) := HFIN.out 3 (by decide) (HEV.out 3 (.inr ⟨HK.out, .inl ⟨rfl, .inr (.inl a4)⟩⟩))
        go_wp2_with fail
        go_ret
        exact ⟨⟨_, rfl, HE.out⟩, HB1.out⟩
      have a4' : decide (Wk ≤ q2) = false := by simpa using a4
      by_cases a5 : q3 < 0
      · have a5' : decide (q3 < 0) = true := by simpa using a5
        have HE : Hid (CkE Wk len E 3) := HFIN.out 3 (by decide) (HEV.out 3 (.inr ⟨HK.out, .inl ⟨rfl, .inr (.inr (.inl a5))⟩⟩))
        go_wp2_with fail
        go_ret
        exact ⟨⟨_, rfl, HE.out⟩, HB1.out⟩
      have a5' : decide (q3 < 0) = false := by simpa using a5
      by_cases a6 : q1 = 1 ∧ 0 < q3
      · have a6' : (q1 == 1) = true := by simpa using a6.1
        have a7' : decide (0 < q3) = true := by simpa using a6.2
        have HE : Hid (CkE Wk len E 3) := HFIN.out 3 (by decide) (HEV.out 3 (.inr ⟨HK.out, .inl ⟨rfl, .inr (.inr (.inr ⟨a6.1, by omega⟩))⟩⟩))
        clear a6
        go_wp2_with fail
        go_ret
        exact ⟨⟨_, rfl, HE.out⟩, HB1.out⟩
      have HQ : Hid (0 ≤ q2 ∧ q2 < Wk ∧ 0 ≤ q3 ∧ (q1 = 1 → q3 = 0)) := ⟨by omega, by omega, by omega, fun h => by
        have : ¬ 0 < q3 := fun h2 => a6 ⟨h, h2⟩
        omega⟩
      have HE6 : Hid (q1 ≠ 1 → hasE E i q1 q3 → CkE Wk len E 6) := fun h1 h => HFIN.out 6 (by decide) (HEV.out 6 (.inr ⟨HK.out, .inr ⟨HQ.out, .inl ⟨rfl, h1, h⟩⟩⟩))
      have HE5 : Hid ((q1 = 1 ∨ ¬ hasE E i q1 q3) → q1 = 3 → ¬ hasE E i 2 q3 → CkE Wk len E 5) := fun h h3 h2 => HFIN.out 5 (by decide) (HEV.out 5 (.inr ⟨HK.out, .inr ⟨HQ.out, .inr ⟨h, .inl ⟨rfl, h3, h2⟩⟩⟩⟩))
      have HE0 : Hid ((q1 = 1 ∨ ¬ hasE E i q1 q3) → (q1 = 3 → hasE E i 2 q3) → EvIs Wk E i 0) := fun h h3 => HEV.out 0 (.inr ⟨HK.out, .inr ⟨HQ.out, .inr ⟨h, .inr ⟨rfl, h3⟩⟩⟩⟩)
      obtain ⟨hs1, hs2⟩ : ((q1 == 1) = true ∧ decide (0 < q3) = false) ∨ (q1 == 1) = false ∧ True ↔ True := by
        simp; by_cases e : q1 = 1
        · exact .inl ⟨e, by have : ¬ 0 < q3 := fun h2 => a6 ⟨e, h2⟩; omega⟩
        · exact .inr e
      have hsp := hs2 trivial
      clear hs1 hs2 HEV HFIN HQ a6 a1 a2 a3 a4 a5
      rcases hsp with ⟨s1, s2⟩ | ⟨s1, _⟩
      · have d1 : decide (1 < q1) = false := by have : q1 = 1 := by simpa using s1
                                                simp; omega
        have s3 : (q1 == 3) = false := by have : q1 = 1 := by simpa using s1
                                          simp; omega
        go_wp2_with fail
        obtain ⟨X, HXE⟩ : ∃ X, Hid (wr.heap.size = X) := ⟨_, rfl⟩
        obtain ⟨W, HW⟩ : ∃ W, Hid (wr.alloc (.cells #[.int .i64 q1, .int .i64 q2, .int .i64 q3] 40) = W) := ⟨_, rfl⟩
        rw [HW.out] at HB1 HX1
        rw [HXE.out] at HX1
        rw [HXE.out]
        rw [HW.out]
        clear c1 c2 c3 HW HXE
        go_loopw [7, 8] (fun sn t wx => ∃ (k : Nat) (sv : Bool), k ≤ i ∧ t = .int .i64 k ∧ sn = .bool sv ∧ SvI sv (hasE E k 2 q3) ∧ Hid (q1 = 1 ∨ ¬ hasE E k q1 q3) ∧ Hid (EBox wx X (q1, q2, q3)) ∧ Hid (Below w.heap.size w wx)) (fun _ t _ => i - (intOf t).toNat)
        case atStart => exact ⟨0, false, Nat.zero_le _, rfl, rfl, ⟨fun h => (by cases h), fun h => absurd h hasE_zero⟩, .inr hasE_zero, HX1.out, HB1.out⟩
        case round =>
          obtain ⟨k, sv, hk, rfl, rfl, hsv, hno, hX, hBy⟩ := hrel
          clear HB1 HX1
          have x0 := hX.out.cells.1
          have x1 := hX.out.cells.2.1
          have x2 := hX.out.cells.2.2
          dsimp only at x0 x1 x2
          by_cases hki : k < i
          · have hki' : (k : Int) < (i : Int) := by omega
            have hkl' : (k : Int) < (len : Int) := by omega
            obtain ⟨b2, off2, hbo, c1, c2, c3⟩ := (HR.out.below hBy.out) k (by omega)
            simp at hbo
            obtain ⟨rfl, rfl⟩ := hbo
            have HNO : Hid (q1 = 1 ∨ ¬ hasE E (k + 1) q1 q3) := .inl (by simpa using s1)
            go_wp2_with fail
            go_quiet (fail)
            cases sv
            · have HSN : Hid (¬ hasE E k 2 q3) := fun h => by have := hsv.2 h; cases this
              rcases (Bool.eq_false_or_eq_true ((E k).1 == 2)).symm with f1 | f1
              · have HS2 : SvI false (hasE E (k + 1) 2 q3) := ⟨fun h => (by cases h), fun h => by
                  rcases hasE_succ.1 h with h | ⟨h, _⟩
                  · exact absurd h HSN.out
                  · simp [h] at f1⟩
                go_wp2_with fail
                go_quiet (fail)
                go_wp2_with fail
                go_roundw
                case rel => exact ⟨k + 1, false, by omega, by go_num, rfl, HS2, HNO.out, hX.out, below_drewN hBy.out _⟩
                case measure => simp [intOf]; omega
              · rcases (Bool.eq_false_or_eq_true ((E k).2.2 == q3)).symm with f2 | f2
                · have HS2 : SvI false (hasE E (k + 1) 2 q3) := ⟨fun h => (by cases h), fun h => by
                    rcases hasE_succ.1 h with h | ⟨_, h⟩
                    · exact absurd h HSN.out
                    · simp [h] at f2⟩
                  go_wp2_with fail
                  go_quiet (fail)
                  go_wp2_with fail
                  go_roundw
                  case rel => exact ⟨k + 1, false, by omega, by go_num, rfl, HS2, HNO.out, hX.out, below_drewN hBy.out _⟩
                  case measure => simp [intOf]; omega
                · have HS2 : SvI true (hasE E (k + 1) 2 q3) := ⟨fun _ => hasE_succ.2 (.inr ⟨by simpa using f1, by simpa using f2⟩), fun _ => rfl⟩
                  go_wp2_with fail
                  go_quiet (fail)
                  go_wp2_with fail
                  go_roundw
                  case rel => exact ⟨k + 1, true, by omega, by go_num, rfl, HS2, HNO.out, hX.out, below_drewN hBy.out _⟩
                  case measure => simp [intOf]; omega
            · have HS2 : SvI true (hasE E (k + 1) 2 q3) := ⟨fun _ => hasE_succ.2 (.inl (hsv.1 rfl)), fun _ => rfl⟩
              go_wp2_with fail
              go_quiet (fail)
              go_wp2_with fail
              go_roundw
              case rel => exact ⟨k + 1, true, by omega, by go_num, rfl, HS2, HNO.out, hX.out, below_drewN hBy.out _⟩
              case measure => simp [intOf]; omega
          · obtain rfl : k = i := by omega
            have HE : Hid (EvIs Wk E k 0) := HE0.out hno.out fun h => by simp [h] at s3
            go_wp2_with fail
            go_roundw
            case rel => exact ⟨k + 1, by omega, by go_num, upto_succ hok.out HE.out, hBy.out⟩
            case measure => simp [intOf]; omega
      · have d1 : decide (1 < q1) = true := by have : ¬ q1 = 1 := by simpa using s1
                                               have := HK.out; simp; omega
        go_wp2_with fail
        obtain ⟨X, HXE⟩ : ∃ X, Hid (wr.heap.size = X) := ⟨_, rfl⟩
        obtain ⟨W, HW⟩ : ∃ W, Hid (wr.alloc (.cells #[.int .i64 q1, .int .i64 q2, .int .i64 q3] 40) = W) := ⟨_, rfl⟩
        rw [HW.out] at HB1 HX1
        rw [HXE.out] at HX1
        rw [HXE.out]
        rw [HW.out]
        clear c1 c2 c3 HW HXE
        go_loopw [7, 8] (fun sn t wx => ∃ (k : Nat) (sv : Bool), k ≤ i ∧ t = .int .i64 k ∧ sn = .bool sv ∧ SvI sv (hasE E k 2 q3) ∧ Hid (q1 = 1 ∨ ¬ hasE E k q1 q3) ∧ Hid (EBox wx X (q1, q2, q3)) ∧ Hid (Below w.heap.size w wx)) (fun _ t _ => i - (intOf t).toNat)
        case atStart => exact ⟨0, false, Nat.zero_le _, rfl, rfl, ⟨fun h => (by cases h), fun h => absurd h hasE_zero⟩, .inr hasE_zero, HX1.out, HB1.out⟩
        case round =>
          obtain ⟨k, sv, hk, rfl, rfl, hsv, hno, hX, hBy⟩ := hrel
          clear HB1 HX1
          have x0 := hX.out.cells.1
          have x1 := hX.out.cells.2.1
          have x2 := hX.out.cells.2.2
          dsimp only at x0 x1 x2
          by_cases hki : k < i
          · have hki' : (k : Int) < (i : Int) := by omega
            have hkl' : (k : Int) < (len : Int) := by omega
            obtain ⟨b2, off2, hbo, c1, c2, c3⟩ := (HR.out.below hBy.out) k (by omega)
            simp at hbo
            obtain ⟨rfl, rfl⟩ := hbo
            rcases (Bool.eq_false_or_eq_true ((E k).1 == q1)).symm with g1 | g1
            · have HNO : Hid (q1 = 1 ∨ ¬ hasE E (k + 1) q1 q3) := hno.out.imp id fun h h2 => by
                rcases hasE_succ.1 h2 with h2 | ⟨h2, _⟩
                · exact h h2
                · simp [h2] at g1
              go_wp2_with fail
              go_quiet (fail)
              cases sv
              · have HSN : Hid (¬ hasE E k 2 q3) := fun h => by have := hsv.2 h; cases this
                rcases (Bool.eq_false_or_eq_true ((E k).1 == 2)).symm with f1 | f1
                · have HS2 : SvI false (hasE E (k + 1) 2 q3) := ⟨fun h => (by cases h), fun h => by
                    rcases hasE_succ.1 h with h | ⟨h, _⟩
                    · exact absurd h HSN.out
                    · simp [h] at f1⟩
                  go_wp2_with fail
                  go_quiet (fail)
                  go_wp2_with fail
                  go_roundw
                  case rel => exact ⟨k + 1, false, by omega, by go_num, rfl, HS2, HNO.out, hX.out, below_drewN hBy.out _⟩
                  case measure => simp [intOf]; omega
                · rcases (Bool.eq_false_or_eq_true ((E k).2.2 == q3)).symm with f2 | f2
                  · have HS2 : SvI false (hasE E (k + 1) 2 q3) := ⟨fun h => (by cases h), fun h => by
                      rcases hasE_succ.1 h with h | ⟨_, h⟩
                      · exact absurd h HSN.out
                      · simp [h] at f2⟩
                    go_wp2_with fail
                    go_quiet (fail)
                    go_wp2_with fail
                    go_roundw
                    case rel => exact ⟨k + 1, false, by omega, by go_num, rfl, HS2, HNO.out, hX.out, below_drewN hBy.out _⟩
                    case measure => simp [intOf]; omega
                  · have HS2 : SvI true (hasE E (k + 1) 2 q3) := ⟨fun _ => hasE_succ.2 (.inr ⟨by simpa using f1, by simpa using f2⟩), fun _ => rfl⟩
                    go_wp2_with fail
                    go_quiet (fail)
                    go_wp2_with fail
                    go_roundw
                    case rel => exact ⟨k + 1, true, by omega, by go_num, rfl, HS2, HNO.out, hX.out, below_drewN hBy.out _⟩
                    case measure => simp [intOf]; omega
              · have HS2 : SvI true (hasE E (k + 1) 2 q3) := ⟨fun _ => hasE_succ.2 (.inl (hsv.1 rfl)), fun _ => rfl⟩
                go_wp2_with fail
                go_quiet (fail)
                go_wp2_with fail
                go_roundw
                case rel => exact ⟨k + 1, true, by omega, by go_num, rfl, HS2, HNO.out, hX.out, below_drewN hBy.out _⟩
                case measure => simp [intOf]; omega
            · rcases (Bool.eq_false_or_eq_true ((E k).2.2 == q3)).symm with g2 | g2
              · have HNO : Hid (q1 = 1 ∨ ¬ hasE E (k + 1) q1 q3) := hno.out.imp id fun h h2 => by
                  rcases hasE_succ.1 h2 with h2 | ⟨_, h2⟩
                  · exact h h2
                  · simp [h2] at g2
                go_wp2_with fail
                go_quiet (fail)
                cases sv
                · have HSN : Hid (¬ hasE E k 2 q3) := fun h => by have := hsv.2 h; cases this
                  rcases (Bool.eq_false_or_eq_true ((E k).1 == 2)).symm with f1 | f1
                  · have HS2 : SvI false (hasE E (k + 1) 2 q3) := ⟨fun h => (by cases h), fun h => by
                      rcases hasE_succ.1 h with h | ⟨h, _⟩
                      · exact absurd h HSN.out
                      · simp [h] at f1⟩
                    go_wp2_with fail
                    go_quiet (fail)
                    go_wp2_with fail
                    go_roundw
                    case rel => exact ⟨k + 1, false, by omega, by go_num, rfl, HS2, HNO.out, hX.out, below_drewN hBy.out _⟩
                    case measure => simp [intOf]; omega
                  · rcases (Bool.eq_false_or_eq_true ((E k).2.2 == q3)).symm with f2 | f2
                    · have HS2 : SvI false (hasE E (k + 1) 2 q3) := ⟨fun h => (by cases h), fun h => by
                        rcases hasE_succ.1 h with h | ⟨_, h⟩
                        · exact absurd h HSN.out
                        · simp [h] at f2⟩
                      go_wp2_with fail
                      go_quiet (fail)
                      go_wp2_with fail
                      go_roundw
                      case rel => exact ⟨k + 1, false, by omega, by go_num, rfl, HS2, HNO.out, hX.out, below_drewN hBy.out _⟩
                      case measure => simp [intOf]; omega
                    · exact absurd (g2.symm.trans f2) (by decide)
                · have HS2 : SvI true (hasE E (k + 1) 2 q3) := ⟨fun _ => hasE_succ.2 (.inl (hsv.1 rfl)), fun _ => rfl⟩
                  go_wp2_with fail
                  go_quiet (fail)
                  go_wp2_with fail
                  go_roundw
                  case rel => exact ⟨k + 1, true, by omega, by go_num, rfl, HS2, HNO.out, hX.out, below_drewN hBy.out _⟩
                  case measure => simp [intOf]; omega
              · have HE : Hid (CkE Wk len E 6) := HE6.out (by simpa using s1) ⟨k, hki, by simpa using g1, by simpa using g2⟩
                go_wp2_with fail
                go_quiet (fail)
                go_wp2_with fail
                go_ret
                exact ⟨⟨_, rfl, HE.out⟩, below_drewN hBy.out _⟩
          · obtain rfl : k = i := by omega
            rcases (Bool.eq_false_or_eq_true (q1 == 3)).symm with s3 | s3
            · have HE : Hid (EvIs Wk E k 0) := HE0.out hno.out fun h => by simp [h] at s3
              go_wp2_with fail
              go_roundw
              case rel => exact ⟨k + 1, by omega, by go_num, upto_succ hok.out HE.out, hBy.out⟩
              case measure => simp [intOf]; omega
            · cases sv
              · have HE : Hid (CkE Wk len E 5) := HE5.out hno.out (by simpa using s3) fun h => by have := hsv.2 h; cases this
                go_wp2_with fail
                go_ret
                exact ⟨⟨_, rfl, HE.out⟩, hBy.out⟩
              · have HE : Hid (EvIs Wk E k 0) := HE0.out hno.out fun _ => hsv.1 rfl
                go_wp2_with fail
                go_roundw
                case rel => exact ⟨k + 1, by omega, by go_num, upto_succ hok.out HE.out, hBy.out⟩
                case measure => simp [intOf]; omega
    · obtain rfl : i = len := by omega
      have HE : Hid (CkE Wk i E 0) := .inr ⟨HG.out, .inr ⟨rfl, hok.out⟩⟩
      go_wp2
      go_ret
      exact ⟨⟨_, rfl, HE.out⟩, hB.out⟩
end Go.Proofs.YtomoodpgmkjacaaDoor
