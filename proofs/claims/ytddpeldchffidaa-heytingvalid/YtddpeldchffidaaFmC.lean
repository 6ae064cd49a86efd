/-
  What heyting.checkForm and the reference's FormulaCount and formulaWrong answer. Conditions: the value reads as a formula.
-/
import Derived.Test.YtddpeldchffidaaFmR
import Derived.Test.YtddpeldchffidaaLRows
namespace Go.Proofs.Ytddpeldchffidaa
set_option maxRecDepth 100000
open Go.RowKit

section
variable {k x : Int} {n : Nat} {kid : Nat → FT}
theorem cf_kind (h : k < 1 ∨ 5 < k) : cf (.mk k x n kid) = 7 := by rw [cf_eq, if_pos h]
theorem cf_form (h : ¬ (k < 1 ∨ 5 < k)) (h2 : (k < 3 ∧ n ≠ 0) ∨ (3 ≤ k ∧ n ≠ 2)) : cf (.mk k x n kid) = 1 := by rw [cf_eq, if_neg h, if_pos h2]
theorem cf_range (h : ¬ (k < 1 ∨ 5 < k)) (h2 : ¬ ((k < 3 ∧ n ≠ 0) ∨ (3 ≤ k ∧ n ≠ 2))) (h3 : x < 0 ∨ 2 < x ∨ (k ≠ 2 ∧ x ≠ 0)) : cf (.mk k x n kid) = 3 := by rw [cf_eq, if_neg h, if_neg h2, if_pos h3]
theorem cf_rest (h : ¬ (k < 1 ∨ 5 < k)) (h2 : ¬ ((k < 3 ∧ n ≠ 0) ∨ (3 ≤ k ∧ n ≠ 2))) (h3 : ¬ (x < 0 ∨ 2 < x ∨ (k ≠ 2 ∧ x ≠ 0))) : cf (.mk k x n kid) = cfK kid n := by rw [cf_eq, if_neg h, if_neg h2, if_neg h3]
end
theorem pntT {p n : Int} (h : pnt p n = true) : 0 ≤ p ∧ p < n := by simpa [pnt] using h
theorem pntF {p n : Int} (h : pnt p n = false) : ¬ (0 ≤ p ∧ p < n) := by simpa [pnt] using h
set_option maxHeartbeats 4000000 in
theorem checkForm_any (T : FT) : ∀ (v : Value) (w : World), FRep w T v → Calls Try.prog 29 #[v] w fun e w' => e = .returned (.int .i64 (cf T)) ∧ Below w.heap.size w w' := by
  induction T using FT.ind with
  | leaf => exact fun _ _ h => h.elim
  | mk k x n kid ih =>
    intro v w hf
    obtain ⟨a, cap, rfl, hn, hk⟩ := hf
    have hn' : n ≤ 9223372036854775807 := by unfold maxLen at hn; omega
    have HIH : Hid (∀ i (v : Value) (w : World), FRep w (kid i) v → Calls Try.prog 29 #[v] w fun e w' => e = .returned (.int .i64 (cf (kid i))) ∧ Below w.heap.size w w') := ih
    obtain ⟨W, hW⟩ : ∃ W, W = w.alloc (.cells #[.int .i64 k, .int .i64 x, .slice a n cap] 27) := ⟨_, rfl⟩
    have HB1 : Hid (Below w.heap.size w W) := by rw [hW]; exact (Below.refl _ _).alloc (Nat.le_refl _) _
    have HX : Hid (∀ w', Below W.heap.size W w' → (w'.cell? ⟨w.heap.size, 0, none⟩ = some (.int .i64 k) ∧ w'.cell? ⟨w.heap.size, 1, none⟩ = some (.int .i64 x)) ∧ w'.cell? ⟨w.heap.size, 2, none⟩ = some (.slice a n cap)) := fun w' h =>
      ⟨⟨cell_step h (by rw [hW]; simp), cell_step h (by rw [hW]; simp)⟩, cell_step h (by rw [hW]; simp)⟩
    have HWE : Hid (W = w.alloc (.cells #[.int .i64 k, .int .i64 x, .slice a n cap] 27)) := hW
    have HK : Hid (∀ i, i < n → ∃ b off, a = some ⟨b, off, none⟩ ∧ ∃ (k' x' : Int) (a' : Option Addr) (n' c' : Nat), ∀ w', Below W.heap.size W w' →
        (w'.cell? ⟨b, off + i * 3, none⟩ = some (.int .i64 k') ∧ w'.cell? ⟨b, off + i * 3 + 1, none⟩ = some (.int .i64 x') ∧ w'.cell? ⟨b, off + i * 3 + 2, none⟩ = some (.slice a' n' c')) ∧ FRep w' (kid i) (.agg #[.int .i64 k', .int .i64 x', .slice a' n' c'])) := fun i hi => by
      obtain ⟨b, off, e, k', x', a', n', c', ⟨h1, h2, h3⟩, h4⟩ := hk i hi
      exact ⟨b, off, e, k', x', a', n', c', fun w' hb0 => by
        have hb := Below.then HB1.out hb0
        exact ⟨⟨cell_step hb h1, cell_step hb h2, cell_step hb h3⟩, FRep.step hb _ _ h4⟩⟩
    have x0 : W.cell? ⟨w.heap.size, 0, none⟩ = some (.int .i64 k) := (HX.out W (Below.refl _ _)).1.1
    have x1 : W.cell? ⟨w.heap.size, 1, none⟩ = some (.int .i64 x) := (HX.out W (Below.refl _ _)).1.2
    have x2 : W.cell? ⟨w.heap.size, 2, none⟩ = some (.slice a n cap) := (HX.out W (Below.refl _ _)).2
    clear hk ih hn hW
    by_cases hk1 : k = 1
    · subst hk1
      by_cases hnn : n = 0
      · subst hnn
        rcases hp : pnt x 1 with _ | _
        · have hpp := pntF hp
          have HCF : Hid (cf (.mk 1 x 0 kid) = 3) := cf_range (by omega) (by omega) (by omega)
          go_enter Try.func29, Try.ntmps29
          go_wp2_with (go_at_call 32; refine (isPoint_any _ _ _).mono ?_; rintro e w' ⟨rfl, hww⟩; subst hww)
          go_ret
          exact ⟨by rw [HCF.out]; rfl, by rw [← HWE.out]; exact HB1.out⟩
        · have hpp := pntT hp
          have HCF : Hid (cf (.mk 1 x 0 kid) = cfK kid 0) := cf_rest (by omega) (by omega) (by omega)
          clear hpp
          go_enter Try.func29, Try.ntmps29
          go_wp2_with (go_at_call 32; refine (isPoint_any _ _ _).mono ?_; rintro e w' ⟨rfl, hww⟩; subst hww)
          rw [← HWE.out]
          clear HWE x0 x1 x2
          go_loopw [31] (fun i wx => i = .int .i64 0 ∧ Hid (Below W.heap.size W wx)) (fun _ _ => 0)
          case atStart => exact ⟨rfl, Below.refl _ _⟩
          case round =>
            obtain ⟨rfl, HW⟩ := hrel
            go_wp2_with fail
            go_ret
            exact ⟨by rw [HCF.out]; rfl, Below.then HB1.out HW.out⟩
      · have hne : (((n : Nat) : Int) != 0) = true := by simp; omega
        have HCF : Hid (cf (.mk 1 x n kid) = 1) := cf_form (by omega) (by omega)
        go_enter Try.func29, Try.ntmps29
        go_wp2_with fail
        go_ret
        exact ⟨by rw [HCF.out]; rfl, by rw [← HWE.out]; exact HB1.out⟩
    have hb1 : (k == 1) = false := by simpa using hk1
    by_cases hk2 : k = 2
    · subst hk2
      by_cases hnn : n = 0
      · subst hnn
        rcases hp : pnt x 3 with _ | _
        · have hpp := pntF hp
          have HCF : Hid (cf (.mk 2 x 0 kid) = 3) := cf_range (by omega) (by omega) (by omega)
          go_enter Try.func29, Try.ntmps29
          go_wp2_with (go_at_call 32; refine (isPoint_any _ _ _).mono ?_; rintro e w' ⟨rfl, hww⟩; subst hww)
          go_ret
          exact ⟨by rw [HCF.out]; rfl, by rw [← HWE.out]; exact HB1.out⟩
        · have hpp := pntT hp
          have HCF : Hid (cf (.mk 2 x 0 kid) = cfK kid 0) := cf_rest (by omega) (by omega) (by omega)
          clear hpp
          go_enter Try.func29, Try.ntmps29
          go_wp2_with (go_at_call 32; refine (isPoint_any _ _ _).mono ?_; rintro e w' ⟨rfl, hww⟩; subst hww)
          rw [← HWE.out]
          clear HWE x0 x1 x2
          go_loopw [31] (fun i wx => i = .int .i64 0 ∧ Hid (Below W.heap.size W wx)) (fun _ _ => 0)
          case atStart => exact ⟨rfl, Below.refl _ _⟩
          case round =>
            obtain ⟨rfl, HW⟩ := hrel
            go_wp2_with fail
            go_ret
            exact ⟨by rw [HCF.out]; rfl, Below.then HB1.out HW.out⟩
      · have hne : (((n : Nat) : Int) != 0) = true := by simp; omega
        have HCF : Hid (cf (.mk 2 x n kid) = 1) := cf_form (by omega) (by omega)
        go_enter Try.func29, Try.ntmps29
        go_wp2_with fail
        go_ret
        exact ⟨by rw [HCF.out]; rfl, by rw [← HWE.out]; exact HB1.out⟩
    have hb2 : (k == 2) = false := by simpa using hk2
    by_cases hk3 : k = 3
    · subst hk3
      by_cases hnn : n = 2
      · subst hnn
        rcases hp : pnt x 1 with _ | _
        · have hpp := pntF hp
          have HCF : Hid (cf (.mk 3 x 2 kid) = 3) := cf_range (by omega) (by omega) (by omega)
          go_enter Try.func29, Try.ntmps29
          go_wp2_with (go_at_call 32; refine (isPoint_any _ _ _).mono ?_; rintro e w' ⟨rfl, hww⟩; subst hww)
          go_ret
          exact ⟨by rw [HCF.out]; rfl, by rw [← HWE.out]; exact HB1.out⟩
        · have hpp := pntT hp
          have HCF : Hid (cf (.mk 3 x 2 kid) = cfK kid 2) := cf_rest (by omega) (by omega) (by omega)
          clear hpp
          go_enter Try.func29, Try.ntmps29
          go_wp2_with (go_at_call 32; refine (isPoint_any _ _ _).mono ?_; rintro e w' ⟨rfl, hww⟩; subst hww)
          rw [← HWE.out]
          clear HWE x0 x1 x2
          go_loopw [31] (fun i wx => ∃ t : Nat, t ≤ 2 ∧ i = .int .i64 (t : Nat) ∧ Hid (cfK kid t = 0) ∧ Hid (Below W.heap.size W wx)) (fun i _ => 2 - (intOf i).toNat)
          case atStart => exact ⟨0, Nat.zero_le _, rfl, rfl, Below.refl _ _⟩
          case round =>
            obtain ⟨t, ht, rfl, HZ, HW⟩ := hrel
            by_cases htn : t < 2
            · have htI : (t : Int) < (2 : Int) := by omega
              obtain ⟨b, off, HA, k', x', a', n', c', HC⟩ := HK.out t htn
              obtain ⟨⟨q1, q2, q3⟩, _⟩ := HC _ HW.out
              subst HA
              have HR : Hid (∀ w', Below W.heap.size W w' → FRep w' (kid t) (.agg #[.int .i64 k', .int .i64 x', .slice a' n' c'])) := fun w' h => (HC w' h).2
              have HW9 : Hid (∀ o, Below W.heap.size W (wr.alloc o)) := fun o => HW.out.alloc HW.out.size o
              have HSU : Hid (cfK kid (t + 1) = cf (kid t)) := by rw [Hid, cfK_succ, if_neg (by rw [HZ.out]; simp)]
              clear HC
              go_wp2_with fail
              refine (HIH.out t _ _ (HR.out _ (HW9.out _))).mono ?_
              rintro e w7 ⟨rfl, hb7⟩
              have HW7 : Hid (Below W.heap.size W w7) := Below.then (HW9.out _) hb7
              clear hb7 HW HR q1 q2 q3 HW9
              by_cases hc : cf (kid t) = 0
              · have HZ2 : Hid (cfK kid (t + 1) = 0) := by rw [Hid, HSU.out]; exact hc
                rw [hc]
                clear hc HSU HZ
                go_wp2_with fail
                go_roundw
                case rel => exact ⟨t + 1, by omega, by go_num, HZ2.out, HW7.out⟩
                case measure => simp [intOf]; omega
              · have hne : (cf (kid t) != 0) = true := by simpa using hc
                have HS : Hid (cf (kid t) = cfK kid 2) := by
                  have := cfK_stay (kid := kid) (i := t + 1) (by rw [HSU.out]; exact hc) (2 - (t + 1))
                  rw [show t + 1 + (2 - (t + 1)) = 2 by omega, HSU.out] at this
                  exact this.symm
                clear HSU HZ
                go_wp2_with fail
                go_ret
                exact ⟨by rw [HCF.out, ← HS.out]; rfl, Below.then HB1.out HW7.out⟩
            · have hge : (2 : Int) ≤ (t : Int) := by omega
              have HS : Hid (cfK kid 2 = 0) := by rw [show 2 = t by omega]; exact HZ.out
              go_wp2_with fail
              go_ret
              exact ⟨by rw [HCF.out, HS.out]; rfl, Below.then HB1.out HW.out⟩
      · have hne : (((n : Nat) : Int) != 2) = true := by simp; omega
        have HCF : Hid (cf (.mk 3 x n kid) = 1) := cf_form (by omega) (by omega)
        go_enter Try.func29, Try.ntmps29
        go_wp2_with fail
        go_ret
        exact ⟨by rw [HCF.out]; rfl, by rw [← HWE.out]; exact HB1.out⟩
    have hb3 : (k == 3) = false := by simpa using hk3
    by_cases hk4 : k = 4
    · subst hk4
      by_cases hnn : n = 2
      · subst hnn
        rcases hp : pnt x 1 with _ | _
        · have hpp := pntF hp
          have HCF : Hid (cf (.mk 4 x 2 kid) = 3) := cf_range (by omega) (by omega) (by omega)
          go_enter Try.func29, Try.ntmps29
          go_wp2_with (go_at_call 32; refine (isPoint_any _ _ _).mono ?_; rintro e w' ⟨rfl, hww⟩; subst hww)
          go_ret
          exact ⟨by rw [HCF.out]; rfl, by rw [← HWE.out]; exact HB1.out⟩
        · have hpp := pntT hp
          have HCF : Hid (cf (.mk 4 x 2 kid) = cfK kid 2) := cf_rest (by omega) (by omega) (by omega)
          clear hpp
          go_enter Try.func29, Try.ntmps29
          go_wp2_with (go_at_call 32; refine (isPoint_any _ _ _).mono ?_; rintro e w' ⟨rfl, hww⟩; subst hww)
          rw [← HWE.out]
          clear HWE x0 x1 x2
          go_loopw [31] (fun i wx => ∃ t : Nat, t ≤ 2 ∧ i = .int .i64 (t : Nat) ∧ Hid (cfK kid t = 0) ∧ Hid (Below W.heap.size W wx)) (fun i _ => 2 - (intOf i).toNat)
          case atStart => exact ⟨0, Nat.zero_le _, rfl, rfl, Below.refl _ _⟩
          case round =>
            obtain ⟨t, ht, rfl, HZ, HW⟩ := hrel
            by_cases htn : t < 2
            · have htI : (t : Int) < (2 : Int) := by omega
              obtain ⟨b, off, HA, k', x', a', n', c', HC⟩ := HK.out t htn
              obtain ⟨⟨q1, q2, q3⟩, _⟩ := HC _ HW.out
              subst HA
              have HR : Hid (∀ w', Below W.heap.size W w' → FRep w' (kid t) (.agg #[.int .i64 k', .int .i64 x', .slice a' n' c'])) := fun w' h => (HC w' h).2
              have HW9 : Hid (∀ o, Below W.heap.size W (wr.alloc o)) := fun o => HW.out.alloc HW.out.size o
              have HSU : Hid (cfK kid (t + 1) = cf (kid t)) := by rw [Hid, cfK_succ, if_neg (by rw [HZ.out]; simp)]
              clear HC
              go_wp2_with fail
              refine (HIH.out t _ _ (HR.out _ (HW9.out _))).mono ?_
              rintro e w7 ⟨rfl, hb7⟩
              have HW7 : Hid (Below W.heap.size W w7) := Below.then (HW9.out _) hb7
              clear hb7 HW HR q1 q2 q3 HW9
              by_cases hc : cf (kid t) = 0
              · have HZ2 : Hid (cfK kid (t + 1) = 0) := by rw [Hid, HSU.out]; exact hc
                rw [hc]
                clear hc HSU HZ
                go_wp2_with fail
                go_roundw
                case rel => exact ⟨t + 1, by omega, by go_num, HZ2.out, HW7.out⟩
                case measure => simp [intOf]; omega
              · have hne : (cf (kid t) != 0) = true := by simpa using hc
                have HS : Hid (cf (kid t) = cfK kid 2) := by
                  have := cfK_stay (kid := kid) (i := t + 1) (by rw [HSU.out]; exact hc) (2 - (t + 1))
                  rw [show t + 1 + (2 - (t + 1)) = 2 by omega, HSU.out] at this
                  exact this.symm
                clear HSU HZ
                go_wp2_with fail
                go_ret
                exact ⟨by rw [HCF.out, ← HS.out]; rfl, Below.then HB1.out HW7.out⟩
            · have hge : (2 : Int) ≤ (t : Int) := by omega
              have HS : Hid (cfK kid 2 = 0) := by rw [show 2 = t by omega]; exact HZ.out
              go_wp2_with fail
              go_ret
              exact ⟨by rw [HCF.out, HS.out]; rfl, Below.then HB1.out HW.out⟩
      · have hne : (((n : Nat) : Int) != 2) = true := by simp; omega
        have HCF : Hid (cf (.mk 4 x n kid) = 1) := cf_form (by omega) (by omega)
        go_enter Try.func29, Try.ntmps29
        go_wp2_with fail
        go_ret
        exact ⟨by rw [HCF.out]; rfl, by rw [← HWE.out]; exact HB1.out⟩
    have hb4 : (k == 4) = false := by simpa using hk4
    by_cases hk5 : k = 5
    · subst hk5
      by_cases hnn : n = 2
      · subst hnn
        rcases hp : pnt x 1 with _ | _
        · have hpp := pntF hp
          have HCF : Hid (cf (.mk 5 x 2 kid) = 3) := cf_range (by omega) (by omega) (by omega)
          go_enter Try.func29, Try.ntmps29
          go_wp2_with (go_at_call 32; refine (isPoint_any _ _ _).mono ?_; rintro e w' ⟨rfl, hww⟩; subst hww)
          go_ret
          exact ⟨by rw [HCF.out]; rfl, by rw [← HWE.out]; exact HB1.out⟩
        · have hpp := pntT hp
          have HCF : Hid (cf (.mk 5 x 2 kid) = cfK kid 2) := cf_rest (by omega) (by omega) (by omega)
          clear hpp
          go_enter Try.func29, Try.ntmps29
          go_wp2_with (go_at_call 32; refine (isPoint_any _ _ _).mono ?_; rintro e w' ⟨rfl, hww⟩; subst hww)
          rw [← HWE.out]
          clear HWE x0 x1 x2
          go_loopw [31] (fun i wx => ∃ t : Nat, t ≤ 2 ∧ i = .int .i64 (t : Nat) ∧ Hid (cfK kid t = 0) ∧ Hid (Below W.heap.size W wx)) (fun i _ => 2 - (intOf i).toNat)
          case atStart => exact ⟨0, Nat.zero_le _, rfl, rfl, Below.refl _ _⟩
          case round =>
            obtain ⟨t, ht, rfl, HZ, HW⟩ := hrel
            by_cases htn : t < 2
            · have htI : (t : Int) < (2 : Int) := by omega
              obtain ⟨b, off, HA, k', x', a', n', c', HC⟩ := HK.out t htn
              obtain ⟨⟨q1, q2, q3⟩, _⟩ := HC _ HW.out
              subst HA
              have HR : Hid (∀ w', Below W.heap.size W w' → FRep w' (kid t) (.agg #[.int .i64 k', .int .i64 x', .slice a' n' c'])) := fun w' h => (HC w' h).2
              have HW9 : Hid (∀ o, Below W.heap.size W (wr.alloc o)) := fun o => HW.out.alloc HW.out.size o
              have HSU : Hid (cfK kid (t + 1) = cf (kid t)) := by rw [Hid, cfK_succ, if_neg (by rw [HZ.out]; simp)]
              clear HC
              go_wp2_with fail
              refine (HIH.out t _ _ (HR.out _ (HW9.out _))).mono ?_
              rintro e w7 ⟨rfl, hb7⟩
              have HW7 : Hid (Below W.heap.size W w7) := Below.then (HW9.out _) hb7
              clear hb7 HW HR q1 q2 q3 HW9
              by_cases hc : cf (kid t) = 0
              · have HZ2 : Hid (cfK kid (t + 1) = 0) := by rw [Hid, HSU.out]; exact hc
                rw [hc]
                clear hc HSU HZ
                go_wp2_with fail
                go_roundw
                case rel => exact ⟨t + 1, by omega, by go_num, HZ2.out, HW7.out⟩
                case measure => simp [intOf]; omega
              · have hne : (cf (kid t) != 0) = true := by simpa using hc
                have HS : Hid (cf (kid t) = cfK kid 2) := by
                  have := cfK_stay (kid := kid) (i := t + 1) (by rw [HSU.out]; exact hc) (2 - (t + 1))
                  rw [show t + 1 + (2 - (t + 1)) = 2 by omega, HSU.out] at this
                  exact this.symm
                clear HSU HZ
                go_wp2_with fail
                go_ret
                exact ⟨by rw [HCF.out, ← HS.out]; rfl, Below.then HB1.out HW7.out⟩
            · have hge : (2 : Int) ≤ (t : Int) := by omega
              have HS : Hid (cfK kid 2 = 0) := by rw [show 2 = t by omega]; exact HZ.out
              go_wp2_with fail
              go_ret
              exact ⟨by rw [HCF.out, HS.out]; rfl, Below.then HB1.out HW.out⟩
      · have hne : (((n : Nat) : Int) != 2) = true := by simp; omega
        have HCF : Hid (cf (.mk 5 x n kid) = 1) := cf_form (by omega) (by omega)
        go_enter Try.func29, Try.ntmps29
        go_wp2_with fail
        go_ret
        exact ⟨by rw [HCF.out]; rfl, by rw [← HWE.out]; exact HB1.out⟩
    have hb5 : (k == 5) = false := by simpa using hk5
    have HCF : Hid (cf (.mk k x n kid) = 7) := cf_kind (by omega)
    go_enter Try.func29, Try.ntmps29
    go_wp2_with fail
    go_ret
    exact ⟨by rw [HCF.out]; rfl, by rw [← HWE.out]; exact HB1.out⟩
set_option maxHeartbeats 4000000 in
theorem fWrong_any (T : FT) : ∀ (v : Value) (w : World), FRep w T v → Calls Try.prog 19 #[v] w fun e w' => e = .returned (.int .i64 (cf T)) ∧ Below w.heap.size w w' := by
  induction T using FT.ind with
  | leaf => exact fun _ _ h => h.elim
  | mk k x n kid ih =>
    intro v w hf
    obtain ⟨a, cap, rfl, hn, hk⟩ := hf
    have hn' : n ≤ 9223372036854775807 := by unfold maxLen at hn; omega
    have HIH : Hid (∀ i (v : Value) (w : World), FRep w (kid i) v → Calls Try.prog 19 #[v] w fun e w' => e = .returned (.int .i64 (cf (kid i))) ∧ Below w.heap.size w w') := ih
    obtain ⟨W, hW⟩ : ∃ W, W = w.alloc (.cells #[.int .i64 k, .int .i64 x, .slice a n cap] 27) := ⟨_, rfl⟩
    have HB1 : Hid (Below w.heap.size w W) := by rw [hW]; exact (Below.refl _ _).alloc (Nat.le_refl _) _
    have HX : Hid (∀ w', Below W.heap.size W w' → (w'.cell? ⟨w.heap.size, 0, none⟩ = some (.int .i64 k) ∧ w'.cell? ⟨w.heap.size, 1, none⟩ = some (.int .i64 x)) ∧ w'.cell? ⟨w.heap.size, 2, none⟩ = some (.slice a n cap)) := fun w' h =>
      ⟨⟨cell_step h (by rw [hW]; simp), cell_step h (by rw [hW]; simp)⟩, cell_step h (by rw [hW]; simp)⟩
    have HWE : Hid (W = w.alloc (.cells #[.int .i64 k, .int .i64 x, .slice a n cap] 27)) := hW
    have HK : Hid (∀ i, i < n → ∃ b off, a = some ⟨b, off, none⟩ ∧ ∃ (k' x' : Int) (a' : Option Addr) (n' c' : Nat), ∀ w', Below W.heap.size W w' →
        (w'.cell? ⟨b, off + i * 3, none⟩ = some (.int .i64 k') ∧ w'.cell? ⟨b, off + i * 3 + 1, none⟩ = some (.int .i64 x') ∧ w'.cell? ⟨b, off + i * 3 + 2, none⟩ = some (.slice a' n' c')) ∧ FRep w' (kid i) (.agg #[.int .i64 k', .int .i64 x', .slice a' n' c'])) := fun i hi => by
      obtain ⟨b, off, e, k', x', a', n', c', ⟨h1, h2, h3⟩, h4⟩ := hk i hi
      exact ⟨b, off, e, k', x', a', n', c', fun w' hb0 => by
        have hb := Below.then HB1.out hb0
        exact ⟨⟨cell_step hb h1, cell_step hb h2, cell_step hb h3⟩, FRep.step hb _ _ h4⟩⟩
    have x0 : W.cell? ⟨w.heap.size, 0, none⟩ = some (.int .i64 k) := (HX.out W (Below.refl _ _)).1.1
    have x1 : W.cell? ⟨w.heap.size, 1, none⟩ = some (.int .i64 x) := (HX.out W (Below.refl _ _)).1.2
    have x2 : W.cell? ⟨w.heap.size, 2, none⟩ = some (.slice a n cap) := (HX.out W (Below.refl _ _)).2
    clear hk ih hn hW
    by_cases h1 : k < 1
    · have HCF : Hid (cf (.mk k x n kid) = 7) := cf_kind (by omega)
      go_enter Try.func19, Try.ntmps19
      go_wp2_with fail
      go_ret
      exact ⟨by rw [HCF.out]; rfl, by rw [← HWE.out]; exact HB1.out⟩
    have h1' : 1 ≤ k := by omega
    by_cases h5 : 5 < k
    · have HCF : Hid (cf (.mk k x n kid) = 7) := cf_kind (by omega)
      go_enter Try.func19, Try.ntmps19
      go_wp2_with fail
      go_ret
      exact ⟨by rw [HCF.out]; rfl, by rw [← HWE.out]; exact HB1.out⟩
    have h5' : k ≤ 5 := by omega
    by_cases h3 : k < 3
    · by_cases hnn : n = 0
      · subst hnn
        by_cases hx0 : x < 0
        · have HCF : Hid (cf (.mk k x 0 kid) = 3) := cf_range (by omega) (by omega) (by omega)
          go_enter Try.func19, Try.ntmps19
          go_wp2_with fail
          go_ret
          exact ⟨by rw [HCF.out]; rfl, by rw [← HWE.out]; exact HB1.out⟩
        have hx0' : 0 ≤ x := by omega
        by_cases hx2 : 2 < x
        · have HCF : Hid (cf (.mk k x 0 kid) = 3) := cf_range (by omega) (by omega) (by omega)
          go_enter Try.func19, Try.ntmps19
          go_wp2_with fail
          go_ret
          exact ⟨by rw [HCF.out]; rfl, by rw [← HWE.out]; exact HB1.out⟩
        have hx2' : x ≤ 2 := by omega
        by_cases hk2 : k = 2
        · subst hk2
          have HCF : Hid (cf (.mk 2 x 0 kid) = cfK kid 0) := cf_rest (by omega) (by omega) (by omega)
          go_enter Try.func19, Try.ntmps19
          go_wp2_with fail
          rw [← HWE.out]
          clear HWE x0 x1 x2
          go_loopw [3] (fun i wx => i = .int .i64 0 ∧ Hid (Below W.heap.size W wx)) (fun _ _ => 0)
          case atStart => exact ⟨rfl, Below.refl _ _⟩
          case round =>
            obtain ⟨rfl, HW⟩ := hrel
            have y2 := (HX.out _ HW.out).2
            go_wp2_with fail
            go_ret
            exact ⟨by rw [HCF.out]; rfl, Below.then HB1.out HW.out⟩
        · have hk2' : (k != 2) = true := by simpa using hk2
          by_cases hx : x = 0
          · subst hx
            have HCF : Hid (cf (.mk k 0 0 kid) = cfK kid 0) := cf_rest (by omega) (by omega) (by omega)
            go_enter Try.func19, Try.ntmps19
            go_wp2_with fail
            rw [← HWE.out]
            clear HWE x0 x1 x2
            go_loopw [3] (fun i wx => i = .int .i64 0 ∧ Hid (Below W.heap.size W wx)) (fun _ _ => 0)
            case atStart => exact ⟨rfl, Below.refl _ _⟩
            case round =>
              obtain ⟨rfl, HW⟩ := hrel
              have y2 := (HX.out _ HW.out).2
              go_wp2_with fail
              go_ret
              exact ⟨by rw [HCF.out]; rfl, Below.then HB1.out HW.out⟩
          · have hx' : (x != 0) = true := by simpa using hx
            have HCF : Hid (cf (.mk k x 0 kid) = 3) := cf_range (by omega) (by omega) (by omega)
            go_enter Try.func19, Try.ntmps19
            go_wp2_with fail
            go_ret
            exact ⟨by rw [HCF.out]; rfl, by rw [← HWE.out]; exact HB1.out⟩
      · have hne : (((n : Nat) : Int) != 0) = true := by simp; omega
        have HCF : Hid (cf (.mk k x n kid) = 1) := cf_form (by omega) (by omega)
        go_enter Try.func19, Try.ntmps19
        go_wp2_with fail
        go_ret
        exact ⟨by rw [HCF.out]; rfl, by rw [← HWE.out]; exact HB1.out⟩
    · have h3' : 3 ≤ k := by omega
      by_cases hnn : n = 2
      · subst hnn
        by_cases hx0 : x < 0
        · have HCF : Hid (cf (.mk k x 2 kid) = 3) := cf_range (by omega) (by omega) (by omega)
          go_enter Try.func19, Try.ntmps19
          go_wp2_with fail
          go_ret
          exact ⟨by rw [HCF.out]; rfl, by rw [← HWE.out]; exact HB1.out⟩
        have hx0' : 0 ≤ x := by omega
        by_cases hx2 : 2 < x
        · have HCF : Hid (cf (.mk k x 2 kid) = 3) := cf_range (by omega) (by omega) (by omega)
          go_enter Try.func19, Try.ntmps19
          go_wp2_with fail
          go_ret
          exact ⟨by rw [HCF.out]; rfl, by rw [← HWE.out]; exact HB1.out⟩
        have hx2' : x ≤ 2 := by omega
        have hk2' : (k != 2) = true := by simp; omega
        by_cases hx : x = 0
        · subst hx
          have HCF : Hid (cf (.mk k 0 2 kid) = cfK kid 2) := cf_rest (by omega) (by omega) (by omega)
          go_enter Try.func19, Try.ntmps19
          go_wp2_with fail
          rw [← HWE.out]
          clear HWE x0 x1 x2
          go_loopw [3] (fun i wx => ∃ t : Nat, t ≤ 2 ∧ i = .int .i64 (t : Nat) ∧ Hid (cfK kid t = 0) ∧ Hid (Below W.heap.size W wx)) (fun i _ => 2 - (intOf i).toNat)
          case atStart => exact ⟨0, Nat.zero_le _, rfl, rfl, Below.refl _ _⟩
          case round =>
            obtain ⟨t, ht, rfl, HZ, HW⟩ := hrel
            by_cases htn : t < 2
            · have htI : (t : Int) < (2 : Int) := by omega
              obtain ⟨b, off, HA, k', x', a', n', c', HC⟩ := HK.out t htn
              obtain ⟨⟨q1, q2, q3⟩, _⟩ := HC _ HW.out
              subst HA
              have y2 := (HX.out _ HW.out).2
              have HR : Hid (∀ w', Below W.heap.size W w' → FRep w' (kid t) (.agg #[.int .i64 k', .int .i64 x', .slice a' n' c'])) := fun w' h => (HC w' h).2
              have HSU : Hid (cfK kid (t + 1) = cf (kid t)) := by rw [Hid, cfK_succ, if_neg (by rw [HZ.out]; simp)]
              clear HC
              go_wp2_with fail
              refine (HIH.out t _ _ (HR.out _ HW.out)).mono ?_
              rintro e w7 ⟨rfl, hb7⟩
              have HW7 : Hid (Below W.heap.size W w7) := Below.then HW.out hb7
              clear hb7 HW HR q1 q2 q3 y2
              by_cases hc : cf (kid t) = 0
              · have HZ2 : Hid (cfK kid (t + 1) = 0) := by rw [Hid, HSU.out]; exact hc
                rw [hc]
                clear hc HSU HZ
                go_wp2_with fail
                go_roundw
                case rel => exact ⟨t + 1, by omega, by go_num, HZ2.out, HW7.out⟩
                case measure => simp [intOf]; omega
              · have hne : (cf (kid t) != 0) = true := by simpa using hc
                have HS : Hid (cf (kid t) = cfK kid 2) := by
                  have := cfK_stay (kid := kid) (i := t + 1) (by rw [HSU.out]; exact hc) (2 - (t + 1))
                  rw [show t + 1 + (2 - (t + 1)) = 2 by omega, HSU.out] at this
                  exact this.symm
                clear HSU HZ
                go_wp2_with fail
                go_ret
                exact ⟨by rw [HCF.out, ← HS.out]; rfl, Below.then HB1.out HW7.out⟩
            · have hge : (2 : Int) ≤ (t : Int) := by omega
              have HS : Hid (cfK kid 2 = 0) := by rw [show 2 = t by omega]; exact HZ.out
              have y2 := (HX.out _ HW.out).2
              go_wp2_with fail
              go_ret
              exact ⟨by rw [HCF.out, HS.out]; rfl, Below.then HB1.out HW.out⟩
        · have hx' : (x != 0) = true := by simpa using hx
          have HCF : Hid (cf (.mk k x 2 kid) = 3) := cf_range (by omega) (by omega) (by omega)
          go_enter Try.func19, Try.ntmps19
          go_wp2_with fail
          go_ret
          exact ⟨by rw [HCF.out]; rfl, by rw [← HWE.out]; exact HB1.out⟩
      · have hne : (((n : Nat) : Int) != 2) = true := by simp; omega
        have HCF : Hid (cf (.mk k x n kid) = 1) := cf_form (by omega) (by omega)
        go_enter Try.func19, Try.ntmps19
        go_wp2_with fail
        go_ret
        exact ⟨by rw [HCF.out]; rfl, by rw [← HWE.out]; exact HB1.out⟩
set_option maxHeartbeats 4000000 in
theorem fCount_any (T : FT) : ∀ (m : Int) (v : Value) (w : World), 0 ≤ m → m ≤ 30 → FRep w T v → Calls Try.prog 18 #[v, .int .i64 m] w fun e w' => e = .returned (.int .i64 (fc T m)) ∧ Below w.heap.size w w' := by
  induction T using FT.ind with
  | leaf => exact fun _ _ _ _ _ h => h.elim
  | mk k x n kid ih =>
    intro m v w h0 h30 hf
    obtain ⟨a, cap, rfl, hn, hk⟩ := hf
    have hn' : n ≤ 9223372036854775807 := by unfold maxLen at hn; omega
    have HIH : Hid (∀ i (m : Int) (v : Value) (w : World), 0 ≤ m → m ≤ 30 → FRep w (kid i) v → Calls Try.prog 18 #[v, .int .i64 m] w fun e w' => e = .returned (.int .i64 (fc (kid i) m)) ∧ Below w.heap.size w w') := ih
    obtain ⟨W, hW⟩ : ∃ W, W = w.alloc (.cells #[.int .i64 k, .int .i64 x, .slice a n cap] 27) := ⟨_, rfl⟩
    have HB1 : Hid (Below w.heap.size w W) := by rw [hW]; exact (Below.refl _ _).alloc (Nat.le_refl _) _
    have HX : Hid (∀ w', Below W.heap.size W w' → (w'.cell? ⟨w.heap.size, 0, none⟩ = some (.int .i64 k) ∧ w'.cell? ⟨w.heap.size, 1, none⟩ = some (.int .i64 x)) ∧ w'.cell? ⟨w.heap.size, 2, none⟩ = some (.slice a n cap)) := fun w' h =>
      ⟨⟨cell_step h (by rw [hW]; simp), cell_step h (by rw [hW]; simp)⟩, cell_step h (by rw [hW]; simp)⟩
    have HWE : Hid (W = w.alloc (.cells #[.int .i64 k, .int .i64 x, .slice a n cap] 27)) := hW
    have HK : Hid (∀ i, i < n → ∃ b off, a = some ⟨b, off, none⟩ ∧ ∃ (k' x' : Int) (a' : Option Addr) (n' c' : Nat), ∀ w', Below W.heap.size W w' →
        (w'.cell? ⟨b, off + i * 3, none⟩ = some (.int .i64 k') ∧ w'.cell? ⟨b, off + i * 3 + 1, none⟩ = some (.int .i64 x') ∧ w'.cell? ⟨b, off + i * 3 + 2, none⟩ = some (.slice a' n' c')) ∧ FRep w' (kid i) (.agg #[.int .i64 k', .int .i64 x', .slice a' n' c'])) := fun i hi => by
      obtain ⟨b, off, e, k', x', a', n', c', ⟨h1, h2, h3⟩, h4⟩ := hk i hi
      exact ⟨b, off, e, k', x', a', n', c', fun w' hb0 => by
        have hb := Below.then HB1.out hb0
        exact ⟨⟨cell_step hb h1, cell_step hb h2, cell_step hb h3⟩, FRep.step hb _ _ h4⟩⟩
    have HBD : Hid (∀ i, 1 ≤ fcK kid m i ∧ fcK kid m i ≤ m + 1) := fun i => fcK_bound h0 i
    have HE0 : Hid ((1 : Int) = fcK kid m 0) := rfl
    have HFE : Hid (fc (.mk k x n kid) m = if m < fcK kid m n then m + 1 else fcK kid m n) := rfl
    clear hk ih hn hW
    go_enter Try.func18, Try.ntmps18
    go_wp2_with fail
    rw [← HWE.out]
    clear HWE
    go_loopw [5, 6] (fun z i wx => ∃ t : Nat, t ≤ n ∧ i = .int .i64 (t : Nat) ∧ z = .int .i64 (fcK kid m t) ∧ Hid (Below W.heap.size W wx)) (fun _ i _ => n - (intOf i).toNat)
    case atStart => exact ⟨0, Nat.zero_le _, rfl, rfl, Below.refl _ _⟩
    case round =>
      obtain ⟨t, ht, rfl, rfl, HW⟩ := hrel
      have hbd := HBD.out t
      have y2 := (HX.out _ HW.out).2
      by_cases htn : t < n
      · have htI : (t : Int) < (n : Int) := by omega
        by_cases hle : fcK kid m t ≤ m
        · obtain ⟨b, off, HA, k', x', a', n', c', HC⟩ := HK.out t htn
          obtain ⟨⟨q1, q2, q3⟩, _⟩ := HC _ HW.out
          subst HA
          have HR : Hid (FRep wr (kid t) (.agg #[.int .i64 k', .int .i64 x', .slice a' n' c'])) := (HC _ HW.out).2
          have HSU : Hid (fcK kid m t + fc (kid t) (m - fcK kid m t) = fcK kid m (t + 1)) := by rw [Hid, fcK_succ, if_pos hle]
          have hbd2 := HBD.out (t + 1)
          clear HC
          go_wp2_with fail
          refine (HIH.out t _ _ _ (by omega) (by omega) HR.out).mono ?_
          rintro e w7 ⟨rfl, hb7⟩
          have HW7 : Hid (Below W.heap.size W w7) := Below.then HW.out hb7
          have hs1 : -9223372036854775808 ≤ fcK kid m t + fc (kid t) (m - fcK kid m t) := by rw [HSU.out]; omega
          have hs2 : fcK kid m t + fc (kid t) (m - fcK kid m t) ≤ 9223372036854775807 := by rw [HSU.out]; omega
          clear hb7 HW HR q1 q2 q3 y2
          go_wp2_with fail
          go_roundw
          case rel => exact ⟨t + 1, by omega, by go_num, by rw [← HSU.out], HW7.out⟩
          case measure => simp [intOf]; omega
        · have hgt : m < fcK kid m t := by omega
          have HS : Hid (fcK kid m n = fcK kid m t) := by
            have := fcK_stay hgt (n - t)
            rw [show t + (n - t) = n by omega] at this
            exact this
          have HF : Hid (fc (.mk k x n kid) m = m + 1) := by rw [Hid, HFE.out, HS.out, if_pos hgt]
          clear HFE
          go_wp2_with fail
          go_ret
          exact ⟨by rw [HF.out]; rfl, Below.then HB1.out HW.out⟩
      · obtain rfl : t = n := by omega
        by_cases hle : fcK kid m t ≤ m
        · have HF : Hid (fc (.mk k x t kid) m = fcK kid m t) := by rw [Hid, HFE.out, if_neg (by omega)]
          clear HFE
          go_wp2_with fail
          go_ret
          exact ⟨by rw [HF.out]; rfl, Below.then HB1.out HW.out⟩
        · have hgt : m < fcK kid m t := by omega
          have HF : Hid (fc (.mk k x t kid) m = m + 1) := by rw [Hid, HFE.out, if_pos hgt]
          clear HFE
          go_wp2_with fail
          go_ret
          exact ⟨by rw [HF.out]; rfl, Below.then HB1.out HW.out⟩
end Go.Proofs.Ytddpeldchffidaa
