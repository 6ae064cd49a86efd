/-
  What the reference's HasVar answers. Conditions: a value reads as a formula.
-/
import Derived.Test.YtddpeldchffidaaFmR
import Derived.Test.YtddpeldchffidaaVaM
namespace Go.Proofs.Ytddpeldchffidaa
set_option maxRecDepth 100000
open Go.RowKit

set_option maxHeartbeats 4000000 in
theorem hasVar_any (T : FT) : ∀ (y : Int) (v : Value) (w : World), FRep w T v → Calls Try.prog 25 #[v, .int .i64 y] w fun e w' => (∃ b, e = .returned (.bool b) ∧ (b = true ↔ HasV T y)) ∧ Below w.heap.size w w' := by
  induction T using FT.ind with
  | leaf => exact fun _ _ _ h => h.elim
  | mk k x n kid ih =>
    intro y v w hf
    obtain ⟨a, cap, rfl, hn, hk⟩ := hf
    have hn' : n ≤ 9223372036854775807 := by unfold maxLen at hn; omega
    have HIH : Hid (∀ i (y : Int) (v : Value) (w : World), FRep w (kid i) v → Calls Try.prog 25 #[v, .int .i64 y] w fun e w' => (∃ b, e = .returned (.bool b) ∧ (b = true ↔ HasV (kid i) y)) ∧ Below w.heap.size w w') := ih
    obtain ⟨W, hW⟩ : ∃ W, W = w.alloc (.cells #[.int .i64 k, .int .i64 x, .slice a n cap] 27) := ⟨_, rfl⟩
    have HB1 : Hid (Below w.heap.size w W) := by rw [hW]; exact (Below.refl _ _).alloc (Nat.le_refl _) _
    have HX : Hid (∀ w', Below W.heap.size W w' → (w'.cell? ⟨w.heap.size, 0, none⟩ = some (.int .i64 k) ∧ w'.cell? ⟨w.heap.size, 1, none⟩ = some (.int .i64 x)) ∧ w'.cell? ⟨w.heap.size, 2, none⟩ = some (.slice a n cap)) := fun w' h =>
      ⟨⟨cell_step h (by rw [hW]; simp), cell_step h (by rw [hW]; simp)⟩, cell_step h (by rw [hW]; simp)⟩
    have HWE : Hid (W = w.alloc (.cells #[.int .i64 k, .int .i64 x, .slice a n cap] 27)) := hW
    have HK : Hid (∀ i, i < n → ∃ b off, a = some ⟨b, off, none⟩ ∧ ∃ (k' x' : Int) (a' : Option Addr) (n' c' : Nat), ∀ w', Below W.heap.size W w' →
        (w'.cell? ⟨b, off + i * 3, none⟩ = some (.int .i64 k') ∧ w'.cell? ⟨b, off + i * 3 + 1, none⟩ = some (.int .i64 x') ∧ w'.cell? ⟨b, off + i * 3 + 2, none⟩ = some (.slice a' n' c')) ∧ FRep w' (kid i) (.agg #[.int .i64 k', .int .i64 x', .slice a' n' c'])) := fun i hi => by
      obtain ⟨b, off, e, k', x', a', n', c', ⟨h1, h2, h3⟩, h4⟩ := hk i hi
      exact ⟨b, off, e, k', x', a', n', c', fun w' hb0 => by
        have hb := Below.then HB1.out hb0
        exact ⟨⟨cell_step hb h1, cell_step hb h2, cell_step hb h3⟩, FRep.step hb _ _ h4⟩⟩
    clear hk ih hn hW
    by_cases hkx : k = 2 ∧ x = y
    · obtain ⟨rfl, rfl⟩ := hkx
      go_enter Try.func25, Try.ntmps25
      go_wp2_with fail
      go_ret
      exact ⟨⟨true, rfl, fun _ => .inl ⟨rfl, rfl⟩, fun _ => rfl⟩, by rw [← HWE.out]; exact HB1.out⟩
    · have HNO : Hid (¬ (k = 2 ∧ x = y)) := hkx
      have hor : (k == 2) = false ∨ ((k == 2) = true ∧ (x == y) = false) := by
        by_cases h2 : k = 2
        · exact .inr ⟨by simpa using h2, by simpa using fun h => hkx ⟨h2, h⟩⟩
        · exact .inl (by simpa using h2)
      clear hkx
      rcases hor with hk2 | ⟨hk2, hx2⟩
      all_goals
        go_enter Try.func25, Try.ntmps25
        go_wp2_with fail
        rw [← HWE.out]
        clear HWE
        go_loopw [5] (fun i wx => ∃ t : Nat, t ≤ n ∧ i = .int .i64 (t : Nat) ∧ Hid (∀ i, i < t → ¬ HasV (kid i) y) ∧ Hid (Below W.heap.size W wx)) (fun i _ => n - (intOf i).toNat)
        case atStart => exact ⟨0, Nat.zero_le _, rfl, fun _ h => absurd h (Nat.not_lt_zero _), Below.refl _ _⟩
        case round =>
          obtain ⟨t, ht, rfl, HU, HW⟩ := hrel
          have y2 := (HX.out _ HW.out).2
          by_cases htn : t < n
          · have htI : (t : Int) < (n : Int) := by omega
            obtain ⟨b, off, HA, k', x', a', n', c', HC⟩ := HK.out t htn
            obtain ⟨⟨q1, q2, q3⟩, _⟩ := HC _ HW.out
            subst HA
            have HR : Hid (FRep wr (kid t) (.agg #[.int .i64 k', .int .i64 x', .slice a' n' c'])) := (HC _ HW.out).2
            clear HC
            go_wp2_with fail
            refine (HIH.out t _ _ _ HR.out).mono ?_
            rintro e w7 ⟨⟨r, rfl, hr⟩, hb7⟩
            have HW7 : Hid (Below W.heap.size W w7) := Below.then HW.out hb7
            clear hb7 HW HR q1 q2 q3 y2
            cases r
            · have HU2 : Hid (∀ i, i < t + 1 → ¬ HasV (kid i) y) := fun i hi h => by
                by_cases e : i = t
                · subst e; have := hr.2 h; cases this
                · exact HU.out i (by omega) h
              clear hr HU
              go_wp2_with fail
              go_roundw
              case rel => exact ⟨t + 1, by omega, by go_num, HU2, HW7⟩
              case measure => simp [intOf]; omega
            · have HY : Hid (HasV (.mk k x n kid) y) := .inr ⟨t, htn, hr.1 rfl⟩
              clear hr HU
              go_wp2_with fail
              go_ret
              exact ⟨⟨true, rfl, fun _ => HY.out, fun _ => rfl⟩, Below.then HB1.out HW7.out⟩
          · obtain rfl : t = n := by omega
            have HY : Hid (¬ HasV (.mk k x t kid) y) := fun h => h.elim HNO.out fun ⟨i, hi, h⟩ => HU.out i hi h
            clear HU
            go_wp2_with fail
            go_ret
            exact ⟨⟨false, rfl, fun h => (by cases h), fun h => absurd h HY.out⟩, Below.then HB1.out HW.out⟩
end Go.Proofs.Ytddpeldchffidaa
