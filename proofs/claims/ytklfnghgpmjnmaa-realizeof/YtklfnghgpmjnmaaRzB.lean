/-
  What hasselaw.realizeBegun answers: true. No condition.
-/
import Derived.Test.YtklfnghgpmjnmaaRzC
namespace Go.Proofs.Ytklfnghgpmjnmaa
open Go.RowKit

theorem two_dim {g : Nat → Nat} (hg : ∀ k, k < 2 → g k = 0) {k : Nat} (h : Dim g 2 k) : k = 2 := by
  have hl : ∀ p q, ltU g 2 p q = false := fun p q => by
    unfold ltU
    by_cases e : q < 2
    · rw [hg q e]; simp
    · simp [e]
  have h2 : RzS (· < 2) (ltU g 2) 2 := by
    refine ⟨fun i p => if i = 0 then p else 1 - p, fun i hi => ⟨fun p q hp hq e => ?_, fun p q _ _ e => ?_⟩, fun p q hp hq hne _ => ?_⟩
    · have hp : p < 2 := hp
      have hq : q < 2 := hq
      simp only at e
      split at e <;> omega
    · rw [hl] at e; cases e
    · have hp : p < 2 := hp
      have hq : q < 2 := hq
      by_cases e : q < p
      · exact ⟨0, by decide, e⟩
      · exact ⟨1, by decide, by show 1 - q < 1 - p; omega⟩
  have h1 : ¬ RzS (· < 2) (ltU g 2) 1 := by
    rintro ⟨R, _, h⟩
    obtain ⟨i, hi, e1⟩ := h 0 1 (by decide : (0:Nat) < 2) (by decide : (1:Nat) < 2) (by decide) (hl _ _)
    obtain ⟨j, hj, e2⟩ := h 1 0 (by decide : (1:Nat) < 2) (by decide : (0:Nat) < 2) (by decide) (hl _ _)
    obtain rfl : i = 0 := by omega
    obtain rfl : j = 0 := by omega
    omega
  have := h.2.2 2 (by decide) h2
  have h0 := h.1
  by_cases e : k = 1
  · subst e; exact absurd h.2.1 h1
  · omega
def fB0 (_ : Nat) : Int := 0
theorem fB0_ck : SCk 2 2 fB0 0 := by
  refine ⟨0, .inr ⟨2, rfl, by decide, .inr ⟨rfl, .inr ⟨?_, .inr ⟨rfl, ?_⟩⟩⟩⟩, by decide⟩
  · intro k hk; unfold fB0; have := pw_pos 2; refine ⟨?_, ?_⟩ <;> omega
  · intro u _; exact ⟨by simp [fB0, nat], fun p _ h => by simp [fB0, nat] at h⟩
set_option maxRecDepth 100000 in
set_option maxHeartbeats 4000000 in
theorem realizeBegun_any (w : World) : Calls Try.prog 10 #[] w fun e w' => e = .returned (.bool true) ∧ Below w.heap.size w w' := by
  have HB0 : Hid (Below w.heap.size w (w.alloc (.cells #[.int .i64 0, .int .i64 0] 3))) := (Below.refl _ _).alloc (Nat.le_refl _) _
  have HR0 : Hid (Row (w.alloc (.cells #[.int .i64 0, .int .i64 0] 3)) (some ⟨w.heap.size, 0, none⟩) 2 fB0) := fun k hk => by
    have hj2 : k = 0 ∨ k = 1 := by omega
    rcases hj2 with rfl | rfl
    · exact ⟨w.heap.size, 0, rfl, by simp [fB0]⟩
    · exact ⟨w.heap.size, 0, rfl, by simp [fB0]⟩
  go_enter Try.func10, Try.ntmps10
  go_wp2_with fail
  refine (dim_any 2 _ 2 2 fB0 _ (by unfold maxLen; omega) HR0.out).mono ?_
  rintro e w1 ⟨⟨c, hck, hv⟩, hb⟩
  obtain rfl : c = 0 := hck.one fB0_ck
  have HB1 : Hid (Below w.heap.size w w1) := Below.then HB0.out hb
  rcases hv with ⟨h, _⟩ | ⟨_, l, a, cap, T, hd, _, rfl, _⟩
  · exact absurd rfl h
  rw [two_dim (fun _ _ => rfl) hd]
  clear hck hb hd HR0 HB0
  go_wp2_with fail
  refine (rOf_any 1 none 0 0 (fun _ => (none, 0, 0)) (fun _ _ => 0) _ (by unfold maxLen; omega) (fun k hk => absurd hk (Nat.not_lt_zero _))).mono ?_
  rintro e w2 ⟨⟨c, x, rfl, hck, hx⟩, hb⟩
  obtain rfl : c = 2 := by
    rcases hck with ⟨h, _⟩ | ⟨q, _, _, h, _⟩
    · exact h
    · exact absurd h (Nat.not_lt_zero _)
  rcases hx with ⟨_, rfl⟩ | ⟨h, _⟩
  · have HB2 : Hid (Below w.heap.size w w2) := Below.then HB1.out hb
    have HB3 : Hid (∀ o, Below w.heap.size w (w2.alloc o)) := fun o => HB2.out.alloc HB2.out.size _
    clear hb hck HB1 HB2
    unfold noOrder
    go_wp2_with fail
    go_ret
    exact ⟨rfl, HB3.out _⟩
  · exact absurd h (by decide)
end Go.Proofs.Ytklfnghgpmjnmaa
