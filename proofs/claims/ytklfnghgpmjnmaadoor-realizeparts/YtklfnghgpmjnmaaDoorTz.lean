/-
  What hasselaw.realizeBegun answers: true. No condition.
  What sets.Size and the reference's Size answer: how many points a set has. Conditions: a set of at most ten points.
  What sets.First answers: the least point of a set that has one. Conditions: a set below 1024; the library's table lies in its variable.
-/
import Derived.Test.YtklfnghgpmjnmaaDoorRzC
import Derived.Test.YtklfnghgpmjnmaaDoorBuild
import Derived.Test.YtklfnghgpmjnmaaDoorMay
import Derived.Shelf.Spec.TrailingZeros
namespace Go.Proofs.YtklfnghgpmjnmaaDoor
open Go.RowKit

theorem two_dim {g : Nat → Nat} (hg : ∀ k, k < 2 → g k = 0) {k : Nat} (h : Dim g 2 k) : k = 2 := by
  have hl : ∀ p q, ltU g 2 p q = false := fun p q => by
    unfold ltU
    by_cases e : q < 2
    · rw [hg q e]; simp
    · simp [e]
  have h2 : RzS (· < 2) (ltU g 2) 2 := by
    refine ⟨fun i p => if i = 0 then p else 1 - p, fun i hi => ⟨fun p q hp hq e => ?_, fun p q _ _ e => ?_⟩, fun p q hp hq hne _ => ?_⟩
    · have hp : p < 2 := hp
      have hq : q < 2 := hq
      simp only at e
      split at e <;> omega
    · rw [hl] at e; cases e
    · have hp : p < 2 := hp
      have hq : q < 2 := hq
      by_cases e : q < p
      · exact ⟨0, by decide, e⟩
      · exact ⟨1, by decide, by show 1 - q < 1 - p; omega⟩
  have h1 : ¬ RzS (· < 2) (ltU g 2) 1 := by
    rintro ⟨R, _, h⟩
    obtain ⟨i, hi, e1⟩ := h 0 1 (by decide : (0:Nat) < 2) (by decide : (1:Nat) < 2) (by decide) (hl _ _)
    obtain ⟨j, hj, e2⟩ := h 1 0 (by decide : (1:Nat) < 2) (by decide : (0:Nat) < 2) (by decide) (hl _ _)
    obtain rfl : i = 0 := by omega
    obtain rfl : j = 0 := by omega
    omega
  have := h.2.2 2 (by decide) h2
  have h0 := h.1
  by_cases e : k = 1
  · subst e; exact absurd h.2.1 h1
  · omega
def fB0 (_ : Nat) : Int := 0
theorem fB0_ck : SCk 2 2 fB0 0 := by
  refine ⟨0, .inr ⟨2, rfl, by decide, .inr ⟨rfl, .inr ⟨?_, .inr ⟨rfl, ?_⟩⟩⟩⟩, by decide⟩
  · intro k hk; unfold fB0; have := pw_pos 2; refine ⟨?_, ?_⟩ <;> omega
  · intro u _; exact ⟨by simp [fB0, nat], fun p _ h => by simp [fB0, nat] at h⟩
set_option maxRecDepth 100000 in
set_option maxHeartbeats 4000000 in
theorem realizeBegun_any (w : World) : Calls Tryd.prog 4 #[] w fun e w' => e = .returned (.bool true) ∧ Below w.heap.size w w' := by
  have HB0 : Hid (Below w.heap.size w (w.alloc (.cells #[.int .i64 0, .int .i64 0] 3))) := (Below.refl _ _).alloc (Nat.le_refl _) _
  have HR0 : Hid (Row (w.alloc (.cells #[.int .i64 0, .int .i64 0] 3)) (some ⟨w.heap.size, 0, none⟩) 2 fB0) := fun k hk => by
    have hj2 : k = 0 ∨ k = 1 := by omega
    rcases hj2 with rfl | rfl
    · exact ⟨w.heap.size, 0, rfl, by simp [fB0]⟩
    · exact ⟨w.heap.size, 0, rfl, by simp [fB0]⟩
  go_enter Tryd.func4, Tryd.ntmps4
  go_wp2_with fail
  refine (dim_any 2 _ 2 2 fB0 _ (by unfold maxLen; omega) HR0.out).mono ?_
  rintro e w1 ⟨⟨c, hck, hv⟩, hb⟩
  obtain rfl : c = 0 := hck.one fB0_ck
  have HB1 : Hid (Below w.heap.size w w1) := Below.then HB0.out hb
  rcases hv with ⟨h, _⟩ | ⟨_, l, a, cap, T, hd, _, rfl, _⟩
  · exact absurd rfl h
  rw [two_dim (fun _ _ => rfl) hd]
  clear hck hb hd HR0 HB0
  go_wp2_with fail
  refine (rOf_any 1 none 0 0 (fun _ => (none, 0, 0)) (fun _ _ => 0) _ (by unfold maxLen; omega) (fun k hk => absurd hk (Nat.not_lt_zero _))).mono ?_
  rintro e w2 ⟨⟨c, x, rfl, hck, hx⟩, hb⟩
  obtain rfl : c = 2 := by
    rcases hck with ⟨h, _⟩ | ⟨q, _, _, h, _⟩
    · exact h
    · exact absurd h (Nat.not_lt_zero _)
  rcases hx with ⟨_, rfl⟩ | ⟨h, _⟩
  · have HB2 : Hid (Below w.heap.size w w2) := Below.then HB1.out hb
    have HB3 : Hid (∀ o, Below w.heap.size w (w2.alloc o)) := fun o => HB2.out.alloc HB2.out.size _
    clear hb hck HB1 HB2
    unfold noOrder
    go_wp2_with fail
    go_ret
    exact ⟨rfl, HB3.out _⟩
  · exact absurd h (by decide)
end Go.Proofs.YtklfnghgpmjnmaaDoor
namespace Go.Proofs.YtklfnghgpmjnmaaDoor
open Go.RowKit

/-- How many of the first k points are in s. -/
def pcn (s : Nat) : Nat → Nat
  | 0 => 0
  | k + 1 => if s.testBit k = true then pcn s k + 1 else pcn s k
/-- How many points a set has. -/
def pc (s : Nat) : Nat := pcn s 10

theorem ones_any (s : Nat) (w : World) (hs : s < 1024) :
    Calls Tryd.prog 43 #[.int .u64 s] w fun e w' => e = .returned (.int .i64 (pc s : Nat)) ∧ w = w' := by
  go_enter Tryd.func43, Tryd.ntmps43
  go_wp2
  go_ret
  refine ⟨ret_int ?_, rfl⟩
  clear w
  revert s
  decide +kernel
theorem onesCount_any (s : Nat) (w : World) (hs : s < 1024) :
    Calls Tryd.prog 35 #[.int .u64 s] w fun e w' => e = .returned (.int .i64 (pc s : Nat)) ∧ w = w' := by
  go_enter Tryd.func35, Tryd.ntmps35
  go_wp2_with (go_at_call 43; refine (ones_any s _ hs).mono ?_; rintro e w' ⟨rfl, rfl⟩)
  go_ret
  exact ⟨rfl, rfl⟩
theorem size_any (s : Nat) (w : World) (hs : s < 1024) :
    Calls Tryd.prog 28 #[.int .i64 s] w fun e w' => e = .returned (.int .i64 (pc s : Nat)) ∧ w = w' := by
  go_enter Tryd.func28, Tryd.ntmps28
  go_wp2_with (go_at_call 35; refine (onesCount_any s _ hs).mono ?_; rintro e w' ⟨rfl, rfl⟩)
  go_ret
  exact ⟨rfl, rfl⟩

theorem pcn_le (s : Nat) : ∀ k, pcn s k ≤ k
  | 0 => Nat.le_refl _
  | k + 1 => by have := pcn_le s k; unfold pcn; split <;> omega
theorem pcn_stop {s k : Nat} (h : ∀ j, k ≤ j → s.testBit j = false) : ∀ d, pcn s (k + d) = pcn s k
  | 0 => rfl
  | d + 1 => by
    rw [← Nat.add_assoc, pcn, h (k + d) (by omega)]
    simpa using pcn_stop h d
theorem pcn_step (s k : Nat) : pcn s (k + 1) = pcn s k + hv s k % 2 := by
  rw [pcn, hv_bit]
  rcases Nat.mod_two_eq_zero_or_one (hv s k) with h | h <;> simp [h]
end Go.Proofs.YtklfnghgpmjnmaaDoor
namespace Go.Proofs.YtklfnghgpmjnmaaDoor
open Go.RowKit

/-- The table in its variable. -/
def Tab (w : World) : Prop := ∀ j, j < 64 → w.cell? ⟨1, j, none⟩ = some (.int .u8 (Lib.deBruijn64tab.getD j 0))
theorem Tab.step {w w' : World} (h : Tab w) (hb : Below w.heap.size w w') : Tab w' := fun j hj => (hb.cell (World.block_lt_of_cell? _ _ (h j hj))).trans (h j hj)
/-- The least point of a set. -/
def lo (s : Nat) : Nat := Lib.ctz 64 s
set_option maxHeartbeats 1000000 in
theorem tz64_core (x k idx : Nat) (w : World) (hx0 : ((x : Int) == 0) = false)
    (key : IntKind.u64.wrap (bits BinOp.and IntKind.u64 (x : Int) (IntKind.u64.wrap (-(x : Int))) * 285870213051353865) / 288230376151711744 = (idx : Int))
    (hi : idx < 64) (hk : k < 64) (hcell : w.cell? ⟨1, idx, none⟩ = some (.int .u8 k)) :
    Calls Tryd.prog 45 #[.int .u64 x] w fun e w' => e = .returned (.int .i64 k) ∧ w = w' := by
  go_enter Tryd.func45, Tryd.ntmps45
  go_wp2_with (simp only [key])
  go_ret
  exact ⟨rfl, rfl⟩
theorem tz64_any (s : Nat) (w : World) (hs : s < 1024) (h0 : s ≠ 0) (hT : Tab w) :
    Calls Tryd.prog 45 #[.int .u64 s] w fun e w' => e = .returned (.int .i64 (lo s : Nat)) ∧ w = w' := by
  have hs64 : s < 18446744073709551616 := Nat.lt_trans hs (by decide)
  obtain ⟨hlow, hk⟩ := Lib.lowest_bit 64 s h0 hs64
  obtain ⟨hi, htab⟩ := Lib.deBruijn64_at _ hk
  have hcell := hT _ hi
  rw [htab] at hcell
  exact tz64_core s _ _ w (by simpa using h0) (tz64_key s _ hs64 h0 hlow) hi hk hcell
theorem tz_any (s : Nat) (w : World) (hs : s < 1024) (h0 : s ≠ 0) (hT : Tab w) :
    Calls Tryd.prog 36 #[.int .u64 s] w fun e w' => e = .returned (.int .i64 (lo s : Nat)) ∧ w = w' := by
  go_enter Tryd.func36, Tryd.ntmps36
  go_wp2_with (go_at_call 45; refine (tz64_any s _ hs h0 hT).mono ?_; rintro e w' ⟨rfl, rfl⟩)
  go_ret
  exact ⟨rfl, rfl⟩
theorem first_any (s : Nat) (w : World) (hs : s < 1024) (h0 : s ≠ 0) (hT : Tab w) :
    Calls Tryd.prog 29 #[.int .i64 s] w fun e w' => e = .returned (.int .i64 (lo s : Nat)) ∧ w = w' := by
  go_enter Tryd.func29, Tryd.ntmps29
  go_wp2_with (go_at_call 36; refine (tz_any s _ hs h0 hT).mono ?_; rintro e w' ⟨rfl, rfl⟩)
  go_ret
  exact ⟨rfl, rfl⟩
end Go.Proofs.YtklfnghgpmjnmaaDoor
