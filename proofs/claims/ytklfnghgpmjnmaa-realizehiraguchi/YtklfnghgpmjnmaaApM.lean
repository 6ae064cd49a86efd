/-
  What hasselaw.realizeBegun answers: true. No condition.
  What the reference's Apart answers of any two points. Conditions: at most ten points.
-/
import Derived.Test.YtklfnghgpmjnmaaRzC
import Derived.Test.YtklfnghgpmjnmaaBegun
import Derived.Test.YtklfnghgpmjnmaaRowsM
import Derived.Test.YtklfnghgpmjnmaaGolM
import Derived.Test.YtklfnghgpmjnmaaRzD
namespace Go.Proofs.Ytklfnghgpmjnmaa
open Go.RowKit

theorem two_dim {g : Nat → Nat} (hg : ∀ k, k < 2 → g k = 0) {k : Nat} (h : Dim g 2 k) : k = 2 := by
  have hl : ∀ p q, ltU g 2 p q = false := fun p q => by
    unfold ltU
    by_cases e : q < 2
    · rw [hg q e]; simp
    · simp [e]
  have h2 : RzS (· < 2) (ltU g 2) 2 := by
    refine ⟨fun i p => if i = 0 then p else 1 - p, fun i hi => ⟨fun p q hp hq e => ?_, fun p q _ _ e => ?_⟩, fun p q hp hq hne _ => ?_⟩
    · have hp : p < 2 := hp
      have hq : q < 2 := hq
      simp only at e
      split at e <;> omega
    · rw [hl] at e; cases e
    · have hp : p < 2 := hp
      have hq : q < 2 := hq
      by_cases e : q < p
      · exact ⟨0, by decide, e⟩
      · exact ⟨1, by decide, by show 1 - q < 1 - p; omega⟩
  have h1 : ¬ RzS (· < 2) (ltU g 2) 1 := by
    rintro ⟨R, _, h⟩
    obtain ⟨i, hi, e1⟩ := h 0 1 (by decide : (0:Nat) < 2) (by decide : (1:Nat) < 2) (by decide) (hl _ _)
    obtain ⟨j, hj, e2⟩ := h 1 0 (by decide : (1:Nat) < 2) (by decide : (0:Nat) < 2) (by decide) (hl _ _)
    obtain rfl : i = 0 := by omega
    obtain rfl : j = 0 := by omega
    omega
  have := h.2.2 2 (by decide) h2
  have h0 := h.1
  by_cases e : k = 1
  · subst e; exact absurd h.2.1 h1
  · omega
def fB0 (_ : Nat) : Int := 0
theorem fB0_ck : SCk 2 2 fB0 0 := by
  refine ⟨0, .inr ⟨2, rfl, by decide, .inr ⟨rfl, .inr ⟨?_, .inr ⟨rfl, ?_⟩⟩⟩⟩, by decide⟩
  · intro k hk; unfold fB0; have := pw_pos 2; refine ⟨?_, ?_⟩ <;> omega
  · intro u _; exact ⟨by simp [fB0, nat], fun p _ h => by simp [fB0, nat] at h⟩
set_option maxRecDepth 100000 in
set_option maxHeartbeats 4000000 in
theorem realizeBegun_any (w : World) : Calls Try.prog 10 #[] w fun e w' => e = .returned (.bool true) ∧ Below w.heap.size w w' := by
  have HB0 : Hid (Below w.heap.size w (w.alloc (.cells #[.int .i64 0, .int .i64 0] 3))) := (Below.refl _ _).alloc (Nat.le_refl _) _
  have HR0 : Hid (Row (w.alloc (.cells #[.int .i64 0, .int .i64 0] 3)) (some ⟨w.heap.size, 0, none⟩) 2 fB0) := fun k hk => by
    have hj2 : k = 0 ∨ k = 1 := by omega
    rcases hj2 with rfl | rfl
    · exact ⟨w.heap.size, 0, rfl, by simp [fB0]⟩
    · exact ⟨w.heap.size, 0, rfl, by simp [fB0]⟩
  go_enter Try.func10, Try.ntmps10
  go_wp2_with fail
  refine (dim_any 2 _ 2 2 fB0 _ (by unfold maxLen; omega) HR0.out).mono ?_
  rintro e w1 ⟨⟨c, hck, hv⟩, hb⟩
  obtain rfl : c = 0 := hck.one fB0_ck
  have HB1 : Hid (Below w.heap.size w w1) := Below.then HB0.out hb
  rcases hv with ⟨h, _⟩ | ⟨_, l, a, cap, T, hd, _, rfl, _⟩
  · exact absurd rfl h
  rw [two_dim (fun _ _ => rfl) hd]
  clear hck hb hd HR0 HB0
  go_wp2_with fail
  refine (rOf_any 1 none 0 0 (fun _ => (none, 0, 0)) (fun _ _ => 0) _ (by unfold maxLen; omega) (fun k hk => absurd hk (Nat.not_lt_zero _))).mono ?_
  rintro e w2 ⟨⟨c, x, rfl, hck, hx⟩, hb⟩
  obtain rfl : c = 2 := by
    rcases hck with ⟨h, _⟩ | ⟨q, _, _, h, _⟩
    · exact h
    · exact absurd h (Nat.not_lt_zero _)
  rcases hx with ⟨_, rfl⟩ | ⟨h, _⟩
  · have HB2 : Hid (Below w.heap.size w w2) := Below.then HB1.out hb
    have HB3 : Hid (∀ o, Below w.heap.size w (w2.alloc o)) := fun o => HB2.out.alloc HB2.out.size _
    clear hb hck HB1 HB2
    unfold noOrder
    go_wp2_with fail
    go_ret
    exact ⟨rfl, HB3.out _⟩
  · exact absurd h (by decide)
end Go.Proofs.Ytklfnghgpmjnmaa
namespace Go.Proofs.Ytklfnghgpmjnmaa
open Go.RowKit

theorem less_as (n : Int) (a : Option Addr) (len cap : Nat) (g : Nat → Nat) (i j : Nat) (b : Bool) (w : World) (hb : (g j).testBit i = b) (hl : len ≤ 10) (hg : ∀ k, k < len → g k < 1024) (hr : Row w a len (fun k => (g k : Nat))) (hi : i < 63) (hj : j < len) :
    Calls Try.prog 51 #[.agg #[.int .i64 n, .slice a len cap], .int .i64 i, .int .i64 j] w fun e w' => e = .returned (.bool b) ∧ Below w.heap.size w w' := by
  rw [← hb]; exact less_any n a len cap g i j w hl hg hr hi hj
/-- Is neither of two points below the other one? -/
def apB (g : Nat → Nat) (i k : Nat) : Bool := !(g k).testBit i && !(g i).testBit k
set_option maxHeartbeats 1000000 in
theorem apart_any (n : Nat) (a : Option Addr) (cap : Nat) (g : Nat → Nat) (i k : Nat) (w : World) (h10 : n ≤ 10) (hg : ∀ j, j < n → g j < 1024) (hr : Row w a n (fun k => (g k : Nat))) (hi : i < n) (hk : k < n) (hne : i ≠ k) :
    Calls Try.prog 37 #[.agg #[.int .i64 (n : Int), .slice a n cap], .int .i64 i, .int .i64 k] w fun e w' => e = .returned (.bool (apB g i k)) ∧ Below w.heap.size w w' := by
  have K0 : Held (w.alloc (.cells #[.int .i64 (n : Int), .slice a n cap] 25)) w.heap.size n a n cap (fun k => (g k : Nat)) := Held.box hr
  have HB0 : Hid (Below w.heap.size w (w.alloc (.cells #[.int .i64 (n : Int), .slice a n cap] 25))) := (Below.refl _ _).alloc (Nat.le_refl _) _
  have HG : Hid (∀ j, j < n → g j < 1024) := hg
  have hq : ((i : Int) != (k : Int)) = true := by simp; omega
  clear hr hg
  rcases (Bool.eq_false_or_eq_true ((g k).testBit i)).symm with hb1 | hb1
  · rcases (Bool.eq_false_or_eq_true ((g i).testBit k)).symm with hb2 | hb2
    · have HE : Hid (apB g i k = true) := by simp [apB, hb1, hb2, Hid]
      go_enter Try.func37, Try.ntmps37
      go_wp2_with fail
      refine (less_as n a n cap g i k false _ hb1 h10 HG.out K0.row (by omega) hk).mono ?_
      rintro e w1 ⟨rfl, h1⟩
      have K1 := K0.step h1
      have d0 := K1.c0
      have d1 := K1.c1
      have HB1 : Hid (Below w.heap.size w w1) := Below.then HB0.out h1
      clear h1 K0 HB0
      go_wp2_with fail
      refine (less_as n a n cap g k i false _ hb2 h10 HG.out K1.row (by omega) hi).mono ?_
      rintro e w2 ⟨rfl, h2⟩
      have HB2 : Hid (Below w.heap.size w w2) := Below.then HB1.out h2
      clear h2 K1 HB1
      go_wp2_with fail
      go_ret
      exact ⟨ret_bool HE.out.symm, HB2.out⟩
    · have HE : Hid (apB g i k = false) := by simp [apB, hb2, Hid]
      go_enter Try.func37, Try.ntmps37
      go_wp2_with fail
      refine (less_as n a n cap g i k false _ hb1 h10 HG.out K0.row (by omega) hk).mono ?_
      rintro e w1 ⟨rfl, h1⟩
      have K1 := K0.step h1
      have d0 := K1.c0
      have d1 := K1.c1
      have HB1 : Hid (Below w.heap.size w w1) := Below.then HB0.out h1
      clear h1 K0 HB0
      go_wp2_with fail
      refine (less_as n a n cap g k i true _ hb2 h10 HG.out K1.row (by omega) hi).mono ?_
      rintro e w2 ⟨rfl, h2⟩
      have HB2 : Hid (Below w.heap.size w w2) := Below.then HB1.out h2
      clear h2 K1 HB1
      go_wp2_with fail
      go_ret
      exact ⟨ret_bool HE.out.symm, HB2.out⟩
  · have HE : Hid (apB g i k = false) := by simp [apB, hb1, Hid]
    go_enter Try.func37, Try.ntmps37
    go_wp2_with fail
    refine (less_as n a n cap g i k true _ hb1 h10 HG.out K0.row (by omega) hk).mono ?_
    rintro e w1 ⟨rfl, h1⟩
    have HB1 : Hid (Below w.heap.size w w1) := Below.then HB0.out h1
    clear h1 K0 HB0
    go_wp2_with fail
    go_ret
    exact ⟨ret_bool HE.out.symm, HB1.out⟩

theorem apart_as (n : Nat) (a : Option Addr) (cap : Nat) (g : Nat → Nat) (i k : Nat) (b : Bool) (w : World) (hb : apB g i k = b) (h10 : n ≤ 10) (hg : ∀ j, j < n → g j < 1024) (hr : Row w a n (fun k => (g k : Nat))) (hi : i < n) (hk : k < n) (hne : i ≠ k) :
    Calls Try.prog 37 #[.agg #[.int .i64 (n : Int), .slice a n cap], .int .i64 i, .int .i64 k] w fun e w' => e = .returned (.bool b) ∧ Below w.heap.size w w' := by
  rw [← hb]; exact apart_any n a cap g i k w h10 hg hr hi hk hne
set_option maxHeartbeats 1000000 in
theorem apart_self (n : Nat) (a : Option Addr) (cap : Nat) (i : Nat) (w : World) :
    Calls Try.prog 37 #[.agg #[.int .i64 (n : Int), .slice a n cap], .int .i64 i, .int .i64 i] w fun e w' => e = .returned (.bool false) ∧ Below w.heap.size w w' := by
  have HB0 : Hid (Below w.heap.size w (w.alloc (.cells #[.int .i64 (n : Int), .slice a n cap] 25))) := (Below.refl _ _).alloc (Nat.le_refl _) _
  have hq : ((i : Int) != (i : Int)) = false := by simp
  go_enter Try.func37, Try.ntmps37
  go_wp2_with fail
  go_ret
  exact ⟨rfl, HB0.out⟩
theorem apt_apB {g : Nat → Nat} {n i k : Nat} (hi : i < n) (hk : k < n) (hne : i ≠ k) : apt (ltU g n) n i k = apB g i k := by
  unfold apt ltU apB
  simp [hi, hk, hne]
theorem apart_is (n : Nat) (a : Option Addr) (cap : Nat) (g : Nat → Nat) (i k : Nat) (b : Bool) (w : World) (hb : apt (ltU g n) n i k = b) (h10 : n ≤ 10) (hg : ∀ j, j < n → g j < 1024) (hr : Row w a n (fun k => (g k : Nat))) (hi : i < n) (hk : k < n) :
    Calls Try.prog 37 #[.agg #[.int .i64 (n : Int), .slice a n cap], .int .i64 i, .int .i64 k] w fun e w' => e = .returned (.bool b) ∧ Below w.heap.size w w' := by
  by_cases e : i = k
  · subst e
    rw [apt_apt.irr] at hb
    subst hb
    exact apart_self n a cap i w
  · rw [apt_apB hi hk e] at hb
    exact apart_as n a cap g i k b w hb h10 hg hr hi hk e
end Go.Proofs.Ytklfnghgpmjnmaa
