/-
  What the reference's Place answers of a number that is not there; into and divides where nothing is wrong; least ones of words and rows. Conditions: as each theorem says.
-/
import Derived.Test.YtimpgcmkdcmhkabDoorEBeg
namespace Go.Proofs.YtimpgcmkdcmhkabDoor
set_option maxRecDepth 100000
open Go.RowKit

def BP (v : Bool) (P : Prop) : Prop := v = true ↔ P
theorem BP.no {P : Prop} (h : BP false P) : ¬ P := fun p => by have := h.2 p; cases this
theorem BP.yes {P : Prop} (h : BP true P) : P := h.1 rfl
theorem BP.of {P : Prop} (h : P) : BP true P := ⟨fun _ => h, fun _ => rfl⟩
theorem BP.not {P : Prop} (h : ¬ P) : BP false P := ⟨fun e => (by cases e), fun p => absurd p h⟩
set_option maxHeartbeats 1000000 in
theorem place_no (a : Option Addr) (l cap : Nat) (f : Nat → Nat) (x : Nat) (w : World) (hl : l ≤ 12) (hr : Row w a l (fun k => (f k : Nat))) (hno : ∀ j, j < l → f j ≠ x) :
    Calls Tryd.prog 10 #[.slice a l cap, .int .i64 (x : Nat)] w fun e w' => e = .returned (.int .i64 (-1)) ∧ w = w' := by
  have HR : Hid (Row w a l (fun k => (f k : Nat))) := hr
  have HN : Hid (∀ j, j < l → f j ≠ x) := hno
  clear hr hno
  go_enter Tryd.func10, Tryd.ntmps10
  go_wp2_with fail
  go_loopw [5] (fun t wx => ∃ k : Nat, k ≤ l ∧ t = .int .i64 k ∧ wx = w) (fun t _ => l - (intOf t).toNat)
  case atStart => exact ⟨0, Nat.zero_le _, rfl, rfl⟩
  case round =>
    obtain ⟨k, hk, rfl, rfl⟩ := hrel
    by_cases hlt : k < l
    · obtain ⟨b, off, rfl, hc⟩ := HR.out k hlt
      have hne := HN.out k hlt
      have hne' : (((f k : Nat) : Int) == ((x : Nat) : Int)) = false := by simp; omega
      clear hne
      go_wp2_with fail
      go_roundw
      case rel => exact ⟨k + 1, by omega, by go_num, by first | rfl | trivial⟩
      case measure => simp [intOf]; omega
    · obtain rfl : k = l := by omega
      go_wp2_with fail
      go_ret
      exact ⟨rfl, rfl⟩
theorem wc2_ok {n : Int} {len : Nat} {f : Nat → Int} {la lb : Nat} {fa fb : Nat → Int} (h0 : Chk n len f 0) (h1 : la ≤ 12) (h2 : lb ≤ 12) (h3 : ∀ i, i < la → 0 ≤ fa i ∧ fa i < n) (h4 : ∀ i, i < lb → 0 ≤ fb i ∧ fb i < n) : WC2 n len f la fa lb fb 0 := by
  refine .inr ⟨h0, .inr ⟨?_, .inr ⟨rfl, ?_⟩⟩⟩
  · rintro (h | ⟨k, hk, h⟩)
    · omega
    · rcases (by omega : k = 0 ∨ k = 1) with rfl | rfl
      · exact absurd h (Nat.not_lt.2 h1)
      · exact absurd h (Nat.not_lt.2 h2)
  · intro k hk i hi
    rcases (by omega : k = 0 ∨ k = 1) with rfl | rfl
    · exact h3 i hi
    · exact h4 i hi
theorem into_ok (n : Int) (ao : Option Addr) (len co : Nat) (f : Nat → Int) (a : Option Addr) (la ca : Nat) (fa : Nat → Int) (b : Option Addr) (lb cb : Nat) (fb : Nat → Int) (w : World) (v : Bool) (hv : goesB (nat f) la (nat fa) lb (nat fb) = v) (ho : Row w ao len f) (ha : Row w a la fa) (hb : Row w b lb fb)
    (h0 : Chk n len f 0) (h1 : la ≤ 12) (h2 : lb ≤ 12) (h3 : ∀ i, i < la → 0 ≤ fa i ∧ fa i < n) (h4 : ∀ i, i < lb → 0 ≤ fb i ∧ fb i < n) :
    Calls Tryd.prog 9 #[.agg #[.int .i64 n, .slice ao len co], .slice a la ca, .slice b lb cb] w fun e w' => e = .returned (.tuple #[.bool v, .int .i64 0]) ∧ Below w.heap.size w w' := by
  have hl := h0.good.2.1
  refine (into_any n ao len co f a la ca fa b lb cb fb w (by unfold maxLen; omega) ho (by unfold maxLen; omega) ha (by unfold maxLen; omega) hb).mono ?_
  rintro e w' ⟨⟨c, v', rfl, hc, hv'⟩, hb'⟩
  obtain rfl : c = 0 := hc.one (wc2_ok h0 h1 h2 h3 h4)
  refine ⟨?_, hb'⟩
  rcases hv' with ⟨h, _⟩ | ⟨_, h⟩
  · exact absurd rfl h
  · rw [h, hv]
theorem nc2_ok2 {la lb : Nat} {fa fb : Nat → Int} (h1 : la ≤ 12) (h2 : lb = la) (h3 : ∀ i, i < la → 0 ≤ fa i ∧ fa i ≤ 1000000) (h4 : ∀ i, i < lb → 0 ≤ fb i ∧ fb i ≤ 1000000) : NC2 la fa lb fb 0 := by
  refine .inr ⟨?_, .inr ⟨?_, .inr ⟨rfl, ?_⟩⟩⟩
  · rintro (h | ⟨k, hk, h⟩)
    · omega
    · rcases (by omega : k = 0 ∨ k = 1) with rfl | rfl
      · exact absurd h (Nat.not_lt.2 h1)
      · exact absurd h (Nat.not_lt.2 (by rw [← h2] at h1; exact h1))
  · intro k hk
    rcases (by omega : k = 0 ∨ k = 1) with rfl | rfl
    · rfl
    · exact h2
  · intro k hk i hi
    rcases (by omega : k = 0 ∨ k = 1) with rfl | rfl
    · exact h3 i hi
    · exact h4 i hi
theorem div_ok (a : Option Addr) (la ca : Nat) (fa : Nat → Int) (b : Option Addr) (lb cb : Nat) (fb : Nat → Int) (w : World) (v : Bool) (hv : divB la fa fb = v) (ha : Row w a la fa) (hb : Row w b lb fb)
    (h1 : la ≤ 12) (h2 : lb = la) (h3 : ∀ i, i < la → 0 ≤ fa i ∧ fa i ≤ 1000000) (h4 : ∀ i, i < lb → 0 ≤ fb i ∧ fb i ≤ 1000000) :
    Calls Tryd.prog 12 #[.slice a la ca, .slice b lb cb] w fun e w' => e = .returned (.tuple #[.bool v, .int .i64 0]) ∧ Below w.heap.size w w' := by
  refine (dividesX_any a la ca fa b lb cb fb w (by unfold maxLen; omega) ha (by unfold maxLen; omega) hb).mono ?_
  rintro e w' ⟨⟨c, v', rfl, hc, hv'⟩, hb'⟩
  obtain rfl : c = 0 := hc.one (nc2_ok2 h1 h2 h3 h4)
  refine ⟨?_, hb'⟩
  rcases hv' with ⟨h, _⟩ | ⟨_, h⟩
  · exact absurd rfl h
  · rw [h, hv]
/-- What the laws ask of the least ones. -/
def LeastOk (P : Nat → Nat → Bool) (m : Nat) (l : List Nat) : Prop :=
  (∀ i, i < l.length → nth l i < m) ∧ (∀ k, k < m → ∃ j, j < l.length ∧ P (nth l j) k = true) ∧ ∀ k i, i < l.length → nth l i ≠ k → P (nth l i) k = true → ∀ j, j < l.length → nth l j ≠ k
theorem least_ok {P : Nat → Nat → Bool} {m : Nat} (hr : ∀ i, i < m → P i i = true) (ht : ∀ i j k, i < m → j < m → k < m → P i j = true → P j k = true → P i k = true) : LeastOk P m (lst P m m) := by
  refine ⟨fun i hi => (lst_mem.1 (nth_mem.2 ⟨i, hi, rfl⟩)).1, fun k hk => ?_, fun k i hi hne hp j hj e => ?_⟩
  · obtain ⟨i, h1, h2⟩ := lst_some hr ht _ k hk (Nat.le_refl _)
    obtain ⟨j, h3, h4⟩ := nth_mem.1 h1
    exact ⟨j, h3, by rw [h4]; exact h2⟩
  · have h1 : nth (lst P m m) i ∈ lst P m m := nth_mem.2 ⟨i, hi, rfl⟩
    have h2 : k ∈ lst P m m := nth_mem.2 ⟨j, hj, e⟩
    rw [lst_apart h1 h2 hne] at hp; cases hp
theorem word_least {n : Nat} {g : Nat → Nat} {m : Nat} {S : Nat → Option Addr × Nat × Nat} {F : Nat → Nat → Int} (ho : Ord n g) (hg : ∀ k, k < n → g k < 1024) (hL : Lets n m S F) : LeastOk (wdP g S F) m (lst (wdP g S F) m m) := by
  have hlt : ∀ k, k < m → ∀ i, i < (S k).2.1 → nat (F k) i < n := fun k hk i hi => by have := hL k hk i hi; unfold nat; omega
  refine least_ok (fun i _ => goes_iff.2 (Emb.self _ _ _)) (fun i j k _ hj hk h1 h2 => ?_)
  exact goes_iff.2 (Emb.trans ho hg (hlt j hj) (hlt k hk) (goes_iff.1 h1) (goes_iff.1 h2))
theorem row_least {m : Nat} {S : Nat → Option Addr × Nat × Nat} {F : Nat → Nat → Int} (hf : Frm m S) : LeastOk (rwP S F) m (lst (rwP S F) m m) := by
  refine least_ok (fun i _ => decide_eq_true (fun _ _ => Int.le_refl _)) (fun i j k hi hj hk h1 h2 => ?_)
  refine decide_eq_true (fun q hq => ?_)
  have e : (S j).2.1 = (S i).2.1 := (hf j hj).trans (hf i hi).symm
  exact Int.le_trans (of_decide_eq_true h1 q hq) (of_decide_eq_true h2 q (by rw [e]; exact hq))
end Go.Proofs.YtimpgcmkdcmhkabDoor
