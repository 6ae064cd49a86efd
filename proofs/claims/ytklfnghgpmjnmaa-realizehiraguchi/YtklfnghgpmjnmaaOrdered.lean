/-
  What the small functions answer: isCount, isPoint, all, isSet, has of package order; In, Bit of the reference. Conditions: as each theorem says.
  What the reference's In and Bit answer. Conditions: a set that is not negative, a point below 62.
  What isOrdered answers: true just if no point is in its own set, and each set has all that the sets of its points have. Conditions: at most ten sets of numbers below 1024.
-/
import Derived.Test.YtklfnghgpmjnmaaRows
import Derived.Test.YtklfnghgpmjnmaaBits
import Derived.WalkKit
import Derived.WalkSpells
import Derived.WalkLawsBesides
namespace Go.Proofs.Ytklfnghgpmjnmaa
open Go.RowKit

/-- May an order have n points? -/
def cnt (n : Int) : Bool := decide (0 ≤ n ∧ n ≤ 10)
/-- Is p one of n points? -/
def pnt (p n : Int) : Bool := decide (0 ≤ p ∧ p < n)
/-- Is s a set of n points? -/
def sts (s : Int) (n : Nat) : Bool := decide (0 ≤ s ∧ s < (pw n : Nat))
theorem has_any (s p : Nat) (w : World) (hs : s < 9223372036854775808) (hp : p < 63) :
    Calls Try.prog 46 #[.int .i64 s, .int .i64 p] w fun e w' => e = .returned (.bool (s.testBit p)) ∧ w = w' := by
  have h := bit_and_one s p hs
  go_enter Try.func46, Try.ntmps46
  go_wp2
  go_ret
  exact ⟨rfl, rfl⟩
theorem all_any (n : Nat) (w : World) (hn : n ≤ 10) :
    Calls Try.prog 25 #[.int .i64 n] w fun e w' => e = .returned (.int .i64 ((pw n : Nat) - 1 : Int)) ∧ w = w' := by
  have h := wrap_pow n (by omega)
  have h2 := pw_small n (by omega)
  go_enter Try.func25, Try.ntmps25
  go_wp2
  go_ret
  exact ⟨rfl, rfl⟩
theorem isCount_any (n : Int) (w : World) :
    Calls Try.prog 23 #[.int .i64 n] w fun e w' => e = .returned (.bool (cnt n)) ∧ w = w' := by
  by_cases h0 : 0 ≤ n
  · by_cases h1 : n ≤ 10
    · go_enter Try.func23, Try.ntmps23
      go_wp2
      go_ret
      exact ⟨ret_bool (by simp [cnt, h0, h1]), rfl⟩
    · go_enter Try.func23, Try.ntmps23
      go_wp2
      go_ret
      exact ⟨ret_bool (by simp [cnt, h1]), rfl⟩
  · have h0' : decide (0 ≤ n) = false := by simp; omega
    go_enter Try.func23, Try.ntmps23
    go_wp2
    go_ret
    exact ⟨ret_bool (by simp [cnt]; omega), rfl⟩
theorem isSet_any (s : Int) (n : Nat) (w : World) (hn : n ≤ 10) :
    Calls Try.prog 56 #[.int .i64 s, .int .i64 n] w fun e w' => e = .returned (.bool (sts s n)) ∧ w = w' := by
  by_cases h0 : 0 ≤ s
  · by_cases h1 : s ≤ ((pw n : Nat) - 1 : Int)
    · go_enter Try.func56, Try.ntmps56
      go_wp2_with (go_at_call 25; refine (all_any n _ hn).mono ?_; rintro e w' ⟨rfl, rfl⟩)
      go_ret
      exact ⟨ret_bool (by simp [sts, h0]; omega), rfl⟩
    · go_enter Try.func56, Try.ntmps56
      go_wp2_with (go_at_call 25; refine (all_any n _ hn).mono ?_; rintro e w' ⟨rfl, rfl⟩)
      go_ret
      exact ⟨ret_bool (by simp [sts, h0]; omega), rfl⟩
  · have h0' : decide (0 ≤ s) = false := by simp; omega
    go_enter Try.func56, Try.ntmps56
    go_wp2
    go_ret
    exact ⟨ret_bool (by simp [sts]; omega), rfl⟩
end Go.Proofs.Ytklfnghgpmjnmaa
namespace Go.Proofs.Ytklfnghgpmjnmaa
open Go.RowKit

/-- s halved k times. -/
def hv (s k : Nat) : Nat := s / 2 ^ k
theorem hv_zero (s : Nat) : hv s 0 = s := by simp [hv]
theorem hv_succ (s k : Nat) : hv s (k + 1) = hv s k / 2 := by simp [hv, Nat.pow_succ, Nat.div_div_eq_div_mul]
theorem hv_bit (s k : Nat) : s.testBit k = decide (hv s k % 2 = 1) := Nat.testBit_eq_decide_div_mod_eq
theorem hv_le (s k : Nat) : hv s k ≤ s := Nat.div_le_self _ _

theorem in_any (s p : Nat) (w : World) (hs : s < 9223372036854775808) (hp : p < 63) :
    Calls Try.prog 61 #[.int .i64 s, .int .i64 p] w fun e w' => e = .returned (.bool (s.testBit p)) ∧ w = w' := by
  go_enter Try.func61, Try.ntmps61
  go_wp2
  go_loop [0, 1] (fun t i => ∃ k : Nat, k ≤ p ∧ t = .int .i64 (hv s k : Nat) ∧ i = .int .i64 ((p : Int) - (k : Nat))) (fun _ i => (intOf i).toNat)
  case atStart => exact ⟨0, Nat.zero_le _, by rw [hv_zero], by simp⟩
  case round =>
    obtain ⟨k, hk, rfl, rfl⟩ := hrel
    have hl := hv_le s k
    by_cases hlt : k < p
    · go_wp2
      go_round
      case rel => exact ⟨k + 1, by omega, by rw [hv_succ]; simp, by go_num⟩
      case measure => simp [intOf]; omega
    · have hkp : k = p := by omega
      subst hkp
      go_wp2
      go_ret
      exact ⟨ret_bool (by rw [hv_bit, Bool.eq_iff_iff]; simp; omega), rfl⟩
theorem bit_any (n : Nat) (w : World) (hn : n < 62) :
    Calls Try.prog 47 #[.int .i64 n] w fun e w' => e = .returned (.int .i64 (pw n : Nat)) ∧ w = w' := by
  go_enter Try.func47, Try.ntmps47
  go_wp2
  go_loop [0, 3] (fun i t => ∃ k : Nat, k ≤ n ∧ t = .int .i64 (pw k : Nat) ∧ i = .int .i64 ((n : Int) - (k : Nat))) (fun i _ => (intOf i).toNat)
  case atStart => exact ⟨0, Nat.zero_le _, rfl, by simp⟩
  case round =>
    obtain ⟨k, hk, rfl, rfl⟩ := hrel
    have hl := pw_small k (by omega)
    by_cases hlt : k < n
    · go_wp2
      go_round
      case rel => exact ⟨k + 1, by omega, by rw [pw_succ]; go_num, by go_num⟩
      case measure => simp [intOf]; omega
    · have hkp : k = n := by omega
      subst hkp
      go_wp2
      go_ret
      exact ⟨rfl, rfl⟩
end Go.Proofs.Ytklfnghgpmjnmaa
namespace Go.Proofs.Ytklfnghgpmjnmaa
open Go.RowKit

/-- A slice of len numbers f 0, f 1, .. -/
def Row (w : World) (a : Option Addr) (len : Nat) (f : Nat → Int) : Prop :=
  ∀ k, k < len → ∃ b off, a = some ⟨b, off, none⟩ ∧ w.cell? ⟨b, off + k, none⟩ = some (.int .i64 (f k))
theorem Row.at {w : World} {a : Option Addr} {len : Nat} {f : Nat → Int} (h : Row w a len f) {k : Nat} (hk : k < len) :
    ∃ b off, a = some ⟨b, off, none⟩ ∧ ∀ j, j < len → w.cell? ⟨b, off + j, none⟩ = some (.int .i64 (f j)) := by
  obtain ⟨b, off, rfl, _⟩ := h k hk
  refine ⟨b, off, rfl, fun j hj => ?_⟩
  obtain ⟨b', off', e, hc⟩ := h j hj
  simp at e
  obtain ⟨rfl, rfl⟩ := e
  exact hc

def OrdAt (n : Nat) (g : Nat → Nat) (u : Nat) : Prop := (g u).testBit u = false ∧ ∀ p, p < n → (g u).testBit p = true → lack (g p) (g u) = 0
def Ord (n : Nat) (g : Nat → Nat) : Prop := ∀ u, u < n → OrdAt n g u

/-- The call answers whether P holds. -/
def Ans (e : Ending) (P : Prop) : Prop := ∃ b : Bool, e = .returned (.bool b) ∧ (b = true ↔ P)
theorem Ans.yes {P : Prop} (h : P) : Ans (.returned (.bool true)) P := ⟨true, rfl, by simp [h]⟩
theorem Ans.no {P : Prop} (h : ¬ P) : Ans (.returned (.bool false)) P := ⟨false, rfl, by simp [h]⟩

theorem isOrdered_any (n : Nat) (g : Nat → Nat) (a : Option Addr) (cap : Nat) (w : World) (hn : n ≤ 10) (hg : ∀ k, k < n → g k < 1024) (hr : Row w a n (fun k => (g k : Nat))) :
    Calls Try.prog 57 #[.slice a n cap] w fun e w' => Ans e (Ord n g) ∧ w = w' := by
  have HG := (show Hid (∀ k, k < n → g k < 1024) from hg)
  have HR := (show Hid (Row w a n (fun k => (g k : Nat))) from hr)
  clear hg hr
  go_enter Try.func57, Try.ntmps57
  go_wp2
  go_loop [9] (fun i => ∃ k : Nat, k ≤ n ∧ i = .int .i64 k ∧ Hid (∀ u, u < k → OrdAt n g u)) (fun i => n - (intOf i).toNat)
  case atStart => exact ⟨0, Nat.zero_le _, rfl, upto_zero⟩
  case round =>
    obtain ⟨k, hk, rfl, hok⟩ := hrel
    by_cases hlt : k < n
    · obtain ⟨b, off, rfl, hc⟩ := HR.out.at hlt
      have hgk := HG.out k hlt
      have hck := hc k hlt
      have HC := (show Hid (∀ j, j < n → w.cell? ⟨b, off + j, none⟩ = some (.int .i64 (g j : Nat))) from hc)
      clear hc
      by_cases hs : (g k).testBit k = true
      · go_wp2_with (go_at_call 46; refine (has_any _ _ _ (by omega) (by omega)).mono ?_; rintro e w' ⟨rfl, rfl⟩)
        go_ret
        exact ⟨Ans.no (fun h => by have := (h k hlt).1; rw [hs] at this; cases this), rfl⟩
      · have hs' : (g k).testBit k = false := by simpa using hs
        clear hs
        go_wp2_with (go_at_call 46; refine (has_any _ _ _ (by omega) (by omega)).mono ?_; rintro e w' ⟨rfl, rfl⟩)
        go_loop [19] (fun i => ∃ p : Nat, p ≤ n ∧ i = .int .i64 p ∧ Hid (∀ q, q < p → (g k).testBit q = true → lack (g q) (g k) = 0)) (fun i => n - (intOf i).toNat)
        case atStart => exact ⟨0, Nat.zero_le _, rfl, upto_zero⟩
        case round =>
          obtain ⟨p, hp, rfl, hin⟩ := hrel
          by_cases hpl : p < n
          · have hcp := HC.out p hpl
            have hgp := HG.out p hpl
            have hand := i64_andNot (g p) (g k) (by omega) (by omega)
            by_cases ht : (g k).testBit p = true
            · by_cases hz : lack (g p) (g k) = 0
              · have hz' : (((lack (g p) (g k) : Nat) : Int) != 0) = false := by simp [hz]
                have HZ := (show Hid _ from hz); clear hz
                go_wp2_with (go_at_call 46; refine (has_any _ _ _ (by omega) (by omega)).mono ?_; rintro e w' ⟨rfl, rfl⟩)
                go_round
                case rel => exact ⟨p + 1, by omega, by go_num, upto_succ hin.out (fun _ => HZ.out)⟩
                case measure => simp [intOf]; omega
              · have hz' : (((lack (g p) (g k) : Nat) : Int) != 0) = true := by simp; exact hz
                go_wp2_with (go_at_call 46; refine (has_any _ _ _ (by omega) (by omega)).mono ?_; rintro e w' ⟨rfl, rfl⟩)
                go_ret
                exact ⟨Ans.no (fun h => hz ((h k hlt).2 p hpl ht)), rfl⟩
            · have ht' : (g k).testBit p = false := by simpa using ht
              clear ht
              go_wp2_with (go_at_call 46; refine (has_any _ _ _ (by omega) (by omega)).mono ?_; rintro e w' ⟨rfl, rfl⟩)
              go_round
              case rel => exact ⟨p + 1, by omega, by go_num, upto_succ hin.out (fun hb => by rw [ht'] at hb; cases hb)⟩
              case measure => simp [intOf]; omega
          · have hpn : p = n := by omega
            subst hpn
            go_wp2
            go_round
            case rel => exact ⟨k + 1, by omega, by go_num, upto_succ hok.out ⟨hs', hin.out⟩⟩
            case measure => simp [intOf]; omega
    · have hkn : k = n := by omega
      subst hkn
      go_wp2
      go_ret
      exact ⟨Ans.yes hok.out, rfl⟩
end Go.Proofs.Ytklfnghgpmjnmaa
