/-
  What isOrdered answers: true just if no point is in its own set, and each set has all that the sets of its points have. Conditions: at most ten sets of numbers below 1024.
-/
import Derived.Test.YtklfnghgpmjnmaaDoorRefLeaves
namespace Go.Proofs.YtklfnghgpmjnmaaDoor
open Go.RowKit

/-- A slice of len numbers f 0, f 1, .. -/
def Row (w : World) (a : Option Addr) (len : Nat) (f : Nat → Int) : Prop :=
  ∀ k, k < len → ∃ b off, a = some ⟨b, off, none⟩ ∧ w.cell? ⟨b, off + k, none⟩ = some (.int .i64 (f k))
theorem Row.at {w : World} {a : Option Addr} {len : Nat} {f : Nat → Int} (h : Row w a len f) {k : Nat} (hk : k < len) :
    ∃ b off, a = some ⟨b, off, none⟩ ∧ ∀ j, j < len → w.cell? ⟨b, off + j, none⟩ = some (.int .i64 (f j)) := by
  obtain ⟨b, off, rfl, _⟩ := h k hk
  refine ⟨b, off, rfl, fun j hj => ?_⟩
  obtain ⟨b', off', e, hc⟩ := h j hj
  simp at e
  obtain ⟨rfl, rfl⟩ := e
  exact hc

def OrdAt (n : Nat) (g : Nat → Nat) (u : Nat) : Prop := (g u).testBit u = false ∧ ∀ p, p < n → (g u).testBit p = true → lack (g p) (g u) = 0
def Ord (n : Nat) (g : Nat → Nat) : Prop := ∀ u, u < n → OrdAt n g u

/-- The call answers whether P holds. -/
def Ans (e : Ending) (P : Prop) : Prop := ∃ b : Bool, e = .returned (.bool b) ∧ (b = true ↔ P)
theorem Ans.yes {P : Prop} (h : P) : Ans (.returned (.bool true)) P := ⟨true, rfl, by simp [h]⟩
theorem Ans.no {P : Prop} (h : ¬ P) : Ans (.returned (.bool false)) P := ⟨false, rfl, by simp [h]⟩

theorem isOrdered_any (n : Nat) (g : Nat → Nat) (a : Option Addr) (cap : Nat) (w : World) (hn : n ≤ 10) (hg : ∀ k, k < n → g k < 1024) (hr : Row w a n (fun k => (g k : Nat))) :
    Calls Tryd.prog 27 #[.slice a n cap] w fun e w' => Ans e (Ord n g) ∧ w = w' := by
  have HG := (show Hid (∀ k, k < n → g k < 1024) from hg)
  have HR := (show Hid (Row w a n (fun k => (g k : Nat))) from hr)
  clear hg hr
  go_enter Tryd.func27, Tryd.ntmps27
  go_wp2
  go_loop [9] (fun i => ∃ k : Nat, k ≤ n ∧ i = .int .i64 k ∧ Hid (∀ u, u < k → OrdAt n g u)) (fun i => n - (intOf i).toNat)
  case atStart => exact ⟨0, Nat.zero_le _, rfl, upto_zero⟩
  case round =>
    obtain ⟨k, hk, rfl, hok⟩ := hrel
    by_cases hlt : k < n
    · obtain ⟨b, off, rfl, hc⟩ := HR.out.at hlt
      have hgk := HG.out k hlt
      have hck := hc k hlt
      have HC := (show Hid (∀ j, j < n → w.cell? ⟨b, off + j, none⟩ = some (.int .i64 (g j : Nat))) from hc)
      clear hc
      by_cases hs : (g k).testBit k = true
      · go_wp2_with (go_at_call 19; refine (has_any _ _ _ (by omega) (by omega)).mono ?_; rintro e w' ⟨rfl, rfl⟩)
        go_ret
        exact ⟨Ans.no (fun h => by have := (h k hlt).1; rw [hs] at this; cases this), rfl⟩
      · have hs' : (g k).testBit k = false := by simpa using hs
        clear hs
        go_wp2_with (go_at_call 19; refine (has_any _ _ _ (by omega) (by omega)).mono ?_; rintro e w' ⟨rfl, rfl⟩)
        go_loop [19] (fun i => ∃ p : Nat, p ≤ n ∧ i = .int .i64 p ∧ Hid (∀ q, q < p → (g k).testBit q = true → lack (g q) (g k) = 0)) (fun i => n - (intOf i).toNat)
        case atStart => exact ⟨0, Nat.zero_le _, rfl, upto_zero⟩
        case round =>
          obtain ⟨p, hp, rfl, hin⟩ := hrel
          by_cases hpl : p < n
          · have hcp := HC.out p hpl
            have hgp := HG.out p hpl
            have hand := i64_andNot (g p) (g k) (by omega) (by omega)
            by_cases ht : (g k).testBit p = true
            · by_cases hz : lack (g p) (g k) = 0
              · have hz' : (((lack (g p) (g k) : Nat) : Int) != 0) = false := by simp [hz]
                have HZ := (show Hid _ from hz); clear hz
                go_wp2_with (go_at_call 19; refine (has_any _ _ _ (by omega) (by omega)).mono ?_; rintro e w' ⟨rfl, rfl⟩)
                go_round
                case rel => exact ⟨p + 1, by omega, by go_num, upto_succ hin.out (fun _ => HZ.out)⟩
                case measure => simp [intOf]; omega
              · have hz' : (((lack (g p) (g k) : Nat) : Int) != 0) = true := by simp; exact hz
                go_wp2_with (go_at_call 19; refine (has_any _ _ _ (by omega) (by omega)).mono ?_; rintro e w' ⟨rfl, rfl⟩)
                go_ret
                exact ⟨Ans.no (fun h => hz ((h k hlt).2 p hpl ht)), rfl⟩
            · have ht' : (g k).testBit p = false := by simpa using ht
              clear ht
              go_wp2_with (go_at_call 19; refine (has_any _ _ _ (by omega) (by omega)).mono ?_; rintro e w' ⟨rfl, rfl⟩)
              go_round
              case rel => exact ⟨p + 1, by omega, by go_num, upto_succ hin.out (fun hb => by rw [ht'] at hb; cases hb)⟩
              case measure => simp [intOf]; omega
          · have hpn : p = n := by omega
            subst hpn
            go_wp2
            go_round
            case rel => exact ⟨k + 1, by omega, by go_num, upto_succ hok.out ⟨hs', hin.out⟩⟩
            case measure => simp [intOf]; omega
    · have hkn : k = n := by omega
      subst hkn
      go_wp2
      go_ret
      exact ⟨Ans.yes hok.out, rfl⟩
end Go.Proofs.YtklfnghgpmjnmaaDoor
