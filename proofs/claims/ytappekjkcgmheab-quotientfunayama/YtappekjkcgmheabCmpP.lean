/-
  What slices.Compare answers of two lists of one length. No other condition.
-/
import Derived.Test.YtappekjkcgmheabOfpP
namespace Go.Proofs.Ytappekjkcgmheab
open Go.RowKit
set_option maxRecDepth 100000

theorem nanC_any (x : Int) (w : World) : Calls Try.prog 52 #[.int .i64 x] w fun e w' => e = .returned (.bool false) ∧ w = w' := by
  have h : (x != x) = false := by simp
  go_enter Try.func52, Try.ntmps52
  go_wp2
  go_ret
  exact ⟨by simp, rfl⟩
/-- Two numbers, compared. -/
def cmpI (x y : Nat) : Int := if x < y then -1 else if y < x then 1 else 0
theorem cmpC_any (x y : Nat) (w : World) : Calls Try.prog 38 #[.int .i64 (x : Nat), .int .i64 (y : Nat)] w fun e w' => e = .returned (.int .i64 (cmpI x y)) ∧ w = w' := by
  rcases Nat.lt_trichotomy x y with h | h | h
  · have e : cmpI x y = -1 := by simp [cmpI, h]
    have h' : (x : Int) < (y : Int) := by omega
    rw [e]
    go_enter Try.func38, Try.ntmps38
    go_wp2_with (go_at_call 52; refine (nanC_any _ _).mono ?_; rintro e w' ⟨rfl, rfl⟩)
    go_ret
    exact ⟨rfl, rfl⟩
  · subst h
    have e : cmpI x x = 0 := by simp [cmpI]
    have h' : ¬ (x : Int) < (x : Int) := by omega
    rw [e]
    go_enter Try.func38, Try.ntmps38
    go_wp2_with (go_at_call 52; refine (nanC_any _ _).mono ?_; rintro e w' ⟨rfl, rfl⟩)
    go_ret
    exact ⟨rfl, rfl⟩
  · have e : cmpI x y = 1 := by simp [cmpI, h]; omega
    have h1 : ¬ (x : Int) < (y : Int) := by omega
    have h' : (y : Int) < (x : Int) := by omega
    rw [e]
    go_enter Try.func38, Try.ntmps38
    go_wp2_with (go_at_call 52; refine (nanC_any _ _).mono ?_; rintro e w' ⟨rfl, rfl⟩)
    go_ret
    exact ⟨rfl, rfl⟩
/-- Two lists from place k on, compared. -/
def cmpF (f g : Nat → Nat) : Nat → Nat → Int
  | 0, _ => 0
  | n + 1, k => if f k = g k then cmpF f g n (k + 1) else cmpI (f k) (g k)
set_option maxHeartbeats 1000000 in
theorem compare_any (q : Nat) (a b : Option Addr) (ca cb : Nat) (f g : Nat → Nat) (w : World) (h40 : q ≤ 40) (ha : Row w a q (fun k => (f k : Nat))) (hb : Row w b q (fun k => (g k : Nat))) :
    Calls Try.prog 21 #[.slice a q ca, .slice b q cb] w fun e w' => e = .returned (.int .i64 (cmpF f g q 0)) ∧ w = w' := by
  have HA : Hid (Row w a q (fun k => (f k : Nat))) := ha
  have HB : Hid (Row w b q (fun k => (g k : Nat))) := hb
  clear ha hb
  go_enter Try.func21, Try.ntmps21
  go_wp2_with fail
  go_loop [11] (fun t => ∃ k : Nat, k ≤ q ∧ t = .int .i64 k ∧ Hid (cmpF f g q 0 = cmpF f g (q - k) k)) (fun t => q - (intOf t).toNat)
  case atStart => exact ⟨0, Nat.zero_le _, rfl, rfl⟩
  case round =>
    obtain ⟨k, hk, rfl, HE⟩ := hrel
    by_cases hlt : k < q
    · have hlt' : (k : Int) < (q : Int) := by omega
      have hge : ¬ ((q : Int) ≤ (k : Int)) := by omega
      obtain ⟨ba, oa, rfl, e1'⟩ := HA.out k hlt
      obtain ⟨bb, ob, rfl, e2'⟩ := HB.out k hlt
      have e1 : w.cell? ⟨ba, oa + k, none⟩ = some (.int .i64 (f k : Nat)) := e1'
      have e2 : w.cell? ⟨bb, ob + k, none⟩ = some (.int .i64 (g k : Nat)) := e2'
      clear e1' e2'
      have HS : Hid (cmpF f g (q - k) k = if f k = g k then cmpF f g (q - (k + 1)) (k + 1) else cmpI (f k) (g k)) := by
        rw [show q - k = (q - (k + 1)) + 1 by omega]; rfl
      generalize hx : f k = x at e1
      generalize hy : g k = y at e2
      rw [hx, hy] at HS
      by_cases e : x = y
      · subst e
        have hcc := cmpC_any x x w
        rw [show cmpI x x = 0 by simp [cmpI]] at hcc
        have HCC := (show Hid _ from hcc)
        clear hcc
        have HS2 : Hid (cmpF f g q 0 = cmpF f g (q - (k + 1)) (k + 1)) := HE.out.trans (HS.out.trans (if_pos rfl))
        clear HS HE hx hy
        go_wp2_with (go_at_call 38; refine Calls.mono HCC.out ?_; rintro e w' ⟨rfl, rfl⟩)
        go_round
        case rel => exact ⟨k + 1, by omega, by go_num, HS2⟩
        case measure => simp [intOf]; omega
      · have hne : (cmpI x y != 0) = true := by
          unfold cmpI
          rcases Nat.lt_or_ge x y with h | h
          · simp [h]
          · simp [show ¬ x < y by omega, show y < x by omega]
        have HS2 : Hid (cmpF f g q 0 = cmpI x y) := HE.out.trans (HS.out.trans (if_neg e))
        clear HS HE hx hy
        have HCC := (show Hid _ from cmpC_any x y w)
        generalize cmpI x y = c at HS2 hne HCC
        go_wp2_with (go_at_call 38; refine Calls.mono HCC.out ?_; rintro e w' ⟨rfl, rfl⟩)
        go_ret
        exact ⟨by rw [HS2.out]; rfl, rfl⟩
    · obtain rfl : k = q := by omega
      have hno : ¬ ((k : Int) < (k : Int)) := by omega
      have HF : Hid (cmpF f g k 0 = 0) := by rw [HE.out, Nat.sub_self]; rfl
      go_wp2_with fail
      go_ret
      exact ⟨by rw [HF.out]; rfl, rfl⟩
end Go.Proofs.Ytappekjkcgmheab
