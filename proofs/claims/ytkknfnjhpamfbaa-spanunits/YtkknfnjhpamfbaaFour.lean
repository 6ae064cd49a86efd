/-
  What span.Two and span.Three answer, whatever order they are handed: the first four points of which it is so. No condition but that a slice reads as a slice of numbers.
-/
import Derived.Test.YtkknfnjhpamfbaaFourM
import Derived.Test.YtkknfnjhpamfbaaCheck
import Derived.Test.YtkknfnjhpamfbaaKept
import Derived.Test.YtkknfnjhpamfbaaStretch
namespace Go.Proofs.Ytkknfnjhpamfbaa
open Go.RowKit

/-- The function that asks of the order in block B. -/
def askV (B : Nat) : Value := .func (.func 58) #[] #[.pointer (some ⟨B, 0, none⟩)]
theorem asked_any (n : Int) (a : Option Addr) (len cap : Nat) (w : World) :
    Calls Try.prog 42 #[.agg #[.int .i64 n, .slice a len cap]] w fun e w' => e = .returned (askV w.heap.size) ∧ w' = w.alloc (.cells #[.int .i64 n, .slice a len cap] 25) := by
  go_enter Try.func42, Try.ntmps42
  go_wp2
  go_ret
  exact ⟨rfl, rfl⟩
theorem ask1_as (B : Nat) (n : Int) (a : Option Addr) (len cap : Nat) (g : Nat → Nat) (x y : Nat) (v : Bool) (w : World) (hv : (g y).testBit x = v) (h10 : len ≤ 10) (hg : ∀ k, k < len → g k < 1024) (hx : x < len) (hy : y < len) (hH : Held w B n a len cap (fun k => (g k : Nat))) :
    Calls Try.prog 58 #[.int .i64 x, .int .i64 y, .pointer (some ⟨B, 0, none⟩)] w fun e w' => e = .returned (.bool v) ∧ w = w' := by
  obtain ⟨c0, c1, hr⟩ := hH
  obtain ⟨b, off, rfl, hc'⟩ := hr y hy
  have hc : w.cell? ⟨b, off + y, none⟩ = some (.int .i64 (g y : Nat)) := hc'
  have hG := hg y hy
  have hy' : (y : Int) < (len : Int) := by omega
  clear hr hg hc'
  generalize g y = G at *
  go_enter Try.func58, Try.ntmps58
  go_wp2_with (go_at_call 57; refine (has_as G x v _ hv (by omega) (by omega)).mono ?_; rintro e w' ⟨rfl, rfl⟩)
  go_ret
  exact ⟨rfl, rfl⟩
set_option maxHeartbeats 1000000 in
theorem two1_any (B U : Nat) (n : Int) (ar : Option Addr) (len cap : Nat) (g : Nat → Nat) (a b c d : Nat) (w : World) (h10 : len ≤ 10) (hg : ∀ k, k < len → g k < 1024) (ha : a < len) (hb : b < len) (hc : c < len) (hd : d < len) (hH : Held w B n ar len cap (fun k => (g k : Nat))) (hU : w.cell? ⟨U, 0, none⟩ = some (askV B)) :
    Calls Try.prog 44 #[.int .i64 a, .int .i64 b, .int .i64 c, .int .i64 d, .pointer (some ⟨U, 0, none⟩)] w fun e w' => e = .returned (.bool (((g b).testBit a && (g d).testBit c && !(g d).testBit a && !(g b).testBit c))) ∧ w = w' := by
  have HH : Hid (Held w B n ar len cap (fun k => (g k : Nat))) := hH
  have HG : Hid (∀ k, k < len → g k < 1024) := hg
  clear hH hg
  unfold askV at hU
  obtain ⟨v0, hv0⟩ : ∃ v, (g b).testBit a = v := ⟨_, rfl⟩
  obtain ⟨v1, hv1⟩ : ∃ v, (g d).testBit c = v := ⟨_, rfl⟩
  obtain ⟨v2, hv2⟩ : ∃ v, (g d).testBit a = v := ⟨_, rfl⟩
  obtain ⟨v3, hv3⟩ : ∃ v, (g b).testBit c = v := ⟨_, rfl⟩
  simp only [hv0, hv1, hv2, hv3]
  have C0 : ∀ w', w = w' → Calls Try.prog 58 #[.int .i64 a, .int .i64 b, .pointer (some ⟨B, 0, none⟩)] w' fun e w'' => e = .returned (.bool v0) ∧ w' = w'' := fun w' h => by subst h; exact ask1_as B n ar len cap g a b v0 w hv0 h10 HG.out ha hb HH.out
  have C1 : ∀ w', w = w' → Calls Try.prog 58 #[.int .i64 c, .int .i64 d, .pointer (some ⟨B, 0, none⟩)] w' fun e w'' => e = .returned (.bool v1) ∧ w' = w'' := fun w' h => by subst h; exact ask1_as B n ar len cap g c d v1 w hv1 h10 HG.out hc hd HH.out
  have C2 : ∀ w', w = w' → Calls Try.prog 58 #[.int .i64 a, .int .i64 d, .pointer (some ⟨B, 0, none⟩)] w' fun e w'' => e = .returned (.bool v2) ∧ w' = w'' := fun w' h => by subst h; exact ask1_as B n ar len cap g a d v2 w hv2 h10 HG.out ha hd HH.out
  have C3 : ∀ w', w = w' → Calls Try.prog 58 #[.int .i64 c, .int .i64 b, .pointer (some ⟨B, 0, none⟩)] w' fun e w'' => e = .returned (.bool v3) ∧ w' = w'' := fun w' h => by subst h; exact ask1_as B n ar len cap g c b v3 w hv3 h10 HG.out hc hb HH.out
  clear hv0 hv1 hv2 hv3 HH HG
  rcases v0 with _ | _ <;> rcases v1 with _ | _ <;> rcases v2 with _ | _ <;> rcases v3 with _ | _
  all_goals
    go_enter Try.func44, Try.ntmps44
    go_wp2_with fail
    repeat (first | (refine (C0 _ rfl).mono ?_; clear C0; rintro e w' ⟨rfl, rfl⟩; go_wp2_with fail) | (refine (C1 _ rfl).mono ?_; clear C1; rintro e w' ⟨rfl, rfl⟩; go_wp2_with fail) | (refine (C2 _ rfl).mono ?_; clear C2; rintro e w' ⟨rfl, rfl⟩; go_wp2_with fail) | (refine (C3 _ rfl).mono ?_; clear C3; rintro e w' ⟨rfl, rfl⟩; go_wp2_with fail))
    go_ret
    exact ⟨rfl, rfl⟩
set_option maxHeartbeats 1000000 in
theorem three1_any (B U : Nat) (n : Int) (ar : Option Addr) (len cap : Nat) (g : Nat → Nat) (a b : Nat) (w : World) (h10 : len ≤ 10) (hg : ∀ k, k < len → g k < 1024) (ha : a < len) (hb : b < len) (hH : Held w B n ar len cap (fun k => (g k : Nat))) (hU : w.cell? ⟨U, 0, none⟩ = some (askV B)) :
    Calls Try.prog 46 #[.int .i64 a, .int .i64 b, .pointer (some ⟨U, 0, none⟩)] w fun e w' => e = .returned (.bool ((!(g b).testBit a && !(g a).testBit b))) ∧ w = w' := by
  have HH : Hid (Held w B n ar len cap (fun k => (g k : Nat))) := hH
  have HG : Hid (∀ k, k < len → g k < 1024) := hg
  clear hH hg
  unfold askV at hU
  obtain ⟨v0, hv0⟩ : ∃ v, (g b).testBit a = v := ⟨_, rfl⟩
  obtain ⟨v1, hv1⟩ : ∃ v, (g a).testBit b = v := ⟨_, rfl⟩
  simp only [hv0, hv1]
  have C0 : ∀ w', w = w' → Calls Try.prog 58 #[.int .i64 a, .int .i64 b, .pointer (some ⟨B, 0, none⟩)] w' fun e w'' => e = .returned (.bool v0) ∧ w' = w'' := fun w' h => by subst h; exact ask1_as B n ar len cap g a b v0 w hv0 h10 HG.out ha hb HH.out
  have C1 : ∀ w', w = w' → Calls Try.prog 58 #[.int .i64 b, .int .i64 a, .pointer (some ⟨B, 0, none⟩)] w' fun e w'' => e = .returned (.bool v1) ∧ w' = w'' := fun w' h => by subst h; exact ask1_as B n ar len cap g b a v1 w hv1 h10 HG.out hb ha HH.out
  clear hv0 hv1 HH HG
  rcases v0 with _ | _ <;> rcases v1 with _ | _
  all_goals
    go_enter Try.func46, Try.ntmps46
    go_wp2_with fail
    repeat (first | (refine (C0 _ rfl).mono ?_; clear C0; rintro e w' ⟨rfl, rfl⟩; go_wp2_with fail) | (refine (C1 _ rfl).mono ?_; clear C1; rintro e w' ⟨rfl, rfl⟩; go_wp2_with fail))
    go_ret
    exact ⟨rfl, rfl⟩
end Go.Proofs.Ytkknfnjhpamfbaa
