/-
  What span.Three$2 answers. Conditions: at most ten points.
-/
import Derived.Test.YtkknfnjhpamfbaaFour
namespace Go.Proofs.Ytkknfnjhpamfbaa
open Go.RowKit

/-- The function that asks whether two points know nothing of one another, over the box U. -/
def strV (U : Nat) : Value := .func (.func 46) #[] #[.pointer (some ⟨U, 0, none⟩)]
set_option maxHeartbeats 1000000 in
theorem three2_any (B U T : Nat) (n : Int) (ar : Option Addr) (len cap : Nat) (g : Nat → Nat) (a b c d : Nat) (w : World) (h10 : len ≤ 10) (hg : ∀ k, k < len → g k < 1024) (ha : a < len) (hb : b < len) (hc : c < len) (hd : d < len) (hH : Held w B n ar len cap (fun k => (g k : Nat))) (hU : w.cell? ⟨U, 0, none⟩ = some (askV B)) (hT : w.cell? ⟨T, 0, none⟩ = some (strV U)) :
    Calls Try.prog 47 #[.int .i64 a, .int .i64 b, .int .i64 c, .int .i64 d, .pointer (some ⟨U, 0, none⟩), .pointer (some ⟨T, 0, none⟩)] w fun e w' => e = .returned (.bool (threeP g a b c d)) ∧ w = w' := by
  have HH : Hid (Held w B n ar len cap (fun k => (g k : Nat))) := hH
  have HG : Hid (∀ k, k < len → g k < 1024) := hg
  have HU : Hid (w.cell? ⟨U, 0, none⟩ = some (askV B)) := hU
  clear hH hg
  unfold threeP
  obtain ⟨v0, hv0⟩ : ∃ v, (g b).testBit a = v := ⟨_, rfl⟩
  obtain ⟨v1, hv1⟩ : ∃ v, (g c).testBit b = v := ⟨_, rfl⟩
  obtain ⟨v2, hv2⟩ : ∃ v, apB g d a = v := ⟨_, rfl⟩
  obtain ⟨v3, hv3⟩ : ∃ v, apB g d b = v := ⟨_, rfl⟩
  obtain ⟨v4, hv4⟩ : ∃ v, apB g d c = v := ⟨_, rfl⟩
  rw [hv0, hv1, hv2, hv3, hv4]
  have C0 : Calls Try.prog 58 #[.int .i64 a, .int .i64 b, .pointer (some ⟨B, 0, none⟩)] w fun e w'' => e = .returned (.bool v0) ∧ w = w'' := ask1_as B n ar len cap g a b v0 w hv0 h10 HG.out ha hb HH.out
  have C1 : Calls Try.prog 58 #[.int .i64 b, .int .i64 c, .pointer (some ⟨B, 0, none⟩)] w fun e w'' => e = .returned (.bool v1) ∧ w = w'' := ask1_as B n ar len cap g b c v1 w hv1 h10 HG.out hb hc HH.out
  have C2 : Calls Try.prog 46 #[.int .i64 d, .int .i64 a, .pointer (some ⟨U, 0, none⟩)] w fun e w'' => e = .returned (.bool v2) ∧ w = w'' := by
    rw [← hv2]; exact three1_any B U n ar len cap g d a w h10 HG.out hd ha HH.out HU.out
  have C3 : Calls Try.prog 46 #[.int .i64 d, .int .i64 b, .pointer (some ⟨U, 0, none⟩)] w fun e w'' => e = .returned (.bool v3) ∧ w = w'' := by
    rw [← hv3]; exact three1_any B U n ar len cap g d b w h10 HG.out hd hb HH.out HU.out
  have C4 : Calls Try.prog 46 #[.int .i64 d, .int .i64 c, .pointer (some ⟨U, 0, none⟩)] w fun e w'' => e = .returned (.bool v4) ∧ w = w'' := by
    rw [← hv4]; exact three1_any B U n ar len cap g d c w h10 HG.out hd hc HH.out HU.out
  clear hv0 hv1 hv2 hv3 hv4 HH HG HU
  unfold askV at hU
  unfold strV at hT
  rcases v0 with _ | _
  · go_enter Try.func47, Try.ntmps47
    go_wp2_with fail
    refine C0.mono ?_
    rintro e w' ⟨rfl, rfl⟩
    clear C0
    go_wp2_with fail
    go_ret
    exact ⟨by simp, rfl⟩
  · skip
    rcases v1 with _ | _
    · go_enter Try.func47, Try.ntmps47
      go_wp2_with fail
      refine C0.mono ?_
      rintro e w' ⟨rfl, rfl⟩
      clear C0
      go_wp2_with fail
      refine C1.mono ?_
      rintro e w' ⟨rfl, rfl⟩
      clear C1
      go_wp2_with fail
      go_ret
      exact ⟨by simp, rfl⟩
    · skip
      rcases v2 with _ | _
      · go_enter Try.func47, Try.ntmps47
        go_wp2_with fail
        refine C0.mono ?_
        rintro e w' ⟨rfl, rfl⟩
        clear C0
        go_wp2_with fail
        refine C1.mono ?_
        rintro e w' ⟨rfl, rfl⟩
        clear C1
        go_wp2_with fail
        refine C2.mono ?_
        rintro e w' ⟨rfl, rfl⟩
        clear C2
        go_wp2_with fail
        go_ret
        exact ⟨by simp, rfl⟩
      · skip
        rcases v3 with _ | _
        · go_enter Try.func47, Try.ntmps47
          go_wp2_with fail
          refine C0.mono ?_
          rintro e w' ⟨rfl, rfl⟩
          clear C0
          go_wp2_with fail
          refine C1.mono ?_
          rintro e w' ⟨rfl, rfl⟩
          clear C1
          go_wp2_with fail
          refine C2.mono ?_
          rintro e w' ⟨rfl, rfl⟩
          clear C2
          go_wp2_with fail
          refine C3.mono ?_
          rintro e w' ⟨rfl, rfl⟩
          clear C3
          go_wp2_with fail
          go_ret
          exact ⟨by simp, rfl⟩
        · skip
          rcases v4 with _ | _
          · go_enter Try.func47, Try.ntmps47
            go_wp2_with fail
            refine C0.mono ?_
            rintro e w' ⟨rfl, rfl⟩
            clear C0
            go_wp2_with fail
            refine C1.mono ?_
            rintro e w' ⟨rfl, rfl⟩
            clear C1
            go_wp2_with fail
            refine C2.mono ?_
            rintro e w' ⟨rfl, rfl⟩
            clear C2
            go_wp2_with fail
            refine C3.mono ?_
            rintro e w' ⟨rfl, rfl⟩
            clear C3
            go_wp2_with fail
            refine C4.mono ?_
            rintro e w' ⟨rfl, rfl⟩
            clear C4
            go_wp2_with fail
            go_ret
            exact ⟨by simp, rfl⟩
          · go_enter Try.func47, Try.ntmps47
            go_wp2_with fail
            refine C0.mono ?_
            rintro e w' ⟨rfl, rfl⟩
            clear C0
            go_wp2_with fail
            refine C1.mono ?_
            rintro e w' ⟨rfl, rfl⟩
            clear C1
            go_wp2_with fail
            refine C2.mono ?_
            rintro e w' ⟨rfl, rfl⟩
            clear C2
            go_wp2_with fail
            refine C3.mono ?_
            rintro e w' ⟨rfl, rfl⟩
            clear C3
            go_wp2_with fail
            refine C4.mono ?_
            rintro e w' ⟨rfl, rfl⟩
            clear C4
            go_wp2_with fail
            go_ret
            exact ⟨by simp, rfl⟩
end Go.Proofs.Ytkknfnjhpamfbaa
