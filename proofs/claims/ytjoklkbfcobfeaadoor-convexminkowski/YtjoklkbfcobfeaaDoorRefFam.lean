/-
  What the reference's CheckFamily answers, whatever it is handed. No condition but that a slice reads as a slice of numbers.
-/
import Derived.Test.YtjoklkbfcobfeaaDoorFam
namespace Go.Proofs.YtjoklkbfcobfeaaDoor
open Go.RowKit

set_option maxHeartbeats 1000000 in
theorem checkFamily_any (n : Int) (a : Option Addr) (len cap : Nat) (f : Nat → Int) (w : World) (hl : len ≤ maxLen) (hr : Row w a len f) :
    Calls Tryd.prog 9 #[.agg #[.int .i64 n, .slice a len cap]] w fun e w' => (∃ c : Int, e = .returned (.int .i64 c) ∧ FChk n len f c) ∧ Below w.heap.size w w' := by
  unfold maxLen at hl
  have HR : Hid (Row w a len f) := hr
  clear hr
  have HB : Hid (∀ o, Below w.heap.size w (w.alloc o)) := fun o => (Below.refl _ _).alloc (Nat.le_refl _) o
  by_cases h0 : n < 0
  · have hd : decide (n < 0) = true := by simpa using h0
    go_enter Tryd.func9, Tryd.ntmps9
    go_wp2
    go_ret
    exact ⟨⟨_, rfl, .inl ⟨rfl, by omega⟩⟩, HB.out _⟩
  by_cases h1 : 10 < n
  · have hd : decide (n < 0) = false := by simpa using h0
    go_enter Tryd.func9, Tryd.ntmps9
    go_wp2
    go_ret
    exact ⟨⟨_, rfl, .inl ⟨rfl, by omega⟩⟩, HB.out _⟩
  obtain ⟨m, rfl⟩ := Int.eq_ofNat_of_zero_le (show 0 ≤ n by omega)
  have hm : m ≤ 10 := by omega
  clear h0 h1
  go_enter Tryd.func9, Tryd.ntmps9
  go_wp2
  have H0 : Held (w.alloc (.cells #[.int .i64 (m : Int), .slice a len cap] 24)) w.heap.size m a len cap f := Fam.box HR.out
  go_loopw [3] (fun i wr => ∃ k : Nat, k ≤ len ∧ i = .int .i64 k ∧ Hid (∀ j, j < k → 0 ≤ f j ∧ f j < (pw m : Nat)) ∧ Held wr w.heap.size m a len cap f ∧ Hid (Below w.heap.size w wr)) (fun i _ => len - (intOf i).toNat)
  case atStart => exact ⟨0, Nat.zero_le _, rfl, upto_zero, H0, HB.out _⟩
  case round =>
    obtain ⟨k, hk, rfl, hok, hH, hBw⟩ := hrel
    clear H0
    have c0 := hH.c0
    have c1 := hH.c1
    by_cases hlt : k < len
    · obtain ⟨b, off, rfl, hc⟩ := hH.row.at hlt
      have hck := hc k hlt
      clear hc
      have hlt' : (k : Int) < (len : Int) := by omega
      by_cases hs : f k < 0
      · have hsd : decide (f k < 0) = true := by simpa using hs
        go_wp2
        go_quiet (fail)
        go_wp2
        go_ret
        exact ⟨⟨_, rfl, .inr ⟨m, rfl, hm, .inl ⟨rfl, fun h => by have := (h k hlt).1; omega⟩⟩⟩, below_drewN hBw.out _⟩
      · have hsd : decide (f k < 0) = false := by simpa using hs
        by_cases hs2 : (pw m : Nat) ≤ f k
        · have hsd2 : decide (((pw m : Nat) : Int) ≤ f k) = true := by simpa using hs2
          go_wp2
          go_quiet ((go_at_call 31; exact Calls.quiet_of_same (bit_quiet _ _ (by omega))))
          go_wp2
          go_ret
          exact ⟨⟨_, rfl, .inr ⟨m, rfl, hm, .inl ⟨rfl, fun h => by have := (h k hlt).2; omega⟩⟩⟩, below_drewN hBw.out _⟩
        · have hsd2 : decide (((pw m : Nat) : Int) ≤ f k) = false := by simpa using hs2
          go_wp2
          go_quiet ((go_at_call 31; exact Calls.quiet_of_same (bit_quiet _ _ (by omega))))
          go_wp2
          go_roundw
          case rel => exact ⟨k + 1, by omega, by go_num, upto_succ hok.out ⟨by omega, by omega⟩, hH.step (below_drewN (Below.refl _ _) _), below_drewN hBw.out _⟩
          case measure => simp [intOf]; omega
    · obtain rfl : k = len := by omega
      have HIN : Hid (FIn m k f) := hok.out
      have HH : Hid (Held wr w.heap.size m a k cap f) := hH
      clear hok HB HR hH
      go_wp2_with fail
      go_loopw [4] (fun i wy => ∃ x : Nat, 1 ≤ x ∧ i = .int .i64 x ∧ Hid (∀ j, j < x → j < k → 0 < j → f (j - 1) < f j) ∧ Hid (Held wy w.heap.size m a k cap f) ∧ Hid (Below w.heap.size w wy)) (fun i _ => k - (intOf i).toNat)
      case atStart => exact ⟨1, Nat.le_refl _, rfl, fun j h1 h2 h3 => by omega, HH.out, hBw.out⟩
      case round =>
        clear HH hBw c0 c1
        obtain ⟨x, hx, rfl, hok, HH, hBw⟩ := hrel
        have c0 := HH.out.c0
        have c1 := HH.out.c1
        by_cases hlt2 : x < k
        · obtain ⟨y, rfl⟩ : ∃ y, x = y + 1 := ⟨x - 1, by omega⟩
          obtain ⟨b, off, rfl, hc⟩ := HH.out.row.at hlt2
          have hc1 : wr.cell? ⟨b, off + (y + 1), none⟩ = some (.int .i64 (f (y + 1))) := hc (y + 1) hlt2
          have hc0 : wr.cell? ⟨b, off + y, none⟩ = some (.int .i64 (f y)) := hc y (by omega)
          have hm1 : ((y + 1 : Nat) : Int) - 1 = (y : Int) := by omega
          have hm2 : (y : Int) < (k : Int) := by omega
          have hm3 : ((y + 1 : Nat) : Int) < (k : Int) := by omega
          clear hc
          by_cases hr : f y < f (y + 1)
          · have HS : Hid (∀ j, j < y + 1 + 1 → j < k → 0 < j → f (j - 1) < f j) := fun j h1 h2 h3 => by
              by_cases e : j = y + 1
              · subst e; exact hr
              · exact hok.out j (by omega) h2 h3
            have hr2 : ¬ f (y + 1) ≤ f y := by omega
            clear hok
            go_wp2_with fail
            go_big_quiet (fail)
            go_wp2_with fail
            go_roundw
            case rel => exact ⟨y + 1 + 1, by omega, by go_num, HS, HH.out.step (below_drewN (Below.refl _ _) _), below_drewN hBw.out _⟩
            case measure => simp [intOf]; omega
          · have hr2 : f (y + 1) ≤ f y := by omega
            have HS : Hid (¬ Ris k f) := fun h => hr (h (y + 1) hlt2 (by omega))
            clear hok
            go_wp2_with fail
            go_big_quiet (fail)
            go_wp2_with fail
            go_ret
            exact ⟨⟨_, rfl, .inr ⟨m, rfl, hm, .inr ⟨HIN.out, .inl ⟨rfl, HS.out⟩⟩⟩⟩, below_drewN hBw.out _⟩
        · have HS : Hid (Ris k f) := fun j h1 h2 => hok.out j (by omega) h1 h2
          have hge : ((k : Nat) : Int) ≤ (x : Int) := by omega
          clear hok
          go_wp2_with fail
          go_ret
          exact ⟨⟨_, rfl, .inr ⟨m, rfl, hm, .inr ⟨HIN.out, .inr ⟨rfl, HS.out⟩⟩⟩⟩, hBw.out⟩
end Go.Proofs.YtjoklkbfcobfeaaDoor
