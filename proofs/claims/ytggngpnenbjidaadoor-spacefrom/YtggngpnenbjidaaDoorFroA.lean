/-
  What the reference's CheckFamily and SameOrder and hasselaw.given answer. Conditions: slices read as slices of numbers.
-/
import Derived.Deep.RegionHeld3
import Derived.Test.YtggngpnenbjidaaDoorFroQ
import Derived.Test.YtggngpnenbjidaaDoorOpnL
namespace Go.Proofs.YtggngpnenbjidaaDoor
set_option maxRecDepth 100000
open Go.RowKit

theorem Fam.box {w : World} {n : Int} {a : Option Addr} {len cap : Nat} {f : Nat → Int} (h : Row w a len f) : Held (w.alloc (.cells #[.int .i64 n, .slice a len cap] 37)) w.heap.size n a len cap f :=
  ⟨by simp, by simp, h.below ((Below.refl _ _).alloc (Nat.le_refl _) _)⟩
set_option maxHeartbeats 1000000 in
theorem checkFamily_any (n : Int) (a : Option Addr) (len cap : Nat) (f : Nat → Int) (w : World) (hl : len ≤ maxLen) (hr : Row w a len f) :
    Calls Tryd.prog 15 #[.agg #[.int .i64 n, .slice a len cap]] w fun e w' => (∃ c : Int, e = .returned (.int .i64 c) ∧ FChk n len f c) ∧ Below w.heap.size w w' := by
  unfold maxLen at hl
  have HR : Hid (Row w a len f) := hr
  clear hr
  have HB : Hid (∀ o, Below w.heap.size w (w.alloc o)) := fun o => (Below.refl _ _).alloc (Nat.le_refl _) o
  by_cases h0 : n < 0
  · have hd : decide (n < 0) = true := by simpa using h0
    go_enter Tryd.func15, Tryd.ntmps15
    go_wp2
    go_ret
    exact ⟨⟨_, rfl, .inl ⟨rfl, by omega⟩⟩, HB.out _⟩
  by_cases h1 : 10 < n
  · have hd : decide (n < 0) = false := by simpa using h0
    go_enter Tryd.func15, Tryd.ntmps15
    go_wp2
    go_ret
    exact ⟨⟨_, rfl, .inl ⟨rfl, by omega⟩⟩, HB.out _⟩
  obtain ⟨m, rfl⟩ := Int.eq_ofNat_of_zero_le (show 0 ≤ n by omega)
  have hm : m ≤ 10 := by omega
  clear h0 h1
  go_enter Tryd.func15, Tryd.ntmps15
  go_wp2
  have H0 : Held (w.alloc (.cells #[.int .i64 (m : Int), .slice a len cap] 37)) w.heap.size m a len cap f := Fam.box HR.out
  go_loopw [3] (fun i wr => ∃ k : Nat, k ≤ len ∧ i = .int .i64 k ∧ Hid (∀ j, j < k → 0 ≤ f j ∧ f j < (pw m : Nat)) ∧ Held wr w.heap.size m a len cap f ∧ Hid (Below w.heap.size w wr)) (fun i _ => len - (intOf i).toNat)
  case atStart => exact ⟨0, Nat.zero_le _, rfl, upto_zero, H0, HB.out _⟩
  case round =>
    obtain ⟨k, hk, rfl, hok, hH, hBw⟩ := hrel
    clear H0
    have c0 := hH.c0
    have c1 := hH.c1
    by_cases hlt : k < len
    · obtain ⟨b, off, rfl, hc⟩ := hH.row.at hlt
      have hck := hc k hlt
      clear hc
      have hlt' : (k : Int) < (len : Int) := by omega
      by_cases hs : f k < 0
      · have hsd : decide (f k < 0) = true := by simpa using hs
        go_wp2
        go_quiet (fail)
        go_wp2
        go_ret
        exact ⟨⟨_, rfl, .inr ⟨m, rfl, hm, .inl ⟨rfl, fun h => by have := (h k hlt).1; omega⟩⟩⟩, below_drewN hBw.out _⟩
      · have hsd : decide (f k < 0) = false := by simpa using hs
        by_cases hs2 : (pw m : Nat) ≤ f k
        · have hsd2 : decide (((pw m : Nat) : Int) ≤ f k) = true := by simpa using hs2
          go_wp2
          go_quiet ((go_at_call 21; exact Calls.quiet_of_same (bit_quiet _ _ (by omega))))
          go_wp2
          go_ret
          exact ⟨⟨_, rfl, .inr ⟨m, rfl, hm, .inl ⟨rfl, fun h => by have := (h k hlt).2; omega⟩⟩⟩, below_drewN hBw.out _⟩
        · have hsd2 : decide (((pw m : Nat) : Int) ≤ f k) = false := by simpa using hs2
          go_wp2
          go_quiet ((go_at_call 21; exact Calls.quiet_of_same (bit_quiet _ _ (by omega))))
          go_wp2
          go_roundw
          case rel => exact ⟨k + 1, by omega, by go_num, upto_succ hok.out ⟨by omega, by omega⟩, hH.step (below_drewN (Below.refl _ _) _), below_drewN hBw.out _⟩
          case measure => simp [intOf]; omega
    · obtain rfl : k = len := by omega
      have HIN : Hid (FIn m k f) := hok.out
      have HH : Hid (Held wr w.heap.size m a k cap f) := hH
      clear hok HB HR hH
      go_wp2_with fail
      go_loopw [4] (fun i wy => ∃ x : Nat, 1 ≤ x ∧ i = .int .i64 x ∧ Hid (∀ j, j < x → j < k → 0 < j → f (j - 1) < f j) ∧ Hid (Held wy w.heap.size m a k cap f) ∧ Hid (Below w.heap.size w wy)) (fun i _ => k - (intOf i).toNat)
      case atStart => exact ⟨1, Nat.le_refl _, rfl, fun j h1 h2 h3 => by omega, HH.out, hBw.out⟩
      case round =>
        clear HH hBw c0 c1
        obtain ⟨x, hx, rfl, hok, HH, hBw⟩ := hrel
        have c0 := HH.out.c0
        have c1 := HH.out.c1
        by_cases hlt2 : x < k
        · obtain ⟨y, rfl⟩ : ∃ y, x = y + 1 := ⟨x - 1, by omega⟩
          obtain ⟨b, off, rfl, hc⟩ := HH.out.row.at hlt2
          have hc1 : wr.cell? ⟨b, off + (y + 1), none⟩ = some (.int .i64 (f (y + 1))) := hc (y + 1) hlt2
          have hc0 : wr.cell? ⟨b, off + y, none⟩ = some (.int .i64 (f y)) := hc y (by omega)
          have hm1 : ((y + 1 : Nat) : Int) - 1 = (y : Int) := by omega
          have hm2 : (y : Int) < (k : Int) := by omega
          have hm3 : ((y + 1 : Nat) : Int) < (k : Int) := by omega
          clear hc
          by_cases hr : f y < f (y + 1)
          · have HS : Hid (∀ j, j < y + 1 + 1 → j < k → 0 < j → f (j - 1) < f j) := fun j h1 h2 h3 => by
              by_cases e : j = y + 1
              · subst e; exact hr
              · exact hok.out j (by omega) h2 h3
            have hr2 : ¬ f (y + 1) ≤ f y := by omega
            clear hok
            go_wp2_with fail
            go_big_quiet (fail)
            go_wp2_with fail
            go_roundw
            case rel => exact ⟨y + 1 + 1, by omega, by go_num, HS, HH.out.step (below_drewN (Below.refl _ _) _), below_drewN hBw.out _⟩
            case measure => simp [intOf]; omega
          · have hr2 : f (y + 1) ≤ f y := by omega
            have HS : Hid (¬ Ris k f) := fun h => hr (h (y + 1) hlt2 (by omega))
            clear hok
            go_wp2_with fail
            go_big_quiet (fail)
            go_wp2_with fail
            go_ret
            exact ⟨⟨_, rfl, .inr ⟨m, rfl, hm, .inr ⟨HIN.out, .inl ⟨rfl, HS.out⟩⟩⟩⟩, below_drewN hBw.out _⟩
        · have HS : Hid (Ris k f) := fun j h1 h2 => hok.out j (by omega) h1 h2
          have hge : ((k : Nat) : Int) ≤ (x : Int) := by omega
          clear hok
          go_wp2_with fail
          go_ret
          exact ⟨⟨_, rfl, .inr ⟨m, rfl, hm, .inr ⟨HIN.out, .inr ⟨rfl, HS.out⟩⟩⟩⟩, hBw.out⟩
theorem sameOrder_any (n n' : Int) (a b : Option Addr) (la ca lb cb : Nat) (f g : Nat → Int) (w : World) (hl : la ≤ maxLen) (hl2 : lb ≤ maxLen) (ha : Row w a la f) (hb : Row w b lb g) :
    Calls Tryd.prog 45 #[.agg #[.int .i64 n, .slice a la ca], .agg #[.int .i64 n', .slice b lb cb]] w fun e w' => Ans e (SameOrders n n' la lb f g) ∧ Below w.heap.size w w' := by
  have HB2 : Hid (Below w.heap.size w ((w.alloc (.cells #[.int .i64 n, .slice a la ca] 24)).alloc (.cells #[.int .i64 n', .slice b lb cb] 24))) := ((Below.refl _ _).alloc (Nat.le_refl _) _).alloc (by simp) _
  have HA : Hid (Row w a la f) := ha
  have HB : Hid (Row w b lb g) := hb
  clear ha hb
  by_cases hn : n = n'
  · subst hn
    go_enter Tryd.func45, Tryd.ntmps45
    go_wp2_with fail
    refine (same_any a b la ca lb cb f g _ hl hl2 (HA.out.below HB2.out) (HB.out.below HB2.out)).mono ?_
    rintro e w1 ⟨⟨b, rfl, hb⟩, hB⟩
    have HBE : Hid (Below w.heap.size w w1) := Below.then HB2.out hB
    have HY : Hid (b = true ↔ SameRows la lb f g) := hb
    clear hB hb HB2
    go_wp2_with fail
    go_ret
    exact ⟨⟨_, rfl, HY.out.trans ⟨fun h => ⟨rfl, h⟩, fun h => h.2⟩⟩, HBE.out⟩
  · have hd : (n == n') = false := by simpa using hn
    have HN : Hid (¬ n = n') := hn
    clear hn
    go_enter Tryd.func45, Tryd.ntmps45
    go_wp2_with fail
    go_ret
    exact ⟨Ans.no (fun h => HN.out h.1), HB2.out⟩
theorem given_any (c n : Int) (len : Nat) (F : Nat → Int) (x y : Value) (w : World) (hl : len ≤ maxLen) (hx : OrdErr c n len F x w) (hy : OrdErr c n len F y w ∨ (c ≠ 0 ∧ ∃ n' a len' cap', y = .agg #[.int .i64 n', .slice a len' cap'])) :
    Calls Tryd.prog 17 #[x, .int .i64 c, .int .i64 c, y] w fun e w' => e = .returned (.bool true) ∧ Below w.heap.size w w' := by
  have HBE : Hid (∀ o1 o2 : Obj, Below w.heap.size w ((w.alloc o1).alloc o2)) := fun o1 o2 => ((Below.refl _ _).alloc (Nat.le_refl _) _).alloc (by simp) _
  by_cases hc : c = 0
  · subst hc
    rcases hx with ⟨h, _⟩ | ⟨_, a, cap, rfl, hr⟩
    · exact absurd rfl h
    rcases hy with (⟨h, _⟩ | ⟨_, b, cap', rfl, hr'⟩) | ⟨h, _⟩
    · exact absurd rfl h
    · have HA : Hid (Row w a len F) := hr
      have HB : Hid (Row w b len F) := hr'
      clear hr hr'
      go_enter Tryd.func17, Tryd.ntmps17
      go_wp2_with fail
      refine (sameOrder_any n n a b len cap len cap' F F _ hl hl (HA.out.below (HBE.out _ _)) (HB.out.below (HBE.out _ _))).mono ?_
      rintro e w1 ⟨⟨q, rfl, hq⟩, hB⟩
      obtain rfl : q = true := hq.2 ⟨rfl, rfl, fun _ _ => rfl⟩
      have HB2 : Hid (Below w.heap.size w w1) := Below.then (HBE.out _ _) hB
      clear hq hB HBE
      go_wp2_with fail
      go_ret
      exact ⟨rfl, HB2.out⟩
    · exact absurd rfl h
  · have hne : (c != 0) = true := by simpa using hc
    rcases hx with ⟨_, rfl⟩ | ⟨h, _⟩
    · obtain ⟨n', b, len', cap', rfl⟩ : ∃ n' b len' cap', y = .agg #[.int .i64 n', .slice b len' cap'] := by
        rcases hy with (⟨_, rfl⟩ | ⟨h, _⟩) | ⟨_, h⟩
        · exact ⟨0, none, 0, 0, rfl⟩
        · exact absurd h hc
        · exact h
      clear hy hc
      unfold noOrder
      go_enter Tryd.func17, Tryd.ntmps17
      go_wp2_with fail
      refine (sameOrder_any 0 0 none none 0 0 0 0 (fun _ => 0) (fun _ => 0) _ (by unfold maxLen; omega) (by unfold maxLen; omega) (fun k hk => absurd hk (Nat.not_lt_zero _)) (fun k hk => absurd hk (Nat.not_lt_zero _))).mono ?_
      rintro e w1 ⟨⟨q, rfl, hq⟩, hB⟩
      obtain rfl : q = true := hq.2 ⟨rfl, rfl, fun _ _ => rfl⟩
      have HB2 : Hid (Below w.heap.size w w1) := Below.then (HBE.out _ _) hB
      clear hq hB HBE
      go_wp2_with fail
      go_ret
      exact ⟨rfl, HB2.out⟩
    · exact absurd h hc
end Go.Proofs.YtggngpnenbjidaaDoor
