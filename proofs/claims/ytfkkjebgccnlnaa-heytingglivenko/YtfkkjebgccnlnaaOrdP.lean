/-
  What order.Check and the small functions of package sets that it calls answer. Conditions: as each theorem says.
-/
import Derived.Test.YtfkkjebgccnlnaaMake
namespace Go.Proofs.Ytfkkjebgccnlnaa
set_option maxRecDepth 100000
open Go.RowKit

theorem has_any (s p : Nat) (w : World) (hs : s < 9223372036854775808) (hp : p < 63) :
    Calls Try.prog 22 #[.int .i64 s, .int .i64 p] w fun e w' => e = .returned (.bool (s.testBit p)) ∧ w = w' := by
  have h := bit_and_one s p hs
  go_enter Try.func22, Try.ntmps22
  go_wp2
  go_ret
  exact ⟨rfl, rfl⟩
theorem all_any (n : Nat) (w : World) (hn : n ≤ 10) :
    Calls Try.prog 40 #[.int .i64 n] w fun e w' => e = .returned (.int .i64 ((pw n : Nat) - 1 : Int)) ∧ w = w' := by
  have h := wrap_pow n (by omega)
  have h2 := pw_small n (by omega)
  go_enter Try.func40, Try.ntmps40
  go_wp2
  go_ret
  exact ⟨rfl, rfl⟩
theorem isCount_any (n : Int) (w : World) :
    Calls Try.prog 29 #[.int .i64 n] w fun e w' => e = .returned (.bool (cnt n)) ∧ w = w' := by
  by_cases h0 : 0 ≤ n
  · by_cases h1 : n ≤ 10
    · go_enter Try.func29, Try.ntmps29
      go_wp2
      go_ret
      exact ⟨ret_bool (by simp [cnt, h0, h1]), rfl⟩
    · go_enter Try.func29, Try.ntmps29
      go_wp2
      go_ret
      exact ⟨ret_bool (by simp [cnt, h1]), rfl⟩
  · have h0' : decide (0 ≤ n) = false := by simp; omega
    go_enter Try.func29, Try.ntmps29
    go_wp2
    go_ret
    exact ⟨ret_bool (by simp [cnt]; omega), rfl⟩
theorem isSet_any (s : Int) (n : Nat) (w : World) (hn : n ≤ 10) :
    Calls Try.prog 30 #[.int .i64 s, .int .i64 n] w fun e w' => e = .returned (.bool (sts s n)) ∧ w = w' := by
  by_cases h0 : 0 ≤ s
  · by_cases h1 : s ≤ ((pw n : Nat) - 1 : Int)
    · go_enter Try.func30, Try.ntmps30
      go_wp2_with (go_at_call 40; refine (all_any n _ hn).mono ?_; rintro e w' ⟨rfl, rfl⟩)
      go_ret
      exact ⟨ret_bool (by simp [sts, h0]; omega), rfl⟩
    · go_enter Try.func30, Try.ntmps30
      go_wp2_with (go_at_call 40; refine (all_any n _ hn).mono ?_; rintro e w' ⟨rfl, rfl⟩)
      go_ret
      exact ⟨ret_bool (by simp [sts, h0]; omega), rfl⟩
  · have h0' : decide (0 ≤ s) = false := by simp; omega
    go_enter Try.func30, Try.ntmps30
    go_wp2
    go_ret
    exact ⟨ret_bool (by simp [sts]; omega), rfl⟩
theorem isOrdered_any (n : Nat) (g : Nat → Nat) (a : Option Addr) (cap : Nat) (w : World) (hn : n ≤ 10) (hg : ∀ k, k < n → g k < 1024) (hr : Row w a n (fun k => (g k : Nat))) :
    Calls Try.prog 31 #[.slice a n cap] w fun e w' => Ans e (Ord n g) ∧ w = w' := by
  have HG := (show Hid (∀ k, k < n → g k < 1024) from hg)
  have HR := (show Hid (Row w a n (fun k => (g k : Nat))) from hr)
  clear hg hr
  go_enter Try.func31, Try.ntmps31
  go_wp2
  go_loop [9] (fun i => ∃ k : Nat, k ≤ n ∧ i = .int .i64 k ∧ Hid (∀ u, u < k → OrdAt n g u)) (fun i => n - (intOf i).toNat)
  case atStart => exact ⟨0, Nat.zero_le _, rfl, upto_zero⟩
  case round =>
    obtain ⟨k, hk, rfl, hok⟩ := hrel
    by_cases hlt : k < n
    · obtain ⟨b, off, rfl, hc⟩ := HR.out.at hlt
      have hgk := HG.out k hlt
      have hck := hc k hlt
      have HC := (show Hid (∀ j, j < n → w.cell? ⟨b, off + j, none⟩ = some (.int .i64 (g j : Nat))) from hc)
      clear hc
      by_cases hs : (g k).testBit k = true
      · go_wp2_with (go_at_call 22; refine (has_any _ _ _ (by omega) (by omega)).mono ?_; rintro e w' ⟨rfl, rfl⟩)
        go_ret
        exact ⟨Ans.no (fun h => by have := (h k hlt).1; rw [hs] at this; cases this), rfl⟩
      · have hs' : (g k).testBit k = false := by simpa using hs
        clear hs
        go_wp2_with (go_at_call 22; refine (has_any _ _ _ (by omega) (by omega)).mono ?_; rintro e w' ⟨rfl, rfl⟩)
        go_loop [19] (fun i => ∃ p : Nat, p ≤ n ∧ i = .int .i64 p ∧ Hid (∀ q, q < p → (g k).testBit q = true → lack (g q) (g k) = 0)) (fun i => n - (intOf i).toNat)
        case atStart => exact ⟨0, Nat.zero_le _, rfl, upto_zero⟩
        case round =>
          obtain ⟨p, hp, rfl, hin⟩ := hrel
          by_cases hpl : p < n
          · have hcp := HC.out p hpl
            have hgp := HG.out p hpl
            have hand := i64_andNot (g p) (g k) (by omega) (by omega)
            by_cases ht : (g k).testBit p = true
            · by_cases hz : lack (g p) (g k) = 0
              · have hz' : (((lack (g p) (g k) : Nat) : Int) != 0) = false := by simp [hz]
                have HZ := (show Hid _ from hz); clear hz
                go_wp2_with (go_at_call 22; refine (has_any _ _ _ (by omega) (by omega)).mono ?_; rintro e w' ⟨rfl, rfl⟩)
                go_round
                case rel => exact ⟨p + 1, by omega, by go_num, upto_succ hin.out (fun _ => HZ.out)⟩
                case measure => simp [intOf]; omega
              · have hz' : (((lack (g p) (g k) : Nat) : Int) != 0) = true := by simp; exact hz
                go_wp2_with (go_at_call 22; refine (has_any _ _ _ (by omega) (by omega)).mono ?_; rintro e w' ⟨rfl, rfl⟩)
                go_ret
                exact ⟨Ans.no (fun h => hz ((h k hlt).2 p hpl ht)), rfl⟩
            · have ht' : (g k).testBit p = false := by simpa using ht
              clear ht
              go_wp2_with (go_at_call 22; refine (has_any _ _ _ (by omega) (by omega)).mono ?_; rintro e w' ⟨rfl, rfl⟩)
              go_round
              case rel => exact ⟨p + 1, by omega, by go_num, upto_succ hin.out (fun hb => by rw [ht'] at hb; cases hb)⟩
              case measure => simp [intOf]; omega
          · have hpn : p = n := by omega
            subst hpn
            go_wp2
            go_round
            case rel => exact ⟨k + 1, by omega, by go_num, upto_succ hok.out ⟨hs', hin.out⟩⟩
            case measure => simp [intOf]; omega
    · have hkn : k = n := by omega
      subst hkn
      go_wp2
      go_ret
      exact ⟨Ans.yes hok.out, rfl⟩
theorem check_any (n : Int) (a : Option Addr) (len cap : Nat) (f : Nat → Int) (w : World) (hl : len ≤ maxLen) (hr : Row w a len f) :
    Calls Try.prog 20 #[.agg #[.int .i64 n, .slice a len cap]] w fun e w' => (∃ c : Int, e = .returned (.int .i64 c) ∧ Chk n len f c) ∧ Below w.heap.size w w' := by
  unfold maxLen at hl
  have HR := (show Hid (Row w a len f) from hr)
  clear hr
  have hB : ∀ o, Below w.heap.size w (w.alloc o) := fun o => (Below.refl _ _).alloc (Nat.le_refl _) o
  have HB := (show Hid _ from hB)
  clear hB
  by_cases hn : 0 ≤ n ∧ n ≤ 10
  · obtain ⟨m, rfl⟩ := Int.eq_ofNat_of_zero_le hn.1
    have hm : m ≤ 10 := by omega
    by_cases hlen : len = m
    · subst hlen
      have hd : cnt (len : Int) = true := by simpa [cnt] using hn
      clear hn
      go_enter Try.func20, Try.ntmps20
      go_wp2_with (go_at_call 29; refine (isCount_any _ _).mono ?_; rintro e w' ⟨rfl, rfl⟩)
      go_loop [18] (fun i => ∃ k : Nat, k ≤ len ∧ i = .int .i64 k ∧ Hid (∀ j, j < k → 0 ≤ f j ∧ f j < (pw len : Nat))) (fun i => len - (intOf i).toNat)
      case atStart => exact ⟨0, Nat.zero_le _, rfl, upto_zero⟩
      case round =>
        obtain ⟨k, hk, rfl, hok⟩ := hrel
        by_cases hlt : k < len
        · obtain ⟨b, off, rfl, hc⟩ := HR.out.at hlt
          have hck := hc k hlt
          have hbk : b < w.heap.size := World.block_lt_of_cell? _ _ hck
          clear hc
          by_cases hs : 0 ≤ f k ∧ f k < (pw len : Nat)
          · have hsd : sts (f k) len = true := by simpa [sts] using hs
            have HS := (show Hid _ from hs); clear hs
            go_wp2_with (go_at_call 30; refine (isSet_any _ _ _ hm).mono ?_; rintro e w' ⟨rfl, rfl⟩)
            go_round
            case rel => exact ⟨k + 1, by omega, by go_num, upto_succ hok.out HS.out⟩
            case measure => simp [intOf]; omega
          · have hsd : sts (f k) len = false := by simpa [sts] using hs
            have HS := (show Hid _ from hs); clear hs
            go_wp2_with (go_at_call 30; refine (isSet_any _ _ _ hm).mono ?_; rintro e w' ⟨rfl, rfl⟩)
            go_ret
            exact ⟨⟨_, rfl, .inr ⟨len, rfl, hm, .inr ⟨rfl, .inl ⟨rfl, fun h => HS.out (h k hlt)⟩⟩⟩⟩, HB.out _⟩
        · have hkn : k = len := by omega
          subst hkn
          have hg : ∀ j, j < k → f j = (nat f j : Nat) := fun j hj => by have := hok.out j hj; unfold nat; omega
          have hp := pw_le k hm
          have hg2 : ∀ j, j < k → nat f j < 1024 := fun j hj => by have := hok.out j hj; unfold nat; omega
          have hrow : ∀ o, Row (w.alloc o) a k (fun j => (nat f j : Nat)) := fun o j hj => by
            have := HR.out.below (HB.out o) j hj
            rw [hg j hj] at this; exact this
          have HG := (show Hid _ from hg); clear hg
          have HG2 := (show Hid _ from hg2); clear hg2
          have HW := (show Hid _ from hrow); clear hrow
          go_wp2_with fail
          refine (isOrdered_any k (nat f) a cap _ hm HG2.out (HW.out _)).mono ?_
          rintro e w' ⟨⟨b, rfl, hb⟩, rfl⟩
          cases b
          · have HN : Hid (¬ Ord k (nat f)) := fun h => by have := hb.2 h; cases this
            clear hb
            go_wp2
            go_ret
            exact ⟨⟨_, rfl, .inr ⟨k, rfl, hm, .inr ⟨rfl, .inr ⟨hok.out, .inl ⟨rfl, HN.out⟩⟩⟩⟩⟩, HB.out _⟩
          · have HN : Hid (Ord k (nat f)) := hb.1 rfl
            clear hb
            go_wp2
            go_ret
            exact ⟨⟨_, rfl, .inr ⟨k, rfl, hm, .inr ⟨rfl, .inr ⟨hok.out, .inr ⟨rfl, HN.out⟩⟩⟩⟩⟩, HB.out _⟩
    · have hd : cnt (m : Int) = true := by simpa [cnt] using hn
      have hne : ((len : Int) != (m : Int)) = true := by simp; omega
      clear hn
      go_enter Try.func20, Try.ntmps20
      go_wp2_with (go_at_call 29; refine (isCount_any _ _).mono ?_; rintro e w' ⟨rfl, rfl⟩)
      go_ret
      exact ⟨⟨_, rfl, .inr ⟨m, rfl, hm, .inl ⟨rfl, hlen⟩⟩⟩, HB.out _⟩
  · have hd : cnt n = false := by simpa [cnt] using hn
    have HN := (show Hid _ from hn); clear hn
    go_enter Try.func20, Try.ntmps20
    go_wp2_with (go_at_call 29; refine (isCount_any _ _).mono ?_; rintro e w' ⟨rfl, rfl⟩)
    go_ret
    exact ⟨⟨_, rfl, .inl ⟨rfl, HN.out⟩⟩, HB.out _⟩
end Go.Proofs.Ytfkkjebgccnlnaa
