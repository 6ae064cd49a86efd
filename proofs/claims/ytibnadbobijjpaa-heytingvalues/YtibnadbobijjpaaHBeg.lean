/-
  What order.Check and the small functions of package sets that it calls answer. Conditions: as each theorem says.
  What heyting.Forces answers of an order of one point, and of a variable. Conditions: as each theorem says.
  hasselaw.heytingBegun answers true. No condition.
-/
import Derived.Test.YtibnadbobijjpaaCheck
import Derived.Test.YtibnadbobijjpaaGal0
import Derived.Test.YtibnadbobijjpaaRegP
namespace Go.Proofs.Ytibnadbobijjpaa
set_option maxRecDepth 100000
open Go.RowKit

theorem has_any (s p : Nat) (w : World) (hs : s < 9223372036854775808) (hp : p < 63) :
    Calls Try.prog 36 #[.int .i64 s, .int .i64 p] w fun e w' => e = .returned (.bool (s.testBit p)) ∧ w = w' := by
  have h := bit_and_one s p hs
  go_enter Try.func36, Try.ntmps36
  go_wp2
  go_ret
  exact ⟨rfl, rfl⟩
theorem all_any (n : Nat) (w : World) (hn : n ≤ 10) :
    Calls Try.prog 57 #[.int .i64 n] w fun e w' => e = .returned (.int .i64 ((pw n : Nat) - 1 : Int)) ∧ w = w' := by
  have h := wrap_pow n (by omega)
  have h2 := pw_small n (by omega)
  go_enter Try.func57, Try.ntmps57
  go_wp2
  go_ret
  exact ⟨rfl, rfl⟩
theorem isCount_any (n : Int) (w : World) :
    Calls Try.prog 43 #[.int .i64 n] w fun e w' => e = .returned (.bool (cnt n)) ∧ w = w' := by
  by_cases h0 : 0 ≤ n
  · by_cases h1 : n ≤ 10
    · go_enter Try.func43, Try.ntmps43
      go_wp2
      go_ret
      exact ⟨ret_bool (by simp [cnt, h0, h1]), rfl⟩
    · go_enter Try.func43, Try.ntmps43
      go_wp2
      go_ret
      exact ⟨ret_bool (by simp [cnt, h1]), rfl⟩
  · have h0' : decide (0 ≤ n) = false := by simp; omega
    go_enter Try.func43, Try.ntmps43
    go_wp2
    go_ret
    exact ⟨ret_bool (by simp [cnt]; omega), rfl⟩
theorem isSet_any (s : Int) (n : Nat) (w : World) (hn : n ≤ 10) :
    Calls Try.prog 44 #[.int .i64 s, .int .i64 n] w fun e w' => e = .returned (.bool (sts s n)) ∧ w = w' := by
  by_cases h0 : 0 ≤ s
  · by_cases h1 : s ≤ ((pw n : Nat) - 1 : Int)
    · go_enter Try.func44, Try.ntmps44
      go_wp2_with (go_at_call 57; refine (all_any n _ hn).mono ?_; rintro e w' ⟨rfl, rfl⟩)
      go_ret
      exact ⟨ret_bool (by simp [sts, h0]; omega), rfl⟩
    · go_enter Try.func44, Try.ntmps44
      go_wp2_with (go_at_call 57; refine (all_any n _ hn).mono ?_; rintro e w' ⟨rfl, rfl⟩)
      go_ret
      exact ⟨ret_bool (by simp [sts, h0]; omega), rfl⟩
  · have h0' : decide (0 ≤ s) = false := by simp; omega
    go_enter Try.func44, Try.ntmps44
    go_wp2
    go_ret
    exact ⟨ret_bool (by simp [sts]; omega), rfl⟩
theorem isOrdered_any (n : Nat) (g : Nat → Nat) (a : Option Addr) (cap : Nat) (w : World) (hn : n ≤ 10) (hg : ∀ k, k < n → g k < 1024) (hr : Row w a n (fun k => (g k : Nat))) :
    Calls Try.prog 45 #[.slice a n cap] w fun e w' => Ans e (Ord n g) ∧ w = w' := by
  have HG := (show Hid (∀ k, k < n → g k < 1024) from hg)
  have HR := (show Hid (Row w a n (fun k => (g k : Nat))) from hr)
  clear hg hr
  go_enter Try.func45, Try.ntmps45
  go_wp2
  go_loop [9] (fun i => ∃ k : Nat, k ≤ n ∧ i = .int .i64 k ∧ Hid (∀ u, u < k → OrdAt n g u)) (fun i => n - (intOf i).toNat)
  case atStart => exact ⟨0, Nat.zero_le _, rfl, upto_zero⟩
  case round =>
    obtain ⟨k, hk, rfl, hok⟩ := hrel
    by_cases hlt : k < n
    · obtain ⟨b, off, rfl, hc⟩ := HR.out.at hlt
      have hgk := HG.out k hlt
      have hck := hc k hlt
      have HC := (show Hid (∀ j, j < n → w.cell? ⟨b, off + j, none⟩ = some (.int .i64 (g j : Nat))) from hc)
      clear hc
      by_cases hs : (g k).testBit k = true
      · go_wp2_with (go_at_call 36; refine (has_any _ _ _ (by omega) (by omega)).mono ?_; rintro e w' ⟨rfl, rfl⟩)
        go_ret
        exact ⟨Ans.no (fun h => by have := (h k hlt).1; rw [hs] at this; cases this), rfl⟩
      · have hs' : (g k).testBit k = false := by simpa using hs
        clear hs
        go_wp2_with (go_at_call 36; refine (has_any _ _ _ (by omega) (by omega)).mono ?_; rintro e w' ⟨rfl, rfl⟩)
        go_loop [19] (fun i => ∃ p : Nat, p ≤ n ∧ i = .int .i64 p ∧ Hid (∀ q, q < p → (g k).testBit q = true → lack (g q) (g k) = 0)) (fun i => n - (intOf i).toNat)
        case atStart => exact ⟨0, Nat.zero_le _, rfl, upto_zero⟩
        case round =>
          obtain ⟨p, hp, rfl, hin⟩ := hrel
          by_cases hpl : p < n
          · have hcp := HC.out p hpl
            have hgp := HG.out p hpl
            have hand := i64_andNot (g p) (g k) (by omega) (by omega)
            by_cases ht : (g k).testBit p = true
            · by_cases hz : lack (g p) (g k) = 0
              · have hz' : (((lack (g p) (g k) : Nat) : Int) != 0) = false := by simp [hz]
                have HZ := (show Hid _ from hz); clear hz
                go_wp2_with (go_at_call 36; refine (has_any _ _ _ (by omega) (by omega)).mono ?_; rintro e w' ⟨rfl, rfl⟩)
                go_round
                case rel => exact ⟨p + 1, by omega, by go_num, upto_succ hin.out (fun _ => HZ.out)⟩
                case measure => simp [intOf]; omega
              · have hz' : (((lack (g p) (g k) : Nat) : Int) != 0) = true := by simp; exact hz
                go_wp2_with (go_at_call 36; refine (has_any _ _ _ (by omega) (by omega)).mono ?_; rintro e w' ⟨rfl, rfl⟩)
                go_ret
                exact ⟨Ans.no (fun h => hz ((h k hlt).2 p hpl ht)), rfl⟩
            · have ht' : (g k).testBit p = false := by simpa using ht
              clear ht
              go_wp2_with (go_at_call 36; refine (has_any _ _ _ (by omega) (by omega)).mono ?_; rintro e w' ⟨rfl, rfl⟩)
              go_round
              case rel => exact ⟨p + 1, by omega, by go_num, upto_succ hin.out (fun hb => by rw [ht'] at hb; cases hb)⟩
              case measure => simp [intOf]; omega
          · have hpn : p = n := by omega
            subst hpn
            go_wp2
            go_round
            case rel => exact ⟨k + 1, by omega, by go_num, upto_succ hok.out ⟨hs', hin.out⟩⟩
            case measure => simp [intOf]; omega
    · have hkn : k = n := by omega
      subst hkn
      go_wp2
      go_ret
      exact ⟨Ans.yes hok.out, rfl⟩
theorem check_any (n : Int) (a : Option Addr) (len cap : Nat) (f : Nat → Int) (w : World) (hl : len ≤ maxLen) (hr : Row w a len f) :
    Calls Try.prog 34 #[.agg #[.int .i64 n, .slice a len cap]] w fun e w' => (∃ c : Int, e = .returned (.int .i64 c) ∧ Chk n len f c) ∧ Below w.heap.size w w' := by
  unfold maxLen at hl
  have HR := (show Hid (Row w a len f) from hr)
  clear hr
  have hB : ∀ o, Below w.heap.size w (w.alloc o) := fun o => (Below.refl _ _).alloc (Nat.le_refl _) o
  have HB := (show Hid _ from hB)
  clear hB
  by_cases hn : 0 ≤ n ∧ n ≤ 10
  · obtain ⟨m, rfl⟩ := Int.eq_ofNat_of_zero_le hn.1
    have hm : m ≤ 10 := by omega
    by_cases hlen : len = m
    · subst hlen
      have hd : cnt (len : Int) = true := by simpa [cnt] using hn
      clear hn
      go_enter Try.func34, Try.ntmps34
      go_wp2_with (go_at_call 43; refine (isCount_any _ _).mono ?_; rintro e w' ⟨rfl, rfl⟩)
      go_loop [18] (fun i => ∃ k : Nat, k ≤ len ∧ i = .int .i64 k ∧ Hid (∀ j, j < k → 0 ≤ f j ∧ f j < (pw len : Nat))) (fun i => len - (intOf i).toNat)
      case atStart => exact ⟨0, Nat.zero_le _, rfl, upto_zero⟩
      case round =>
        obtain ⟨k, hk, rfl, hok⟩ := hrel
        by_cases hlt : k < len
        · obtain ⟨b, off, rfl, hc⟩ := HR.out.at hlt
          have hck := hc k hlt
          have hbk : b < w.heap.size := World.block_lt_of_cell? _ _ hck
          clear hc
          by_cases hs : 0 ≤ f k ∧ f k < (pw len : Nat)
          · have hsd : sts (f k) len = true := by simpa [sts] using hs
            have HS := (show Hid _ from hs); clear hs
            go_wp2_with (go_at_call 44; refine (isSet_any _ _ _ hm).mono ?_; rintro e w' ⟨rfl, rfl⟩)
            go_round
            case rel => exact ⟨k + 1, by omega, by go_num, upto_succ hok.out HS.out⟩
            case measure => simp [intOf]; omega
          · have hsd : sts (f k) len = false := by simpa [sts] using hs
            have HS := (show Hid _ from hs); clear hs
            go_wp2_with (go_at_call 44; refine (isSet_any _ _ _ hm).mono ?_; rintro e w' ⟨rfl, rfl⟩)
            go_ret
            exact ⟨⟨_, rfl, .inr ⟨len, rfl, hm, .inr ⟨rfl, .inl ⟨rfl, fun h => HS.out (h k hlt)⟩⟩⟩⟩, HB.out _⟩
        · have hkn : k = len := by omega
          subst hkn
          have hg : ∀ j, j < k → f j = (nat f j : Nat) := fun j hj => by have := hok.out j hj; unfold nat; omega
          have hp := pw_le k hm
          have hg2 : ∀ j, j < k → nat f j < 1024 := fun j hj => by have := hok.out j hj; unfold nat; omega
          have hrow : ∀ o, Row (w.alloc o) a k (fun j => (nat f j : Nat)) := fun o j hj => by
            have := HR.out.below (HB.out o) j hj
            rw [hg j hj] at this; exact this
          have HG := (show Hid _ from hg); clear hg
          have HG2 := (show Hid _ from hg2); clear hg2
          have HW := (show Hid _ from hrow); clear hrow
          go_wp2_with fail
          refine (isOrdered_any k (nat f) a cap _ hm HG2.out (HW.out _)).mono ?_
          rintro e w' ⟨⟨b, rfl, hb⟩, rfl⟩
          cases b
          · have HN : Hid (¬ Ord k (nat f)) := fun h => by have := hb.2 h; cases this
            clear hb
            go_wp2
            go_ret
            exact ⟨⟨_, rfl, .inr ⟨k, rfl, hm, .inr ⟨rfl, .inr ⟨hok.out, .inl ⟨rfl, HN.out⟩⟩⟩⟩⟩, HB.out _⟩
          · have HN : Hid (Ord k (nat f)) := hb.1 rfl
            clear hb
            go_wp2
            go_ret
            exact ⟨⟨_, rfl, .inr ⟨k, rfl, hm, .inr ⟨rfl, .inr ⟨hok.out, .inr ⟨rfl, HN.out⟩⟩⟩⟩⟩, HB.out _⟩
    · have hd : cnt (m : Int) = true := by simpa [cnt] using hn
      have hne : ((len : Int) != (m : Int)) = true := by simp; omega
      clear hn
      go_enter Try.func34, Try.ntmps34
      go_wp2_with (go_at_call 43; refine (isCount_any _ _).mono ?_; rintro e w' ⟨rfl, rfl⟩)
      go_ret
      exact ⟨⟨_, rfl, .inr ⟨m, rfl, hm, .inl ⟨rfl, hlen⟩⟩⟩, HB.out _⟩
  · have hd : cnt n = false := by simpa [cnt] using hn
    have HN := (show Hid _ from hn); clear hn
    go_enter Try.func34, Try.ntmps34
    go_wp2_with (go_at_call 43; refine (isCount_any _ _).mono ?_; rintro e w' ⟨rfl, rfl⟩)
    go_ret
    exact ⟨⟨_, rfl, .inl ⟨rfl, HN.out⟩⟩, HB.out _⟩
end Go.Proofs.Ytibnadbobijjpaa
namespace Go.Proofs.Ytibnadbobijjpaa
set_option maxRecDepth 100000
open Go.RowKit

set_option maxHeartbeats 1000000 in
theorem leftOf_var (w : World) :
    Calls Try.prog 26 #[.int .i64 30, .agg #[.int .i64 2, .int .i64 0, .slice none 0 0]] w fun e w' => e = .returned (.int .i64 29) ∧ Below w.heap.size w w' := by
  have HB : Hid (Below w.heap.size w (w.alloc (.cells #[.int .i64 2, .int .i64 0, .slice none 0 0] 27))) := (Below.refl _ _).alloc (Nat.le_refl _) _
  go_enter Try.func26, Try.ntmps26
  go_wp2_with fail
  go_loopw [0, 12] (fun z i wx => z = .int .i64 29 ∧ i = .int .i64 0 ∧ Hid (Below w.heap.size w wx)) (fun _ _ _ => 0)
  case atStart => exact ⟨rfl, rfl, HB.out⟩
  case round =>
    clear HB
    obtain ⟨rfl, rfl, HW⟩ := hrel
    go_wp2_with fail
    go_ret
    exact ⟨rfl, HW.out⟩
set_option maxHeartbeats 1000000 in
theorem checkForm_var (w : World) :
    Calls Try.prog 27 #[.agg #[.int .i64 2, .int .i64 0, .slice none 0 0]] w fun e w' => e = .returned (.int .i64 0) ∧ Below w.heap.size w w' := by
  have HB : Hid (Below w.heap.size w (w.alloc (.cells #[.int .i64 2, .int .i64 0, .slice none 0 0] 27))) := (Below.refl _ _).alloc (Nat.le_refl _) _
  have hp : pnt 0 3 = true := rfl
  go_enter Try.func27, Try.ntmps27
  go_wp2_with (go_at_call 28; refine (isPoint_any _ _ _).mono ?_; rintro e w' ⟨rfl, hww⟩; subst hww)
  go_loopw [31] (fun i wx => i = .int .i64 0 ∧ Hid (Below w.heap.size w wx)) (fun _ _ => 0)
  case atStart => exact ⟨rfl, HB.out⟩
  case round =>
    clear HB
    obtain ⟨rfl, HW⟩ := hrel
    go_wp2_with fail
    go_ret
    exact ⟨rfl, HW.out⟩
set_option maxHeartbeats 1000000 in
theorem hCheck_var (w : World) :
    Calls Try.prog 12 #[.agg #[.int .i64 2, .int .i64 0, .slice none 0 0]] w fun e w' => e = .returned (.int .i64 0) ∧ Below w.heap.size w w' := by
  have HB : Hid (Below w.heap.size w (w.alloc (.cells #[.int .i64 2, .int .i64 0, .slice none 0 0] 27))) := (Below.refl _ _).alloc (Nat.le_refl _) _
  have c0 : (w.alloc (.cells #[.int .i64 2, .int .i64 0, .slice none 0 0] 27)).cell? ⟨w.heap.size, 0, none⟩ = some (.int .i64 2) := by simp
  have c1 : (w.alloc (.cells #[.int .i64 2, .int .i64 0, .slice none 0 0] 27)).cell? ⟨w.heap.size, 1, none⟩ = some (.int .i64 0) := by simp
  have c2 : (w.alloc (.cells #[.int .i64 2, .int .i64 0, .slice none 0 0] 27)).cell? ⟨w.heap.size, 2, none⟩ = some (.slice none 0 0) := by simp
  go_enter Try.func12, Try.ntmps12
  go_wp2_with fail
  refine (leftOf_var _).mono ?_
  rintro e w1 ⟨rfl, hb1⟩
  have d0 := cell_step hb1 c0
  have d1 := cell_step hb1 c1
  have d2 := cell_step hb1 c2
  have HB1 : Hid (Below w.heap.size w w1) := Below.then HB.out hb1
  clear hb1 HB c0 c1 c2
  go_wp2_with fail
  refine (checkForm_var _).mono ?_
  rintro e w2 ⟨rfl, hb2⟩
  have HB2 : Hid (Below w.heap.size w w2) := Below.then HB1.out hb2
  clear hb2 HB1 d0 d1 d2
  go_wp2_with fail
  go_ret
  exact ⟨rfl, HB2.out⟩
/-- What a slice of three sets holds. -/
def f100 (k : Nat) : Int := if k = 0 then 1 else 0
theorem f100_in : ∀ k : Nat, k < 3 → 0 ≤ f100 k ∧ f100 k < 2 := fun k _ => by unfold f100; split <;> decide
set_option maxHeartbeats 1000000 in
theorem goesUp_one (b s : Nat) (w : World) (hs : s < 9223372036854775808) (hc : w.cell? ⟨b, 0, none⟩ = some (.int .i64 0)) :
    Calls Try.prog 46 #[.agg #[.int .i64 1, .slice (some ⟨b, 0, none⟩) 1 1], .int .i64 (s : Nat)] w fun e w' => e = .returned (.bool true) ∧ Below w.heap.size w w' := by
  have B : Below w.heap.size w (w.alloc (.cells #[.int .i64 1, .slice (some ⟨b, 0, none⟩) 1 1] 56)) := (Below.refl _ _).alloc (Nat.le_refl _) _
  have HB : Hid (Below w.heap.size w (w.alloc (.cells #[.int .i64 1, .slice (some ⟨b, 0, none⟩) 1 1] 56))) := B
  have hand : bits .and .i64 0 (s : Int) = 0 := by
    have := i64_and 0 s (by omega) hs
    simpa using this
  have HC : Hid (∀ wx, Below w.heap.size w wx → wx.cell? ⟨b, 0, none⟩ = some (.int .i64 0)) := fun wx h => cell_step h hc
  clear B hc
  go_enter Try.func46, Try.ntmps46
  go_wp2_with fail
  go_loopw [10] (fun i wx => ∃ k : Nat, k ≤ 1 ∧ i = .int .i64 k ∧ Hid (Below w.heap.size w wx)) (fun i _ => 1 - (intOf i).toNat)
  case atStart => exact ⟨0, Nat.zero_le _, rfl, HB.out⟩
  case round =>
    clear HB
    obtain ⟨k, hk, rfl, HW⟩ := hrel
    rcases (by omega : k = 0 ∨ k = 1) with rfl | rfl
    · have c0 := HC.out _ HW.out
      go_wp2_with fail
      go_roundw
      case rel => exact ⟨1, by omega, by go_num, HW.out⟩
      case measure => simp [intOf]
    · go_wp2_with fail
      go_ret
      exact ⟨rfl, HW.out⟩
set_option maxHeartbeats 2000000 in
theorem checkSets_one (b c : Nat) (w : World) (hb : w.cell? ⟨b, 0, none⟩ = some (.int .i64 0)) (hc : Row w (some ⟨c, 0, none⟩) 3 f100) :
    Calls Try.prog 35 #[.agg #[.int .i64 1, .slice (some ⟨b, 0, none⟩) 1 1], .slice (some ⟨c, 0, none⟩) 3 3, .int .i64 0] w fun e w' => e = .returned (.int .i64 0) ∧ Below w.heap.size w w' := by
  have B : Below w.heap.size w (w.alloc (.cells #[.int .i64 1, .slice (some ⟨b, 0, none⟩) 1 1] 56)) := (Below.refl _ _).alloc (Nat.le_refl _) _
  have HB : Hid (Below w.heap.size w (w.alloc (.cells #[.int .i64 1, .slice (some ⟨b, 0, none⟩) 1 1] 56))) := B
  have HF : Hid (MA.In ⟨some ⟨c, 0, none⟩, 3, 3, f100⟩ (w.alloc (.cells #[.int .i64 1, .slice (some ⟨b, 0, none⟩) 1 1] 56))) := ⟨by unfold maxLen; simp only; omega, hc.below B⟩
  have HC : Hid (∀ wx, Below w.heap.size w wx → wx.cell? ⟨b, 0, none⟩ = some (.int .i64 0)) := fun wx h => cell_step h hb
  have HR : Hid (∀ wx, Below w.heap.size w wx → Row wx (some ⟨c, 0, none⟩) 3 f100) := fun wx h => hc.below h
  have HO : Hid (∀ wx, Below w.heap.size w wx ∧ (wx.cell? ⟨w.heap.size, 0, none⟩ = some (.int .i64 1) ∧ wx.cell? ⟨w.heap.size, 1, none⟩ = some (.slice (some ⟨b, 0, none⟩) 1 1)) → ∀ wy, Below wx.heap.size wx wy → Below w.heap.size w wy ∧ (wy.cell? ⟨w.heap.size, 0, none⟩ = some (.int .i64 1) ∧ wy.cell? ⟨w.heap.size, 1, none⟩ = some (.slice (some ⟨b, 0, none⟩) 1 1))) :=
    fun wx h wy hy => ⟨Below.then h.1 hy, cell_step hy h.2.1, cell_step hy h.2.2⟩
  have c0 : (w.alloc (.cells #[.int .i64 1, .slice (some ⟨b, 0, none⟩) 1 1] 56)).cell? ⟨w.heap.size, 0, none⟩ = some (.int .i64 1) := by simp
  have c1 : (w.alloc (.cells #[.int .i64 1, .slice (some ⟨b, 0, none⟩) 1 1] 56)).cell? ⟨w.heap.size, 1, none⟩ = some (.slice (some ⟨b, 0, none⟩) 1 1) := by simp
  have hp : pnt 0 1 = true := rfl
  clear B hb hc
  go_enter Try.func35, Try.ntmps35
  go_wp2_with fail
  refine (checkMap_any ⟨some ⟨c, 0, none⟩, 3, 3, f100⟩ _ _ _ HF.out).mono ?_
  rintro e w1 ⟨⟨r, rfl, hr⟩, rfl⟩
  obtain rfl : r = 0 := by
    rcases hr with ⟨_, h⟩ | ⟨_, ⟨_, h⟩ | ⟨h, _⟩⟩
    · exact absurd rfl h
    · exact absurd f100_in h
    · exact h
  clear hr HF
  go_wp2_with (go_at_call 28; refine (isPoint_any _ _ _).mono ?_; rintro e w' ⟨rfl, hww⟩; subst hww)
  go_loopw [25] (fun i wx => ∃ k : Nat, k ≤ 3 ∧ i = .int .i64 k ∧ Hid (Below w.heap.size w wx ∧ (wx.cell? ⟨w.heap.size, 0, none⟩ = some (.int .i64 1) ∧ wx.cell? ⟨w.heap.size, 1, none⟩ = some (.slice (some ⟨b, 0, none⟩) 1 1)))) (fun i _ => 3 - (intOf i).toNat)
  case atStart => exact ⟨0, Nat.zero_le _, rfl, HB.out, c0, c1⟩
  case round =>
    clear HB c0 c1
    obtain ⟨k, hk, rfl, HW⟩ := hrel
    by_cases hlt : k < 3
    · have d0 := HW.out.2.1
      have d1 := HW.out.2.2
      obtain ⟨s, hs, hcs⟩ : ∃ s : Nat, s < 2 ∧ wr.cell? ⟨c, k, none⟩ = some (.int .i64 (s : Nat)) := by
        obtain ⟨b2, o2, e2, h2⟩ := HR.out _ HW.out.1 k hlt
        cases e2
        rw [Nat.zero_add] at h2
        rw [h2]
        unfold f100
        split
        · exact ⟨1, by omega, rfl⟩
        · exact ⟨0, by omega, rfl⟩
      have HG : Hid _ := goesUp_one b s wr (by omega) (HC.out _ HW.out.1)
      go_wp2_with fail
      refine (Calls.mono HG.out) ?_
      rintro e w5 ⟨rfl, hb5⟩
      have HW5 : Hid _ := HO.out _ HW.out _ hb5
      clear hb5 HG HW d0 d1 hcs
      go_wp2_with fail
      go_roundw
      case rel => exact ⟨k + 1, by omega, by go_num, HW5.out⟩
      case measure => simp [intOf]; omega
    · obtain rfl : k = 3 := by omega
      go_wp2_with fail
      go_ret
      exact ⟨rfl, HW.out.1⟩
set_option maxHeartbeats 1000000 in
theorem value_var (c : Nat) (f : Value) (w : World) (hc : w.cell? ⟨c, 0, none⟩ = some (.int .i64 1)) :
    Calls Try.prog 14 #[f, .agg #[.int .i64 2, .int .i64 0, .slice none 0 0], .slice (some ⟨c, 0, none⟩) 3 3] w fun e w' => e = .returned (.int .i64 1) ∧ Below w.heap.size w w' := by
  have B : Below w.heap.size w (w.alloc (.cells #[.int .i64 2, .int .i64 0, .slice none 0 0] 27)) := (Below.refl _ _).alloc (Nat.le_refl _) _
  have HB : Hid (Below w.heap.size w (w.alloc (.cells #[.int .i64 2, .int .i64 0, .slice none 0 0] 27))) := B
  have d0 := cell_step B hc
  clear B hc
  go_enter Try.func14, Try.ntmps14
  go_wp2_with fail
  go_ret
  exact ⟨rfl, HB.out⟩
theorem chk_one {len : Nat} {f : Nat → Int} {c : Int} (h : Chk 1 len f c) (hl : len = 1) (hf : f 0 = 0) : c = 0 := by
  refine Chk.unique h (.inr ⟨1, rfl, by omega, .inr ⟨hl, .inr ⟨?_, .inr ⟨rfl, ?_⟩⟩⟩⟩)
  · intro k hk
    obtain rfl : k = 0 := by omega
    rw [hf]; exact ⟨Int.le_refl _, by decide⟩
  · intro u hu
    obtain rfl : u = 0 := by omega
    have e : nat f 0 = 0 := by unfold nat; rw [hf]; rfl
    refine ⟨by rw [e]; rfl, fun p _ h => ?_⟩
    rw [e] at h
    simp at h
end Go.Proofs.Ytibnadbobijjpaa
namespace Go.Proofs.Ytibnadbobijjpaa
set_option maxRecDepth 100000
open Go.RowKit

/-- The two variables that Forces lays its order and its formula in. -/
def FB (w : World) (B b : Nat) : Prop := (w.cell? ⟨B, 0, none⟩ = some (.int .i64 1) ∧ w.cell? ⟨B, 1, none⟩ = some (.slice (some ⟨b, 0, none⟩) 1 1)) ∧ w.cell? ⟨B + 1, 0, none⟩ = some (.int .i64 2) ∧ w.cell? ⟨B + 1, 1, none⟩ = some (.int .i64 0) ∧ w.cell? ⟨B + 1, 2, none⟩ = some (.slice none 0 0)
theorem FB.step {w w' : World} {B b : Nat} (h : FB w B b) (hb : Below w.heap.size w w') : FB w' B b := ⟨⟨cell_step hb h.1.1, cell_step hb h.1.2⟩, cell_step hb h.2.1, cell_step hb h.2.2.1, cell_step hb h.2.2.2⟩
theorem row1 {w : World} {b : Nat} (h : w.cell? ⟨b, 0, none⟩ = some (.int .i64 0)) : Row w (some ⟨b, 0, none⟩) 1 (fun _ => 0) := fun k hk => by
  obtain rfl : k = 0 := by omega
  exact ⟨b, 0, rfl, h⟩
set_option maxHeartbeats 2000000 in
theorem forces_one (b c : Nat) (w : World) (hb : w.cell? ⟨b, 0, none⟩ = some (.int .i64 0)) (hc : Row w (some ⟨c, 0, none⟩) 3 f100) :
    Calls Try.prog 24 #[.agg #[.int .i64 1, .slice (some ⟨b, 0, none⟩) 1 1], .slice (some ⟨c, 0, none⟩) 3 3, .int .i64 0, .agg #[.int .i64 2, .int .i64 0, .slice none 0 0]] w fun e w' => e = .returned (.tuple #[.bool true, .int .i64 0]) ∧ Below w.heap.size w w' := by
  obtain ⟨W, hW⟩ : ∃ W, W = (w.alloc (.cells #[.int .i64 1, .slice (some ⟨b, 0, none⟩) 1 1] 56)).alloc (.cells #[.int .i64 2, .int .i64 0, .slice none 0 0] 27) := ⟨_, rfl⟩
  have B : Below w.heap.size w W := by rw [hW]; exact ((Below.refl _ _).alloc (Nat.le_refl _) _).alloc (by simp) _
  have HF : Hid (FB W w.heap.size b) := by rw [hW]; exact ⟨⟨by simp, by simp⟩, by simp, by simp, by simp⟩
  have HB : Hid (Below w.heap.size w W) := B
  have HW : Hid (W = (w.alloc (.cells #[.int .i64 1, .slice (some ⟨b, 0, none⟩) 1 1] 56)).alloc (.cells #[.int .i64 2, .int .i64 0, .slice none 0 0] 27)) := hW
  have HC : Hid (∀ wx, Below w.heap.size w wx → wx.cell? ⟨b, 0, none⟩ = some (.int .i64 0)) := fun wx h => cell_step h hb
  have HR : Hid (∀ wx, Below w.heap.size w wx → Row wx (some ⟨c, 0, none⟩) 3 f100) := fun wx h => hc.below h
  clear B hb hc hW
  go_enter Try.func24, Try.ntmps24
  go_wp2_with fail
  rw [← HW.out]
  clear HW
  refine (check_any 1 (some ⟨b, 0, none⟩) 1 1 (fun _ => 0) W (by unfold maxLen; omega) (row1 (HC.out _ HB.out))).mono ?_
  rintro e w1 ⟨⟨r, rfl, hr⟩, hb1⟩
  obtain rfl : r = 0 := chk_one hr rfl rfl
  have HB1 : Hid (Below w.heap.size w w1) := Below.then HB.out hb1
  have HF1 : Hid (FB w1 w.heap.size b) := HF.out.step hb1
  obtain ⟨⟨o0, o1⟩, p0, p1, p2⟩ := HF1.out
  clear hr hb1 HB HF
  go_wp2_with fail
  refine (hCheck_var _).mono ?_
  rintro e w2 ⟨rfl, hb2⟩
  have HB2 : Hid (Below w.heap.size w w2) := Below.then HB1.out hb2
  have HF2 : Hid (FB w2 w.heap.size b) := HF1.out.step hb2
  clear hb2 HB1 HF1 o0 o1 p0 p1 p2
  obtain ⟨⟨o0, o1⟩, p0, p1, p2⟩ := HF2.out
  go_wp2_with fail
  refine (checkSets_one b c _ (HC.out _ HB2.out) (HR.out _ HB2.out)).mono ?_
  rintro e w3 ⟨rfl, hb3⟩
  have HB3 : Hid (Below w.heap.size w w3) := Below.then HB2.out hb3
  have HF3 : Hid (FB w3 w.heap.size b) := HF2.out.step hb3
  clear hb3 HB2 HF2 o0 o1 p0 p1 p2
  obtain ⟨⟨o0, o1⟩, p0, p1, p2⟩ := HF3.out
  have HV : Hid (w3.cell? ⟨c, 0, none⟩ = some (.int .i64 1)) := by
    obtain ⟨b2, o2, e2, h2⟩ := HR.out _ HB3.out 0 (by omega)
    cases e2
    exact h2
  go_wp2_with fail
  refine (value_var c _ _ HV.out).mono ?_
  rintro e w4 ⟨rfl, hb4⟩
  have HB4 : Hid (Below w.heap.size w w4) := Below.then HB3.out hb4
  clear hb4 HB3 HF3 o0 o1 p0 p1 p2 HV
  go_wp2_with fail
  refine (has_any 1 0 _ (by omega) (by omega)).mono ?_
  rintro e w5 ⟨rfl, hw5⟩
  subst w5
  go_wp2_with fail
  go_ret2
  exact ⟨rfl, HB4.out⟩
theorem pair_la {x : Value} {w : World} (h : PairIs x w) : ∃ A : LA, A.v = x ∧ A.In w ∧ A.Ck 0 ∧ A.q = 2 ∧ A.n = 2 ∧ A.m = (fun x y => min x y) ∧ A.j = fun x y => max x y := by
  obtain ⟨b, b', R, R', rfl, h1, h2⟩ := h
  refine ⟨⟨2, some ⟨b, 0, none⟩, 2, 2, _, _, some ⟨b', 0, none⟩, 2, 2, _, _⟩, rfl, ⟨show 2 ≤ maxLen by unfold maxLen; omega, show 2 ≤ maxLen by unfold maxLen; omega, h1.rr (by unfold maxLen; omega), h2.rr (by unfold maxLen; omega)⟩, ?_, rfl, rfl, nat2_cast _, nat2_cast _⟩
  exact LCk.of (n := 2) (by omega) (by omega) (fun _ _ => rfl) (fun _ _ => rfl) lat2
theorem dis2 : All3 2 (disB (fun x y => min x y) (fun x y => max x y)) := by
  intro x y z hx hy hz
  rcases (by omega : x = 0 ∨ x = 1) with rfl | rfl <;> rcases (by omega : y = 0 ∨ y = 1) with rfl | rfl <;> rcases (by omega : z = 0 ∨ z = 1) with rfl | rfl <;> rfl
theorem pair_h {A : LA} (h0 : A.Ck 0) (hq : A.q = 2) (hm : A.m = fun x y => min x y) (hj : A.j = fun x y => max x y) : HCk A 0 := .inr ⟨h0, .inr ⟨rfl, by rw [hq, hm, hj]; exact dis2⟩⟩
theorem pair_i {A : LA} {x y v c : Int} (h0 : A.Ck 0) (hq : A.q = 2) (hn : A.n = 2) (hm : A.m = fun x y => min x y) (hj : A.j = fun x y => max x y) (hx : 0 ≤ x ∧ x < 2) (hy : 0 ≤ y ∧ y < 2) (h : IPost A x y v c) :
    c = 0 ∧ v = (imp 2 (fun x y => min x y) (fun x y => max x y) x.toNat y.toNat : Nat) := by
  have H := pair_h h0 hq hm hj
  have := h.one (.inr ⟨H, .inr ⟨rfl, ⟨by rw [hn]; exact hx, by rw [hn]; exact hy⟩, rfl⟩⟩)
  rw [hq, hm, hj] at this
  exact ⟨this.2, this.1⟩
theorem imp10 : imp 2 (fun x y => min x y) (fun x y => max x y) 1 0 = 0 := by decide
theorem imp00 : imp 2 (fun x y => min x y) (fun x y => max x y) 0 0 = 1 := by decide
theorem regs2 : (regs 2 (fun x y => min x y) (fun x y => max x y)).length = 2 := by decide
set_option maxHeartbeats 4000000 in
theorem heytingBegun_any (w : World) : Calls Try.prog 9 #[] w fun e w' => e = .returned (.bool true) ∧ Below w.heap.size w w' := by
  go_enter Try.func9, Try.ntmps9
  go_wp2_with fail
  refine (pair_any _).mono ?_
  rintro e w1 ⟨⟨x, rfl, hx⟩, hb1⟩
  obtain ⟨A, rfl, hA, cA, qA, nA, mA, jA⟩ := pair_la hx
  have HB1 : Hid (Below w.heap.size w w1) := hb1
  have HI : Hid _ := implies_any A 1 0 w1 hA
  have HP : Hid (∀ v c, IPost A 1 0 v c → c = 0 ∧ v = 0) := fun v c h => by
    have := pair_i cA qA nA mA jA (by decide) (by decide) h
    rw [show (1 : Int).toNat = 1 from rfl, show (0 : Int).toNat = 0 from rfl, imp10] at this
    exact this
  clear hx hA hb1 cA qA nA mA jA
  unfold LA.v
  go_wp2_with fail
  refine (Calls.mono HI.out) ?_
  rintro e w2 ⟨⟨v, c, hp, rfl⟩, hb2⟩
  obtain ⟨rfl, rfl⟩ := HP.out _ _ hp
  have HB2 : Hid (Below w.heap.size w w2) := Below.then HB1.out hb2
  clear hp hb2 HB1 HI HP
  go_wp2_with fail
  refine (pair_any _).mono ?_
  rintro e w3 ⟨⟨x, rfl, hx⟩, hb3⟩
  obtain ⟨A, rfl, hA, cA, qA, nA, mA, jA⟩ := pair_la hx
  have HB3 : Hid (Below w.heap.size w w3) := Below.then HB2.out hb3
  have HI : Hid _ := implies_any A 0 0 w3 hA
  have HP : Hid (∀ v c, IPost A 0 0 v c → c = 0 ∧ v = 1) := fun v c h => by
    have := pair_i cA qA nA mA jA (by decide) (by decide) h
    rw [show (0 : Int).toNat = 0 from rfl, imp00] at this
    exact this
  clear hx hA hb3 cA qA nA mA jA HB2
  unfold LA.v
  go_wp2_with fail
  refine (Calls.mono HI.out) ?_
  rintro e w4 ⟨⟨v, c, hp, rfl⟩, hb4⟩
  obtain ⟨rfl, rfl⟩ := HP.out _ _ hp
  have HB4 : Hid (Below w.heap.size w w4) := Below.then HB3.out hb4
  clear hp hb4 HB3 HI HP
  go_wp2_with fail
  refine (pair_any _).mono ?_
  rintro e w5 ⟨⟨x, rfl, hx⟩, hb5⟩
  obtain ⟨A, rfl, hA, cA, qA, nA, mA, jA⟩ := pair_la hx
  have HB5 : Hid (Below w.heap.size w w5) := Below.then HB4.out hb5
  have HI : Hid _ := regular_any A w5 hA
  have HP : Hid (∀ w v c, RPost A w v c → c = 0 ∧ ∃ a cap, v = .slice a 2 cap) := fun w v c h => by
    obtain rfl := h.1.one (pair_h cA qA mA jA)
    rcases h.2 with ⟨h, _⟩ | ⟨_, h⟩
    · exact absurd rfl h
    · rw [qA, mA, jA] at h
      obtain ⟨a, cap, e, _⟩ := h
      rw [regs2] at e
      exact ⟨rfl, a, cap, e⟩
  clear hx hA hb5 cA qA nA mA jA HB4
  unfold LA.v
  go_wp2_with fail
  refine (Calls.mono HI.out) ?_
  rintro e w6 ⟨⟨v, c, rfl, hp⟩, hb6⟩
  obtain ⟨rfl, a, cap, rfl⟩ := HP.out _ _ _ hp
  have HB6 : Hid (Below w.heap.size w w6) := Below.then HB5.out hb6
  clear hp hb6 HB5 HI HP
  obtain ⟨W, hW⟩ : ∃ W, W = (w6.alloc (.cells #[.int .i64 0] 3)).alloc (.cells #[.int .i64 1, .int .i64 0, .int .i64 0] 3) := ⟨_, rfl⟩
  have B7 : Below w6.heap.size w6 W := by rw [hW]; exact ((Below.refl _ _).alloc (Nat.le_refl _) _).alloc (by simp) _
  have HB7 : Hid (Below w.heap.size w W) := Below.then HB6.out B7
  have HFO : Hid _ := forces_one w6.heap.size (w6.heap.size + 1) W (by rw [hW]; simp) (fun k hk => ⟨_, _, rfl, by
    rw [hW]
    rcases (by omega : k = 0 ∨ k = 1 ∨ k = 2) with rfl | rfl | rfl <;> simp [f100]⟩)
  have HW : Hid (W = (w6.alloc (.cells #[.int .i64 0] 3)).alloc (.cells #[.int .i64 1, .int .i64 0, .int .i64 0] 3)) := hW
  clear B7 hW HB6
  go_wp2_with fail
  rw [← HW.out]
  refine (Calls.mono HFO.out) ?_
  rintro e w8 ⟨rfl, hb8⟩
  have HB8 : Hid (Below w.heap.size w w8) := Below.then HB7.out hb8
  clear hb8 HB7 HFO HW
  go_wp2_with fail
  go_ret
  exact ⟨rfl, HB8.out⟩
end Go.Proofs.Ytibnadbobijjpaa
