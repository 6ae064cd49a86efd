/-
  What chain.Widest and the reference's Size answer. Conditions: none but that a slice reads as a slice of numbers.
-/
import Derived.Test.YtklfnghgpmjnmaaKin
namespace Go.Proofs.Ytklfnghgpmjnmaa
open Go.RowKit

def WidPost (n : Int) (len : Nat) (f : Nat → Int) (e : Ending) : Prop :=
  ∃ c : Int, Chk n len f c ∧ ((c ≠ 0 ∧ e = .returned (.tuple #[.int .i64 0, .int .i64 c])) ∨ (c = 0 ∧ e = .returned (.tuple #[.int .i64 (wid (nat f) len (pw len) : Nat), .int .i64 0])))
theorem isFree_as (m : Nat) (a : Option Addr) (cap : Nat) (F : Nat → Nat) (s : Nat) (v : Bool) (w : World) (hv : freeB F m s = v) (hm : m ≤ 10) (hF : ∀ k, k < m → F k < 1024) (hs : s < 1024) (hr : Row w a m (fun k => (F k : Nat))) :
    Calls Try.prog 43 #[.int .i64 s, .slice a m cap] w fun e w' => e = .returned (.bool v) ∧ w' = w :=
  (isFree_any m a cap F s w hm hF hs hr).mono fun _ _ ⟨h1, h2⟩ => ⟨by rw [← hv]; exact h1, h2.symm⟩

set_option maxHeartbeats 1000000 in
theorem widest_any (n : Int) (a : Option Addr) (len cap : Nat) (f : Nat → Int) (w : World) (hl : len ≤ maxLen) (hr : Row w a len f) :
    Calls Try.prog 21 #[.agg #[.int .i64 n, .slice a len cap]] w fun e w' => WidPost n len f e ∧ Below w.heap.size w w' := by
  have K0 : Held (w.alloc (.cells #[.int .i64 n, .slice a len cap] 25)) w.heap.size n a len cap f := Held.box hr
  have HB0 : Hid (Below w.heap.size w (w.alloc (.cells #[.int .i64 n, .slice a len cap] 25))) := (Below.refl _ _).alloc (Nat.le_refl _) _
  clear hr
  go_enter Try.func21, Try.ntmps21
  go_wp2_with fail
  refine (relatives_any n a len cap f _ hl K0.row).mono ?_
  rintro e w1 ⟨⟨c, hc, he⟩, hb⟩
  have K1 := K0.step hb
  have HB1 : Hid (Below w.heap.size w w1) := Below.then HB0.out hb
  clear hb K0 HB0
  rcases he with ⟨h0, rfl⟩ | ⟨rfl, b, rfl, hown, _⟩
  · have hne : (c != 0) = true := by simpa using h0
    have HC : Hid (Chk n len f c) := hc
    clear hc
    go_wp2_with fail
    go_ret2
    exact ⟨⟨c, HC.out, .inl ⟨h0, rfl⟩⟩, HB1.out⟩
  · obtain ⟨rfl, h10, hrng, hord⟩ := hc.good
    have HC : Hid (Chk (len : Int) len f 0) := hc
    have HFIN : Hid (∀ v : Nat, v = wid (nat f) len (pw len) → WidPost len len f (.returned (.tuple #[.int .i64 (v : Nat), .int .i64 0]))) := fun v h => ⟨0, HC.out, .inr ⟨rfl, by rw [h]⟩⟩
    have k0 := K1.c0
    have hpn := pw_le len h10
    have hpp := pw_pos len
    have hpw := wrap_pow len (by omega)
    have HKL : Hid (∀ k, k < len → kin (nat f) len k < 1024) := fun k hk => Nat.lt_of_lt_of_le (kin_lt hrng.small k hk) hpn
    have HWL : Hid (∀ k, k ≤ pw len → wid (nat f) len k < pw len) := fun k hk => wid_lt (nat f) len hpp k hk
    have HFA : Hid (∀ s, s < pw len → freeB (kin (nat f) len) len s = antB (nat f) len s) := fun s hs => free_ant hs
    have HRW : Hid (Row w1 (some ⟨b, 0, none⟩) len (fun k => (kin (nat f) len k : Nat))) := hown.row
    clear hc hrng hord hown
    go_wp2_with fail
    rw [hpw]
    clear k0
    go_loopw [6, 19] (fun z x wx => ∃ k : Nat, k ≤ pw len ∧ x = .int .i64 k ∧ z = .int .i64 (wid (nat f) len k : Nat) ∧ Hid (Below w1.heap.size w1 wx)) (fun _ x _ => pw len - (intOf x).toNat)
    case atStart => exact ⟨0, Nat.zero_le _, rfl, rfl, Below.refl _ _⟩
    case round =>
      obtain ⟨k, hk, rfl, rfl, hBW⟩ := hrel
      by_cases hlt : k < pw len
      · have hlt' : (k : Int) < ((pw len : Nat) : Int) := by omega
        have hW := HWL.out k hk
        have hpk : pc k ≤ 10 := pcn_le k 10
        have hpw2 : pc (wid (nat f) len k) ≤ 10 := pcn_le _ 10
        by_cases hle : pc k ≤ pc (wid (nat f) len k)
        · have HE : Hid (wid (nat f) len (k + 1) = wid (nat f) len k) := wid_small hle
          have hle' : ((pc k : Nat) : Int) ≤ ((pc (wid (nat f) len k) : Nat) : Int) := by omega
          clear hle
          generalize wid (nat f) len k = W at *
          go_wp2_with (first
            | (go_at_call_of 42 (Value.int IntKind.i64 (k : Int)); refine (size_any k _ (by omega)).mono ?_; rintro e w' ⟨rfl, rfl⟩)
            | (go_at_call 42; refine (size_any W _ (by omega)).mono ?_; rintro e w' ⟨rfl, rfl⟩))
          go_roundw
          case rel => exact ⟨k + 1, by omega, by go_num, by rw [HE.out], hBW.out⟩
          case measure => simp [intOf]; omega
        · have hgt : ((pc (wid (nat f) len k) : Nat) : Int) < ((pc k : Nat) : Int) := by omega
          have hgt2 : pc (wid (nat f) len k) < pc k := by omega
          have hfa := HFA.out k hlt
          cases ha : antB (nat f) len k
          · have HE : Hid (wid (nat f) len (k + 1) = wid (nat f) len k) := wid_no ha
            rw [ha] at hfa
            clear hle hgt2
            generalize wid (nat f) len k = W at *
            go_wp2_with (first
              | (go_at_call_of 42 (Value.int IntKind.i64 (k : Int)); refine (size_any k _ (by omega)).mono ?_; rintro e w' ⟨rfl, rfl⟩)
              | (go_at_call 42; refine (size_any W _ (by omega)).mono ?_; rintro e w' ⟨rfl, rfl⟩)
              | (go_at_call 43; refine (isFree_as len _ _ (kin (nat f) len) k false _ hfa h10 HKL.out (by omega) (HRW.out.below hBW.out)).mono ?_; rintro e w' ⟨rfl, rfl⟩))
            go_roundw
            case rel => exact ⟨k + 1, by omega, by go_num, by rw [HE.out], hBW.out⟩
            case measure => simp [intOf]; omega
          · have HE : Hid (wid (nat f) len (k + 1) = k) := wid_yes hgt2 ha
            rw [ha] at hfa
            clear hle hgt2
            generalize wid (nat f) len k = W at *
            go_wp2_with (first
              | (go_at_call_of 42 (Value.int IntKind.i64 (k : Int)); refine (size_any k _ (by omega)).mono ?_; rintro e w' ⟨rfl, rfl⟩)
              | (go_at_call 42; refine (size_any W _ (by omega)).mono ?_; rintro e w' ⟨rfl, rfl⟩)
              | (go_at_call 43; refine (isFree_as len _ _ (kin (nat f) len) k true _ hfa h10 HKL.out (by omega) (HRW.out.below hBW.out)).mono ?_; rintro e w' ⟨rfl, rfl⟩))
            go_roundw
            case rel => exact ⟨k + 1, by omega, by go_num, by rw [HE.out], hBW.out⟩
            case measure => simp [intOf]; omega
      · have hkn : k = pw len := by omega
        have HZ : Hid (WidPost len len f (.returned (.tuple #[.int .i64 (wid (nat f) len k : Nat), .int .i64 0]))) := HFIN.out _ (by rw [hkn])
        generalize wid (nat f) len k = W at *
        go_wp2_with fail
        go_ret2
        exact ⟨HZ.out, Below.then HB1.out hBW.out⟩

theorem refSize_any (s : Nat) (w : World) (hs : s < 1024) :
    Calls Try.prog 22 #[.int .i64 s] w fun e w' => e = .returned (.int .i64 (pc s : Nat)) ∧ w = w' := by
  go_enter Try.func22, Try.ntmps22
  go_wp2
  go_loop [0, 3] (fun t x => ∃ k : Nat, k ≤ 10 ∧ t = .int .i64 (hv s k : Nat) ∧ x = .int .i64 (pcn s k : Nat)) (fun t _ => (intOf t).toNat)
  case atStart => exact ⟨0, Nat.zero_le _, by rw [hv_zero], rfl⟩
  case round =>
    obtain ⟨k, hk, rfl, rfl⟩ := hrel
    have hl := hv_le s k
    have hp := pcn_le s k
    by_cases hz : hv s k = 0
    · have HE : Hid (pc s = pcn s k) := by
        have e := pcn_stop (hv_zero_bits hz) (10 - k)
        rw [show k + (10 - k) = 10 by omega] at e
        exact e
      have hz' : ((hv s k : Nat) : Int) ≤ 0 := by omega
      clear hz
      generalize hv s k = V at *
      go_wp2
      go_ret
      exact ⟨ret_int (congrArg Int.ofNat HE.out.symm), rfl⟩
    · have hpos : (0 : Int) < ((hv s k : Nat) : Int) := by omega
      have hk10 : k < 10 := by
        rcases Nat.lt_or_ge k 10 with h1 | h1
        · exact h1
        · exact absurd (hv_big hs h1) hz
      have HS : Hid (hv s (k + 1) = hv s k / 2) := hv_succ s k
      have HP : Hid (pcn s (k + 1) = pcn s k + hv s k % 2) := pcn_step s k
      generalize hv s k = V at *
      generalize pcn s k = P at *
      go_wp2
      go_round
      case rel => exact ⟨k + 1, by omega, by rw [HS.out]; simp, by rw [HP.out]; go_num⟩
      case measure => simp [intOf]; omega
end Go.Proofs.Ytklfnghgpmjnmaa
