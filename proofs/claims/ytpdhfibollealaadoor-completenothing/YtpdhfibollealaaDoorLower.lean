/-
  What sets.UpTo, complete.lower, Lower, Upper and cut answer. Conditions: as each theorem says; of Lower and Upper none but that a slice reads as a slice of numbers.
-/
import Derived.Test.YtpdhfibollealaaDoorCutM
import Derived.Test.YtpdhfibollealaaDoorDualT
namespace Go.Proofs.YtpdhfibollealaaDoor
open Go.RowKit

theorem upto_lt {g : Nat → Nat} {x : Nat} (hg : g x < 1024) (hx : x < 10) : upto g x < 1024 := by
  have : pw x < 2 ^ 10 := Nat.pow_lt_pow_right (by decide) hx
  exact Nat.or_lt_two_pow (n := 10) hg this
set_option maxHeartbeats 1000000 in
theorem upTo_any (n : Int) (a : Option Addr) (len cap : Nat) (g : Nat → Nat) (x : Nat) (w : World) (h10 : len ≤ 10) (hg : ∀ k, k < len → g k < 1024) (hr : Row w a len (fun k => (g k : Nat))) (hx : x < len) :
    Calls Tryd.prog 18 #[.agg #[.int .i64 n, .slice a len cap], .int .i64 (x : Nat)] w fun e w' => e = .returned (.int .i64 (upto g x : Nat)) ∧ Below w.heap.size w w' := by
  have HB0 : Hid (Below w.heap.size w (w.alloc (.cells #[.int .i64 n, .slice a len cap] 24))) := (Below.refl _ _).alloc (Nat.le_refl _) _
  obtain ⟨b, off, rfl, hc⟩ := hr x hx
  have c1 : (w.alloc (.cells #[.int .i64 n, .slice (some ⟨b, off, none⟩) len cap] 24)).cell? ⟨b, off + x, none⟩ = some (.int .i64 (g x : Nat)) := (HB0.out.cell (World.block_lt_of_cell? _ _ hc)).trans hc
  have hx' : (x : Int) < (len : Int) := by omega
  have HV : Hid (bits .or .i64 ((g x : Nat) : Int) (wrap64 (2 ^ x)) = ((upto g x : Nat) : Int)) := by
    rw [wrap_pow x (by omega)]
    refine i64_or _ _ ?_ ?_
    · have := hg x hx; omega
    · have : pw x < 2 ^ 10 := Nat.pow_lt_pow_right (by decide) (by omega)
      omega
  clear hr hc hg
  go_enter Tryd.func18, Tryd.ntmps18
  go_wp2
  go_big_quiet (fail)
  go_wp2
  go_ret
  exact ⟨by rw [← HV.out]; rfl, below_drewN HB0.out _⟩

set_option maxHeartbeats 1000000 in
theorem lower_any (a : Option Addr) (n cap : Nat) (g : Nat → Nat) (s : Nat) (w : World) (h10 : n ≤ 10) (hg : ∀ k, k < n → g k < 1024) (hr : Row w a n (fun k => (g k : Nat))) (hs : s < 1024) :
    Calls Tryd.prog 23 #[.agg #[.int .i64 (n : Int), .slice a n cap], .int .i64 (s : Nat)] w fun e w' => e = .returned (.int .i64 (low g n s : Nat)) ∧ Below w.heap.size w w' := by
  have HG : Hid (∀ k, k < n → g k < 1024) := hg
  have K0 : Hid (Held (w.alloc (.cells #[.int .i64 (n : Int), .slice a n cap] 24)) w.heap.size n a n cap (fun k => (g k : Nat))) := Held.box hr
  have HB0 : Hid (Below w.heap.size w (w.alloc (.cells #[.int .i64 (n : Int), .slice a n cap] 24))) := (Below.refl _ _).alloc (Nat.le_refl _) _
  have hpos := pw_pos n
  have HL0 : Hid (((pw n : Nat) : Int) - 1 = ((lwr g n s 0 : Nat) : Int)) := by show _ = ((pw n - 1 : Nat) : Int); omega
  clear hr hg hpos
  go_enter Tryd.func23, Tryd.ntmps23
  go_wp2_with (go_at_call 29; refine (all_any n _ h10).mono ?_; rintro e w' ⟨rfl, rfl⟩)
  go_loopw [5, 12] (fun p i wx => ∃ k : Nat, k ≤ n ∧ i = .int .i64 k ∧ p = .int .i64 (lwr g n s k : Nat) ∧ Hid (Held wx w.heap.size n a n cap (fun k => (g k : Nat))) ∧ Hid (Below w.heap.size w wx)) (fun _ i _ => n - (intOf i).toNat)
  case atStart => exact ⟨0, Nat.zero_le _, rfl, by rw [← HL0.out], K0, HB0⟩
  case round =>
    obtain ⟨k, hk, rfl, rfl, hH, hB⟩ := hrel
    clear K0 HB0
    have k0 := hH.out.c0
    have k1 := hH.out.c1
    by_cases hlt : k < n
    · rcases (Bool.eq_false_or_eq_true (s.testBit k)).symm with hb | hb
      · have HE : Hid (lwr g n s (k + 1) = lwr g n s k) := lwr_no hb
        go_wp2_with (go_at_call 28; refine (has_any _ _ _ (by omega) (by omega)).mono ?_; rintro e w' ⟨rfl, rfl⟩)
        go_roundw
        case rel => exact ⟨k + 1, by omega, by go_num, by rw [HE.out], hH, hB⟩
        case measure => simp [intOf]; omega
      · have HE : Hid (lwr g n s (k + 1) = lwr g n s k &&& upto g k) := lwr_yes hb
        have hl1 : lwr g n s k < 1024 := Nat.lt_of_lt_of_le (lwr_lt g n s k) (pw_le n h10)
        have hl2 : upto g k < 1024 := upto_lt (HG.out k hlt) (by omega)
        have HV : Hid (bits .and .i64 ((lwr g n s k : Nat) : Int) ((upto g k : Nat) : Int) = ((lwr g n s k &&& upto g k : Nat) : Int)) := i64_and _ _ (by omega) (by omega)
        go_wp2_with (go_at_call 28; refine (has_any _ _ _ (by omega) (by omega)).mono ?_; rintro e w' ⟨rfl, rfl⟩)
        refine (upTo_any n a n cap g k _ h10 HG.out hH.out.row hlt).mono ?_
        rintro e w1 ⟨rfl, hb1⟩
        have HH1 : Hid (Held w1 w.heap.size n a n cap (fun k => (g k : Nat))) := hH.out.step hb1
        have HB1 : Hid (Below w.heap.size w w1) := Below.then hB.out hb1
        clear hb1 hH hB k0 k1
        go_wp2_with fail
        go_roundw
        case rel => exact ⟨k + 1, by omega, by go_num, by rw [HE.out, ← HV.out], HH1, HB1⟩
        case measure => simp [intOf]; omega
    · have hkn : k = n := by omega
      subst hkn
      clear k0 k1
      go_wp2
      go_ret
      exact ⟨rfl, hB.out⟩
end Go.Proofs.YtpdhfibollealaaDoor
