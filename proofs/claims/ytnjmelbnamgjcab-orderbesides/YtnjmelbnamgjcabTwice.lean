/-
  For every order that is handed in, hasselaw.OrderTwice returns true, and writes nothing that was there. No condition.
-/
import Derived.Test.YtnjmelbnamgjcabTwiceM
import Derived.Test.YtnjmelbnamgjcabIdealsL
namespace Go.Proofs.Ytnjmelbnamgjcab
open Go.RowKit

theorem bit_as (n P : Nat) (w : World) (h : pw n = P) (hn : n < 62) :
    Calls Try.prog 23 #[.int .i64 n] w fun e w' => e = .returned (.int .i64 (P : Nat)) ∧ w' = w := by rw [← h]; exact bit_quiet n w hn

set_option maxHeartbeats 2000000 in
theorem orderTwice_any (n : Int) (a : Option Addr) (len cap : Nat) (f : Nat → Int) (w : World) (hl : len ≤ maxLen) (hr : Row w a len f) :
    Calls Try.prog 6 #[.agg #[.int .i64 n, .slice a len cap]] w fun e w' => e = .returned (.bool true) ∧ Below w.heap.size w w' := by
  have K0 : Held (w.alloc (.cells #[.int .i64 n, .slice a len cap] 24)) w.heap.size n a len cap f := Held.box hr
  have HB0 : Hid (Below w.heap.size w (w.alloc (.cells #[.int .i64 n, .slice a len cap] 24))) := (Below.refl _ _).alloc (Nat.le_refl _) _
  clear hr
  go_enter Try.func6, Try.ntmps6
  go_wp2_with fail
  refine (orderBegun_any _).mono ?_
  rintro e w1 ⟨rfl, hb⟩
  have K1 := K0.step hb
  have k0 := K1.c0
  have k1 := K1.c1
  have HB1 : Hid (Below w.heap.size w w1) := Below.then HB0.out hb
  clear hb K0 HB0
  go_wp2_with fail
  refine (dual_any n a len cap f _ hl K1.row).mono ?_
  rintro e w2 ⟨⟨c, x, hc, rfl, hx⟩, hb⟩
  have K2 := K1.step hb
  have HB2 : Hid (Below w.heap.size w w2) := Below.then HB1.out hb
  clear hb HB1 K1 k0 k1
  have hl2 : w.heap.size < w2.heap.size := World.block_lt_of_cell? _ _ K2.1
  by_cases h0 : c = 0
  · subst h0
    obtain ⟨rfl, h10, hrng, hord⟩ := hc.good
    have HSM : Hid (∀ k, k < len → nat f k < pw len) := hrng.small
    have HORD : Hid (Ord len (nat f)) := hord
    have HNG : Hid (∀ k, k < len → f k = ((nat f k : Nat) : Int)) := fun k hk => by have := hrng k hk; unfold nat; omega
    rcases hx with ⟨h, _⟩ | ⟨_, a', cap', rfl, hrow⟩
    · exact absurd rfl h
    have K3 := K2.step ((Below.refl _ _).alloc (Nat.le_refl _) (.cells #[.int .i64 (len : Int), .slice a' len cap'] 24))
    have X3 := Box.new w2 (len : Int) a' len cap'
    have R3 := hrow.below ((Below.refl _ _).alloc (Nat.le_refl _) (.cells #[.int .i64 (len : Int), .slice a' len cap'] 24))
    have HB3 : Hid (Below w.heap.size w (w2.alloc (.cells #[.int .i64 (len : Int), .slice a' len cap'] 24))) := HB2.out.alloc (by omega) _
    clear hrow HB2 K2 hrng hord
    go_wp2_with fail
    refine (dual_any len a' len cap' (fun k => ((trn (nat f) len k : Nat) : Int)) _ hl R3).mono ?_
    rintro e w4 ⟨⟨c4, x4, hc4, rfl, hx4⟩, hb⟩
    obtain rfl := Chk.unique hc4 (trn_chk h10 HSM.out HORD.out)
    rw [nat_cast] at hx4
    rcases hx4 with ⟨h, _⟩ | ⟨_, a5, cap5, rfl, hrow5⟩
    · exact absurd rfl h
    have K4 := (K3.step hb).step ((Below.refl _ _).alloc (Nat.le_refl _) (.cells #[.int .i64 (len : Int), .slice a5 len cap5] 24))
    have X4 := (X3.step hb).step ((Below.refl _ _).alloc (Nat.le_refl _) (.cells #[.int .i64 (len : Int), .slice a5 len cap5] 24))
    have R4 := (R3.below hb).below ((Below.refl _ _).alloc (Nat.le_refl _) (.cells #[.int .i64 (len : Int), .slice a5 len cap5] 24))
    have Y4 := Box.new w4 (len : Int) a5 len cap5
    have S4 := hrow5.below ((Below.refl _ _).alloc (Nat.le_refl _) (.cells #[.int .i64 (len : Int), .slice a5 len cap5] 24))
    have k40 := (K3.step hb).c0
    have k41 := (K3.step hb).c1
    have hl4 : w2.heap.size < w4.heap.size := (X3.step hb).lt
    have hl4' : w.heap.size < w4.heap.size := by omega
    have HB4 : Hid (Below w.heap.size w (w4.alloc (.cells #[.int .i64 (len : Int), .slice a5 len cap5] 24))) := (Below.then HB3.out hb).alloc (by omega) _
    clear hb K3 X3 R3 HB3 hc4 hrow5
    go_wp2_with fail
    refine (ideals_any len a len cap f _ hl K4.row).mono ?_
    rintro e w6 ⟨⟨c6, v6, hc6, rfl, he6⟩, hb⟩
    obtain rfl := Chk.unique hc6 hc
    rcases he6 with ⟨h, _⟩ | ⟨_, hp6⟩
    · exact absurd rfl h
    have K6 := K4.step hb
    have X6 := X4.step hb
    have R6 := R4.below hb
    have Y6 := Y4.step hb
    have S6 := S4.below hb
    obtain ⟨x60, x61⟩ := X4.step hb
    have HB6 : Hid (Below w.heap.size w w6) := Below.then HB4.out hb
    clear hb K4 X4 R4 Y4 S4 k40 k41 HB4 hc6
    obtain ⟨a6, cap6, rfl, hr6⟩ := hp6
    go_wp2_with fail
    refine (ideals_any len a' len cap' (fun k => ((trn (nat f) len k : Nat) : Int)) _ hl R6).mono ?_
    rintro e w7 ⟨⟨c7, v7, hc7, rfl, he7⟩, hb⟩
    obtain rfl := Chk.unique hc7 (trn_chk h10 HSM.out HORD.out)
    rw [nat_cast] at he7
    rcases he7 with ⟨h, _⟩ | ⟨_, hp7⟩
    · exact absurd rfl h
    obtain ⟨a7, cap7, rfl, hr7⟩ := hp7
    have HRL : Hid ((idls (trn (nat f) len) len).length = (idls (nat f) len).length) := rest_len (nat f) len h10 HSM.out
    rw [HRL.out] at hr7 ⊢
    have HRA : Hid (∀ i, i < (idls (nat f) len).length → nth (idls (nat f) len) i + nth (idls (trn (nat f) len) len) ((idls (nat f) len).length - 1 - i) = pw len - 1) := rest_at (nat f) len h10 HSM.out
    have hml := idls_len (nat f) len h10
    have HLT : Hid (∀ i, i < (idls (nat f) len).length → nth (idls (nat f) len) i < pw len) := fun i hi => fil_lt hi
    have K7 := K6.step hb
    obtain ⟨k70, k71⟩ := (K6.step hb).toBox
    obtain ⟨y70, y71⟩ := Y6.step hb
    have S7 := S6.below hb
    have hr67 := hr6.below hb
    have HB7 : Hid (Below w.heap.size w w7) := Below.then HB6.out hb
    clear hb K6 X6 R6 Y6 S6 x60 x61 HB6 hc7 hr6
    generalize idls (trn (nat f) len) len = L7 at *
    generalize idls (nat f) len = L6 at *
    generalize L6.length = m at *
    have HR6 : Hid (Row w7 a6 m (fun k => (nth L6 k : Nat))) := hr67
    have HR7 : Hid (Row w7 a7 m (fun k => (nth L7 k : Nat))) := hr7
    clear hr67 hr7
    go_wp2_with fail
    refine (sameOrder_any len len a5 a len cap5 len cap _ f _ hl hl S7 K7.row).mono ?_
    rintro e w8 ⟨⟨q, rfl, hq⟩, hb⟩
    obtain rfl : q = true := hq.2 ⟨rfl, rfl, fun k hk => by simp only [trn_trn HSM.out k hk]; exact (HNG.out k hk).symm⟩
    have K8 := K7.step hb
    have HR8 : Hid (Row w8 a6 m (fun k => (nth L6 k : Nat))) := HR6.out.below hb
    have HS8 : Hid (Row w8 a7 m (fun k => (nth L7 k : Nat))) := HR7.out.below hb
    have HB8 : Hid (Below w.heap.size w w8) := Below.then HB7.out hb
    have HK8 : Hid (Held w8 w.heap.size len a len cap f) := K8
    clear hb hq K7 S7 k70 k71 y70 y71 HB7 HR6 HR7 K8
    have hpw := pw_le len h10
    go_wp2_with fail
    go_loopw [11] (fun t wx => ∃ i : Nat, i ≤ m ∧ t = .int .i64 i ∧ Hid (Below w8.heap.size w8 wx)) (fun t _ => m - (intOf t).toNat)
    case atStart => exact ⟨0, Nat.zero_le _, rfl, Below.refl _ _⟩
    case round =>
      obtain ⟨i, hi, rfl, hB⟩ := hrel
      by_cases hlt : i < m
      · obtain ⟨b6, o6, rfl, hc6⟩ := (HR8.out.below hB.out).at hlt
        have hj : m - 1 - i < m := by omega
        obtain ⟨b7, o7, rfl, hc7⟩ := (HS8.out.below hB.out).at hj
        have d6 := hc6 i hlt
        have d7 := hc7 (m - 1 - i) hj
        have hKx := HK8.out.step hB.out
        have c0 := hKx.c0
        have hsum := HRA.out i hlt
        have hlt6 := HLT.out i hlt
        have hlt' : (i : Int) < (m : Int) := by omega
        clear hc6 hc7 hKx
        generalize nth L6 i = A at *
        generalize nth L7 (m - 1 - i) = B at *
        generalize hP : pw len = P at *
        have HP : Hid (pw len = P) := hP
        have hne : ((A : Int) + (B : Int) != (P : Int) - 1) = false := by simp; omega
        have HSUM : Hid (A + B = P - 1) := hsum
        have hB2 : B ≤ 1024 := by omega
        clear hP hsum
        go_wp2
        go_quiet ((go_at_call 23; exact Calls.quiet_of_same (bit_as _ _ _ HP.out (by omega))))
        go_wp2
        go_roundw
        case rel => exact ⟨i + 1, by omega, by go_num, below_drewN hB.out _⟩
        case measure => simp [intOf]; omega
      · have him : i = m := by omega
        subst him
        go_wp2
        go_ret
        exact ⟨rfl, Below.then HB8.out hB.out⟩
  · have hne : (c != 0) = true := by simpa using h0
    rcases hx with ⟨_, rfl⟩ | ⟨h, _⟩
    · unfold noOrder
      have HB3 : Hid (Below w.heap.size w (w2.alloc (.cells #[.int .i64 0, .slice none 0 0] 24))) := HB2.out.alloc (by omega) _
      clear HB2 K2 hc
      go_wp2_with fail
      go_ret
      exact ⟨rfl, HB3.out⟩
    · exact absurd h h0
end Go.Proofs.Ytnjmelbnamgjcab
