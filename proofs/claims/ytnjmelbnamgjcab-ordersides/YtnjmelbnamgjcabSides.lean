/-
  For every two orders that are handed in, hasselaw.OrderSides returns true, and writes nothing that was there. Conditions: slices read as slices of numbers; a nil one has no room.
-/
import Derived.Test.YtnjmelbnamgjcabSidesM
import Derived.Test.YtnjmelbnamgjcabBeside
import Derived.Test.YtnjmelbnamgjcabIdealsL
namespace Go.Proofs.Ytnjmelbnamgjcab
open Go.RowKit

theorem bit_as (n P : Nat) (w : World) (h : pw n = P) (hn : n < 62) :
    Calls Try.prog 23 #[.int .i64 n] w fun e w' => e = .returned (.int .i64 (P : Nat)) ∧ w' = w := by rw [← h]; exact bit_quiet n w hn

set_option maxHeartbeats 4000000 in
theorem orderSides_any (n1 : Int) (a1 : Option Addr) (len1 cap1 : Nat) (f1 : Nat → Int) (n2 : Int) (a2 : Option Addr) (len2 cap2 : Nat) (f2 : Nat → Int) (w : World) (hl1 : len1 ≤ maxLen) (hl2 : len2 ≤ maxLen)
    (hz : a1 = none → len1 = 0 ∧ cap1 = 0) (hr1 : Row w a1 len1 f1) (hr2 : Row w a2 len2 f2) :
    Calls Try.prog 7 #[.agg #[.int .i64 n1, .slice a1 len1 cap1], .agg #[.int .i64 n2, .slice a2 len2 cap2]] w fun e w' => e = .returned (.bool true) ∧ Below w.heap.size w w' := by
  have b1 := (Below.refl w.heap.size w).alloc (Nat.le_refl _) (.cells #[.int .i64 n1, .slice a1 len1 cap1] 24)
  have X0 := (Box.new w n1 a1 len1 cap1).step ((Below.refl _ _).alloc (Nat.le_refl _) (.cells #[.int .i64 n2, .slice a2 len2 cap2] 24))
  have Y0 := Box.new (w.alloc (.cells #[.int .i64 n1, .slice a1 len1 cap1] 24)) n2 a2 len2 cap2
  simp only [World.size_alloc] at Y0
  have hb0 := b1.alloc (by simp) (.cells #[.int .i64 n2, .slice a2 len2 cap2] 24)
  have R10 := hr1.below hb0
  have R20 := hr2.below hb0
  have HB0 : Hid (Below w.heap.size w ((w.alloc (.cells #[.int .i64 n1, .slice a1 len1 cap1] 24)).alloc (.cells #[.int .i64 n2, .slice a2 len2 cap2] 24))) := hb0
  clear b1 hb0 hr1 hr2
  go_enter Try.func7, Try.ntmps7
  go_wp2_with fail
  refine (orderBegun_any _).mono ?_
  rintro e w1 ⟨rfl, hb⟩
  have X1 := X0.step hb
  have Y1 := Y0.step hb
  have R11 := R10.below hb
  have R21 := R20.below hb
  have HB1 : Hid (Below w.heap.size w w1) := Below.then HB0.out hb
  obtain ⟨x0, x1⟩ := X0.step hb
  obtain ⟨y0, y1⟩ := Y0.step hb
  clear hb X0 Y0 R10 R20 HB0
  go_wp2_with fail
  refine (beside_any n1 a1 len1 cap1 f1 n2 a2 len2 cap2 f2 _ hl1 hl2 hz R11 R21).mono ?_
  rintro e w2 ⟨⟨c, x, hc, rfl, hx⟩, hb⟩
  have X2 := X1.step hb
  have Y2 := Y1.step hb
  have R12 := R11.below hb
  have R22 := R21.below hb
  have HB2 : Hid (Below w.heap.size w w2) := Below.then HB1.out hb
  have hl2' : w.heap.size + 1 < w2.heap.size := Y2.lt
  clear hb X1 Y1 R11 R21 HB1 x0 x1 y0 y1
  by_cases h0 : c = 0
  · subst h0
    obtain ⟨hc2, hn⟩ : Chk2 n1 len1 f1 n2 len2 f2 0 ∧ len1 + len2 ≤ 10 := by
      rcases hc with ⟨h, _⟩ | ⟨h, ⟨h2, _⟩ | ⟨_, h3⟩⟩
      · exact absurd rfl h
      · cases h2
      · exact ⟨h, h3⟩
    obtain ⟨k1, k2⟩ := hc2.good
    obtain ⟨rfl, h10, hrng1, ho1⟩ := k1.good
    obtain ⟨rfl, h20, hrng2, ho2⟩ := k2.good
    rcases hx with ⟨h, _⟩ | ⟨_, a', cap', rfl, hrow⟩
    · exact absurd rfl h
    have HK1 : Hid (Chk (len1 : Int) len1 f1 0) := k1
    have HK2 : Hid (Chk (len2 : Int) len2 f2 0) := k2
    have HKJ : Hid (Chk ((len1 + len2 : Nat) : Int) (len1 + len2) (fun k => ((jn (nat f1) len1 (nat f2) 0 k : Nat) : Int)) 0) := jn_chk hn hrng1.small hrng2.small ho1 ho2
    obtain ⟨hLL, hLA⟩ := sides_list hn hrng1.small hrng2.small
    have HLL : Hid ((idls (jn (nat f1) len1 (nat f2) 0) (len1 + len2)).length = (idls (nat f1) len1).length * (idls (nat f2) len2).length) := hLL
    have HLA : Hid (∀ i, i < (idls (nat f1) len1).length * (idls (nat f2) len2).length → nth (idls (jn (nat f1) len1 (nat f2) 0) (len1 + len2)) i = nth (idls (nat f1) len1) (i % (idls (nat f1) len1).length) + nth (idls (nat f2) len2) (i / (idls (nat f1) len1).length) * pw len1) := hLA
    have hp1 := idls_pos (nat f1) len1
    have hm1 := idls_len (nat f1) len1 h10
    have hm2 := idls_len (nat f2) len2 h20
    have HV2 : Hid (∀ i, i < (idls (nat f2) len2).length → nth (idls (nat f2) len2) i < pw len2) := fun i hi => fil_lt hi
    have HV1 : Hid (∀ i, i < (idls (nat f1) len1).length → nth (idls (nat f1) len1) i < pw len1) := fun i hi => fil_lt hi
    clear hc hc2 k1 k2 hrng1 hrng2 ho1 ho2 hLL hLA
    have bW := (Below.refl w2.heap.size w2).alloc (Nat.le_refl _) (.cells #[.int .i64 ((len1 + len2 : Nat) : Int), .slice a' (len1 + len2) cap'] 24)
    have X3 := X2.step bW
    have Y3 := Y2.step bW
    have R13 := R12.below bW
    have R23 := R22.below bW
    have J3 := Box.new w2 ((len1 + len2 : Nat) : Int) a' (len1 + len2) cap'
    have RJ3 := hrow.below bW
    have HB3 : Hid (Below w.heap.size w (w2.alloc (.cells #[.int .i64 ((len1 + len2 : Nat) : Int), .slice a' (len1 + len2) cap'] 24))) := HB2.out.alloc (by omega) _
    obtain ⟨x20, x21⟩ := X2
    have hlw : w.heap.size < w2.heap.size := by omega
    clear bW Y2 R12 R22 hrow HB2
    obtain ⟨NN, HNN⟩ : ∃ NN : Nat, Hid (NN = len1 + len2) := ⟨_, rfl⟩
    rw [← HNN.out] at HKJ J3 RJ3 X3 Y3 R13 R23 HB3 HLL HLA hn
    rw [← HNN.out]
    go_wp2_with fail
    refine (ideals_any len1 a1 len1 cap1 f1 _ hl1 R13).mono ?_
    rintro e w4 ⟨⟨c4, v4, hc4, rfl, he4⟩, hb⟩
    obtain rfl := Chk.unique hc4 HK1.out
    rcases he4 with ⟨h, _⟩ | ⟨_, hp4⟩
    · exact absurd rfl h
    obtain ⟨a4, cap4, rfl, hr4⟩ := hp4
    have X4 := X3.step hb
    have Y4 := Y3.step hb
    have R24 := R23.below hb
    have J4 := J3.step hb
    have RJ4 := RJ3.below hb
    have HB4 : Hid (Below w.heap.size w w4) := Below.then HB3.out hb
    obtain ⟨j40, j41⟩ := J3.step hb
    clear hb X3 Y3 R13 R23 J3 RJ3 HB3 hc4 x20 x21
    go_wp2_with fail
    refine (ideals_any NN a' NN cap' _ _ (by unfold maxLen; omega) RJ4).mono ?_
    rintro e w5 ⟨⟨c5, v5, hc5, rfl, he5⟩, hb⟩
    obtain rfl := Chk.unique hc5 HKJ.out
    rw [nat_cast] at he5
    rcases he5 with ⟨h, _⟩ | ⟨_, hp5⟩
    · exact absurd rfl h
    obtain ⟨a5, cap5, rfl, hr5⟩ := hp5
    rw [HLL.out] at hr5 ⊢
    have X5 := X4.step hb
    have R25 := R24.below hb
    have hr45 := hr4.below hb
    have HB5 : Hid (Below w.heap.size w w5) := Below.then HB4.out hb
    obtain ⟨y50, y51⟩ := Y4.step hb
    clear hb X4 Y4 R24 J4 RJ4 HB4 hc5 j40 j41 hr4
    go_wp2_with fail
    refine (ideals_any len2 a2 len2 cap2 f2 _ hl2 R25).mono ?_
    rintro e w6 ⟨⟨c6, v6, hc6, rfl, he6⟩, hb⟩
    obtain rfl := Chk.unique hc6 HK2.out
    rcases he6 with ⟨h, _⟩ | ⟨_, hp6⟩
    · exact absurd rfl h
    obtain ⟨a6, cap6, rfl, hr6⟩ := hp6
    have HX6 : Hid (Box w6 w.heap.size (len1 : Int) a1 len1 cap1) := X5.step hb
    have hr46 := hr45.below hb
    have hr56 := hr5.below hb
    have HB6 : Hid (Below w.heap.size w w6) := Below.then HB5.out hb
    clear hb X5 R25 HB5 hc6 y50 y51 hr45 hr5
    generalize idls (jn (nat f1) len1 (nat f2) 0) NN = LU at *
    generalize idls (nat f1) len1 = LS at *
    generalize idls (nat f2) len2 = LV at *
    generalize LS.length = ms at *
    generalize LV.length = mv at *
    have HR4 : Hid (Row w6 a4 ms (fun k => (nth LS k : Nat))) := hr46
    have HR5 : Hid (Row w6 a5 (ms * mv) (fun k => (nth LU k : Nat))) := hr56
    have HR6 : Hid (Row w6 a6 mv (fun k => (nth LV k : Nat))) := hr6
    clear hr46 hr56 hr6
    have hmm : ms * mv ≤ 1048576 := Nat.le_trans (Nat.mul_le_mul hm1 hm2) (by decide)
    obtain ⟨mu, HMU⟩ : ∃ mu, Hid (mu = ms * mv) := ⟨_, rfl⟩
    rw [← HMU.out] at HR5 hmm HLA
    rw [← HMU.out]
    have hmulI : (ms : Int) * (mv : Int) = (mu : Int) := by rw [HMU.out]; simp
    have hne0 : ((ms : Int) == 0) = false := by simp; omega
    clear HLL HKJ HK1 HK2 HNN
    go_wp2_with fail
    clear hmulI hne0
    have hpw1 := pw_le len1 h10
    have hpw2 := pw_le len2 h20
    go_loopw [12] (fun t wx => ∃ i : Nat, i ≤ mu ∧ t = .int .i64 i ∧ Hid (Below w6.heap.size w6 wx)) (fun t _ => mu - (intOf t).toNat)
    case atStart => exact ⟨0, Nat.zero_le _, rfl, Below.refl _ _⟩
    case round =>
      obtain ⟨i, hi, rfl, hB⟩ := hrel
      by_cases hlt : i < mu
      · have hr : i % ms < ms := Nat.mod_lt _ hp1
        have hq : i / ms < mv := Nat.div_lt_of_lt_mul (by rw [← HMU.out]; exact hlt)
        obtain ⟨b5, o5, rfl, hc5⟩ := (HR5.out.below hB.out).at hlt
        obtain ⟨b4, o4, rfl, hc4⟩ := (HR4.out.below hB.out).at hr
        obtain ⟨b6, o6, rfl, hc6⟩ := (HR6.out.below hB.out).at hq
        have d5 := hc5 i hlt
        have d4 := hc4 (i % ms) hr
        have d6 := hc6 (i / ms) hq
        obtain ⟨c0, c1⟩ := HX6.out.step hB.out
        have hsum := HLA.out i hlt
        have hv1 := HV1.out _ hr
        have hv2 := HV2.out _ hq
        have hrI : (i : Int) % (ms : Int) < (ms : Int) := by exact_mod_cast hr
        have hqI : (i : Int) / (ms : Int) < (mv : Int) := by exact_mod_cast hq
        have hrI0 : 0 ≤ (i : Int) % (ms : Int) := by exact_mod_cast Nat.zero_le (i % ms)
        have hqI0 : 0 ≤ (i : Int) / (ms : Int) := by exact_mod_cast Nat.zero_le (i / ms)
        have hlt' : (i : Int) < (mu : Int) := by omega
        clear hc5 hc4 hc6
        generalize nth LU i = A at *
        generalize nth LS (i % ms) = B at *
        generalize nth LV (i / ms) = V at *
        generalize hP : pw len1 = P at *
        have HP : Hid (pw len1 = P) := hP
        have hvp : V * P ≤ 1048576 := Nat.le_trans (Nat.mul_le_mul (show V ≤ 1024 by omega) hpw1) (by decide)
        obtain ⟨X, HX⟩ : ∃ X : Nat, Hid (X = V * P) := ⟨_, rfl⟩
        rw [← HX.out] at hvp hsum
        have hmul : (V : Int) * (P : Int) = (X : Int) := by rw [HX.out]; simp
        have hne : ((A : Int) != (B : Int) + (X : Int)) = false := by simp; omega
        have HSUM : Hid (A = B + X) := hsum
        have hB2 : B ≤ 1024 := by omega
        clear hP hsum
        go_wp2
        go_quiet ((go_at_call 23; exact Calls.quiet_of_same (bit_as _ _ _ HP.out (by omega))))
        go_wp2
        go_roundw
        case rel => exact ⟨i + 1, by omega, by go_num, below_drewN hB.out _⟩
        case measure => simp [intOf]; omega
      · have him : i = mu := by omega
        subst him
        go_wp2
        go_ret
        exact ⟨rfl, Below.then HB6.out hB.out⟩
  · have hne : (c != 0) = true := by simpa using h0
    rcases hx with ⟨_, rfl⟩ | ⟨h, _⟩
    · unfold noOrder
      have HB3 : Hid (Below w.heap.size w (w2.alloc (.cells #[.int .i64 0, .slice none 0 0] 24))) := HB2.out.alloc (by omega) _
      clear HB2 X2 Y2 hc
      go_wp2_with fail
      go_ret
      exact ⟨rfl, HB3.out⟩
    · exact absurd h h0
end Go.Proofs.Ytnjmelbnamgjcab
