/-
  That hasselaw.ExtendSides answers true. No condition but that slices read as slices of numbers.
-/
import Derived.Test.YtbcikonkokahlaaSidesW
import Derived.Test.YtbcikonkokahlaaOver
import Derived.Test.YtbcikonkokahlaaCounts
namespace Go.Proofs.Ytbcikonkokahlaa
open Go.RowKit

theorem div_step (a t : Nat) : cb a t * (a + t + 1) / (t + 1) = cb a (t + 1) := by
  rw [← cb_step _ a t (Nat.le_refl _)]; exact Nat.mul_div_cancel _ (by omega)

set_option maxHeartbeats 2000000 in
theorem extendSides_any (n1 : Int) (a1 : Option Addr) (len1 cap1 : Nat) (f1 : Nat → Int) (n2 : Int) (a2 : Option Addr) (len2 cap2 : Nat) (f2 : Nat → Int) (w : World) (hl1 : len1 ≤ maxLen) (hl2 : len2 ≤ maxLen)
    (hz : a1 = none → len1 = 0 ∧ cap1 = 0) (hr1 : Row w a1 len1 f1) (hr2 : Row w a2 len2 f2) :
    Calls Try.prog 3 #[.agg #[.int .i64 n1, .slice a1 len1 cap1], .agg #[.int .i64 n2, .slice a2 len2 cap2]] w fun e w' => e = .returned (.bool true) ∧ Below w.heap.size w w' := by
  have b1 := (Below.refl w.heap.size w).alloc (Nat.le_refl _) (.cells #[.int .i64 n1, .slice a1 len1 cap1] 24)
  have X0 := (Box.new w n1 a1 len1 cap1).step ((Below.refl _ _).alloc (Nat.le_refl _) (.cells #[.int .i64 n2, .slice a2 len2 cap2] 24))
  have Y0 := Box.new (w.alloc (.cells #[.int .i64 n1, .slice a1 len1 cap1] 24)) n2 a2 len2 cap2
  simp only [World.size_alloc] at Y0
  have hb0 := b1.alloc (by simp) (.cells #[.int .i64 n2, .slice a2 len2 cap2] 24)
  have R10 := hr1.below hb0
  have R20 := hr2.below hb0
  have HB0 : Hid (Below w.heap.size w ((w.alloc (.cells #[.int .i64 n1, .slice a1 len1 cap1] 24)).alloc (.cells #[.int .i64 n2, .slice a2 len2 cap2] 24))) := hb0
  clear b1 hb0 hr1 hr2
  go_enter Try.func3, Try.ntmps3
  go_wp2_with fail
  refine (extendBegun_any _).mono ?_
  rintro e w1 ⟨rfl, hb⟩
  have X1 := X0.step hb
  have Y1 := Y0.step hb
  have R11 := R10.below hb
  have R21 := R20.below hb
  have HB1 : Hid (Below w.heap.size w w1) := Below.then HB0.out hb
  obtain ⟨x0, x1⟩ := X0.step hb
  obtain ⟨y0, y1⟩ := Y0.step hb
  clear hb X0 Y0 R10 R20 HB0
  go_wp2_with fail
  refine (beside_any n1 a1 len1 cap1 f1 n2 a2 len2 cap2 f2 _ hl1 hl2 hz R11 R21).mono ?_
  rintro e w2 ⟨⟨c, x, hc, rfl, hx⟩, hb⟩
  have X2 := X1.step hb
  have Y2 := Y1.step hb
  have R12 := R11.below hb
  have R22 := R21.below hb
  have HB2 : Hid (Below w.heap.size w w2) := Below.then HB1.out hb
  have hl2' : w.heap.size + 1 < w2.heap.size := Y2.lt
  clear hb X1 Y1 R11 R21 HB1 x0 x1 y0 y1
  by_cases h0 : c = 0
  · subst h0
    obtain ⟨hc2, hn⟩ : Chk2 n1 len1 f1 n2 len2 f2 0 ∧ len1 + len2 ≤ 10 := by
      rcases hc with ⟨h, _⟩ | ⟨h, ⟨h2, _⟩ | ⟨_, h3⟩⟩
      · exact absurd rfl h
      · cases h2
      · exact ⟨h, h3⟩
    obtain ⟨k1, k2⟩ := hc2.good
    obtain ⟨rfl, h10, hrng1, ho1⟩ := k1.good
    obtain ⟨rfl, h20, hrng2, ho2⟩ := k2.good
    rcases hx with ⟨h, _⟩ | ⟨_, a', cap', rfl, hrow⟩
    · exact absurd rfl h
    have HK1 : Hid (Chk (len1 : Int) len1 f1 0) := k1
    have HK2 : Hid (Chk (len2 : Int) len2 f2 0) := k2
    have HJC : Hid (JChk (len1 : Int) len1 f1 (len2 : Int) len2 f2 0) := hc
    have HKB : Hid (Chk ((len1 + len2 : Nat) : Int) (len1 + len2) (fun k => ((jn (nat f1) len1 (nat f2) 0 k : Nat) : Int)) 0) := jn_chk hn (pw_pos _) (flat_zero _) hrng1.small hrng2.small ho1 ho2
    have HKO : Hid (Chk ((len1 + len2 : Nat) : Int) (len1 + len2) (fun k => ((jn (nat f1) len1 (nat f2) (pw len1 - 1) k : Nat) : Int)) 0) := jn_chk hn (by have := pw_pos len1; omega) (flat_all _) hrng1.small hrng2.small ho1 ho2
    have HWB : Hid (ways (jn (nat f1) len1 (nat f2) 0) (len1 + len2) 0 = cb len1 len2 * (ways (nat f1) len1 0 * ways (nat f2) len2 0)) := rows_beside hn hrng1.small hrng2.small
    have HWO : Hid (ways (jn (nat f1) len1 (nat f2) (pw len1 - 1)) (len1 + len2) 0 = ways (nat f1) len1 0 * ways (nat f2) len2 0) := rows_over hn hrng1.small hrng2.small
    have HA : Hid (0 < ways (nat f1) len1 0) := ways_some h10 hrng1.small ho1
    have HBp : Hid (0 < ways (nat f2) len2 0) := ways_some h20 hrng2.small ho2
    have HPS : Hid (ways (jn (nat f1) len1 (nat f2) 0) (len1 + len2) 0 ≤ 10000000000) := ways_small hn (pw_pos _)
    clear hc hc2 k1 k2 hrng1 hrng2 ho1 ho2
    have hllm : len1 + len2 ≤ maxLen := by unfold maxLen; omega
    obtain ⟨N, HN⟩ : ∃ N, Hid (N = len1 + len2) := ⟨_, rfl⟩
    rw [← HN.out] at hrow hn HKB HKO HWB HWO HPS hllm ⊢
    have bW := (Below.refl w2.heap.size w2).alloc (Nat.le_refl _) (.cells #[.int .i64 (N : Int), .slice a' N cap'] 24)
    have X3 := X2.step bW
    have Y3 := Y2.step bW
    have P3 := Box.new w2 (N : Int) a' N cap'
    have R13 := R12.below bW
    have R23 := R22.below bW
    have RP3 := hrow.below bW
    have HB3 : Hid (Below w.heap.size w (w2.alloc (.cells #[.int .i64 (N : Int), .slice a' N cap'] 24))) := Below.then HB2.out bW
    clear bW X2 Y2 R12 R22 HB2 hrow
    obtain ⟨x0, x1⟩ := X3
    obtain ⟨y0, y1⟩ := Y3
    go_wp2_with fail
    obtain ⟨W3, HW3⟩ : ∃ W3, Hid (W3 = w2.alloc (.cells #[.int .i64 (N : Int), .slice a' N cap'] 24)) := ⟨_, rfl⟩
    rw [← HW3.out] at x0 x1 y0 y1 P3 R13 R23 RP3 HB3 ⊢
    refine (over_any len1 a1 len1 cap1 f1 len2 a2 len2 cap2 f2 _ hl1 hl2 hz R13 R23).mono ?_
    rintro e w4 ⟨⟨c, x, hc, rfl, hx⟩, hb⟩
    obtain rfl := hc.unique HJC.out
    rw [← HN.out] at hx
    rcases hx with ⟨h, _⟩ | ⟨_, a4, cap4, rfl, hrow4⟩
    · exact absurd rfl h
    have bW := (Below.refl w4.heap.size w4).alloc (Nat.le_refl _) (.cells #[.int .i64 (N : Int), .slice a4 N cap4] 24)
    have bX := Below.then hb bW
    have X5 := Box.step ⟨x0, x1⟩ bX
    have Y5 := Box.step ⟨y0, y1⟩ bX
    have P5 := P3.step bX
    have Q5 := Box.new w4 (N : Int) a4 N cap4
    have R15 := R13.below bX
    have R25 := R23.below bX
    have RP5 := RP3.below bX
    have RQ5 := hrow4.below bW
    have HB5 : Hid (Below w.heap.size w (w4.alloc (.cells #[.int .i64 (N : Int), .slice a4 N cap4] 24))) := Below.then HB3.out bX
    clear bW bX hb R13 R23 RP3 HB3 x0 x1 y0 y1 P3 hrow4 hc HJC HW3
    have HX5 : Hid (Box (w4.alloc (.cells #[.int .i64 (N : Int), .slice a4 N cap4] 24)) w.heap.size (len1 : Int) a1 len1 cap1) := X5
    have HY5 : Hid (Box (w4.alloc (.cells #[.int .i64 (N : Int), .slice a4 N cap4] 24)) (w.heap.size + 1) (len2 : Int) a2 len2 cap2) := Y5
    have HP5 : Hid (Box (w4.alloc (.cells #[.int .i64 (N : Int), .slice a4 N cap4] 24)) w2.heap.size (N : Int) a' N cap') := P5
    have HQ5 : Hid (Box (w4.alloc (.cells #[.int .i64 (N : Int), .slice a4 N cap4] 24)) w4.heap.size (N : Int) a4 N cap4) := Q5
    obtain ⟨x0, x1⟩ := X5
    clear Y5 P5 Q5
    go_wp2_with fail
    obtain ⟨W5, HW5⟩ : ∃ W5, Hid (W5 = w4.alloc (.cells #[.int .i64 (N : Int), .slice a4 N cap4] 24)) := ⟨_, rfl⟩
    rw [← HW5.out] at R15 R25 RP5 RQ5 HB5 HX5 HY5 HP5 HQ5 ⊢
    clear HW5 x0 x1
    refine (count_any len1 a1 len1 cap1 f1 _ hl1 R15).mono ?_
    rintro e w6 ⟨⟨c, hc, he⟩, hb6⟩
    obtain rfl := Chk.unique hc HK1.out
    rcases he with ⟨h0, _⟩ | ⟨_, rfl⟩
    · exact absurd rfl h0
    clear hc
    have HB6 : Hid (Below W5.heap.size W5 w6) := hb6
    obtain ⟨y0, y1⟩ := HY5.out.step hb6
    obtain ⟨A, HAE⟩ : ∃ A, Hid (A = ways (nat f1) len1 0) := ⟨_, rfl⟩
    rw [← HAE.out] at HA HWB HWO ⊢
    go_wp2_with fail
    refine (count_any len2 a2 len2 cap2 f2 _ hl2 (R25.below hb6)).mono ?_
    rintro e w7 ⟨⟨c, hc, he⟩, hb7⟩
    obtain rfl := Chk.unique hc HK2.out
    rcases he with ⟨h0, _⟩ | ⟨_, rfl⟩
    · exact absurd rfl h0
    have hb57 := Below.then hb6 hb7
    clear hc hb6 hb7 HB6 y0 y1
    obtain ⟨p0, p1⟩ := HP5.out.step hb57
    obtain ⟨B, HBE⟩ : ∃ B, Hid (B = ways (nat f2) len2 0) := ⟨_, rfl⟩
    rw [← HBE.out] at HBp HWB HWO ⊢
    have HB7 : Hid (Below W5.heap.size W5 w7) := hb57
    have RP7 := RP5.below hb57
    clear hb57
    go_wp2_with fail
    refine (count_any N a' N cap' (fun k => ((jn (nat f1) len1 (nat f2) 0 k : Nat) : Int)) _ hllm RP7).mono ?_
    rintro e w8 ⟨⟨c, hc, he⟩, hb8⟩
    obtain rfl := Chk.unique hc HKB.out
    rcases he with ⟨h0, _⟩ | ⟨_, rfl⟩
    · exact absurd rfl h0
    rw [nat_cast]
    have hb58 := Below.then HB7.out hb8
    clear hc hb8 p0 p1 RP7 HB7
    obtain ⟨q0, q1⟩ := HQ5.out.step hb58
    obtain ⟨Pn, HPE⟩ : ∃ Pn, Hid (Pn = ways (jn (nat f1) len1 (nat f2) 0) N 0) := ⟨_, rfl⟩
    rw [← HPE.out] at HWB HPS ⊢
    have HB8 : Hid (Below W5.heap.size W5 w8) := hb58
    have RQ8 := RQ5.below hb58
    clear hb58
    go_wp2_with fail
    refine (count_any N a4 N cap4 (fun k => ((jn (nat f1) len1 (nat f2) (pw len1 - 1) k : Nat) : Int)) _ hllm RQ8).mono ?_
    rintro e w9 ⟨⟨c, hc, he⟩, hb9⟩
    obtain rfl := Chk.unique hc HKO.out
    rcases he with ⟨h0, _⟩ | ⟨_, rfl⟩
    · exact absurd rfl h0
    rw [nat_cast]
    have hb59 := Below.then HB8.out hb9
    clear hc hb9 q0 q1 RQ8 HB8
    obtain ⟨x0, x1⟩ := HX5.out.step hb59
    obtain ⟨y0, y1⟩ := HY5.out.step hb59
    obtain ⟨Qn, HQE⟩ : ∃ Qn, Hid (Qn = ways (jn (nat f1) len1 (nat f2) (pw len1 - 1)) N 0) := ⟨_, rfl⟩
    rw [← HQE.out] at HWO ⊢
    have HB9 : Hid (Below w.heap.size w w9) := Below.then HB5.out hb59
    clear hb59 HX5 HY5 HP5 HQ5 HB5 R15 R25 RP5 RQ5
    go_wp2_with fail
    have HCB : Hid (∀ t, t ≤ len2 → cb len1 t ≤ 1024) := fun t ht => Nat.le_trans (cb_le _ len1 t (Nat.le_refl _)) (pw_le _ (by have := HN.out; omega))
    go_loop [17, 18] (fun v i => ∃ t : Nat, t ≤ len2 ∧ v = .int .i64 (cb len1 t : Nat) ∧ i = .int .i64 ((t + 1 : Nat) : Int)) (fun _ i => len2 + 1 - (intOf i).toNat)
    case atStart => exact ⟨0, Nat.zero_le _, by rw [cb_zero]; rfl, rfl⟩
    case round =>
      obtain ⟨t, ht, rfl, rfl⟩ := hrel
      have hX := HCB.out t ht
      by_cases htl : t < len2
      · have HD : Hid (cb len1 t * (len1 + t + 1) / (t + 1) = cb len1 (t + 1)) := div_step len1 t
        have hle : ((t : Nat) : Int) + 1 ≤ (len2 : Int) := by omega
        have hz1 : ((t : Nat) : Int) + 1 ≠ 0 := by omega
        generalize cb len1 t = X at *
        have hm1 : (X : Int) * ((len1 : Int) + ((t : Int) + 1)) ≤ 20480 := by
          have : X * (len1 + (t + 1)) ≤ 1024 * 20 := Nat.mul_le_mul hX (by omega)
          have e : (X : Int) * ((len1 : Int) + ((t : Int) + 1)) = ((X * (len1 + (t + 1)) : Nat) : Int) := by push_cast; rfl
          omega
        have hm0 : 0 ≤ (X : Int) * ((len1 : Int) + ((t : Int) + 1)) := by
          have e : (X : Int) * ((len1 : Int) + ((t : Int) + 1)) = ((X * (len1 + (t + 1)) : Nat) : Int) := by push_cast; rfl
          omega
        go_wp2_with fail
        go_round
        case rel =>
          have e : (X : Int) * ((len1 : Int) + ((t : Int) + 1)) / ((t : Int) + 1) = ((X * (len1 + t + 1) / (t + 1) : Nat) : Int) := by push_cast; rw [Int.add_assoc]
          exact ⟨t + 1, by omega, by rw [e, HD.out], by go_num⟩
        case measure => simp [intOf]; omega
      · have htn : t = len2 := by omega
        subst htn
        clear htl
        have hPe := HWB.out
        have hQe := HWO.out
        have hgt : (t : Int) < ((t + 1 : Nat) : Int) := by omega
        have hA := HA.out
        have hB := HBp.out
        have hPS := HPS.out
        have hXp := cb_some _ len1 t (Nat.le_refl _)
        generalize cb len1 t = X at *
        have hXA : X * A ≤ Pn := by
          rw [hPe, ← Nat.mul_assoc]; exact Nat.le_mul_of_pos_right _ hB
        have hAB : Qn ≤ Pn := by
          rw [hPe, hQe]; exact Nat.le_mul_of_pos_left _ hXp
        have e1 : (X : Int) * (A : Int) = ((X * A : Nat) : Int) := by push_cast; rfl
        have e2 : (X : Int) * (A : Int) * (B : Int) = (Pn : Int) := by rw [hPe]; push_cast; rw [Int.mul_assoc]
        have e3 : (A : Int) * (B : Int) = (Qn : Int) := by rw [hQe]; push_cast; rfl
        have m0 : 0 ≤ (X : Int) * (A : Int) := by omega
        have m1 : (X : Int) * (A : Int) ≤ 10000000000 := by omega
        have m2 : 0 ≤ (X : Int) * (A : Int) * (B : Int) := by omega
        have m3 : (X : Int) * (A : Int) * (B : Int) ≤ 10000000000 := by omega
        have m4 : 0 ≤ (A : Int) * (B : Int) := by omega
        have m5 : (A : Int) * (B : Int) ≤ 10000000000 := by omega
        have q1 : ((Pn : Int) == (X : Int) * (A : Int) * (B : Int)) = true := by simp [e2]
        have q2 : ((Qn : Int) == (A : Int) * (B : Int)) = true := by simp [e3]
        have q3 : (0 : Int) < (A : Int) := by omega
        clear e1 e2 e3 hXA hAB hPe hQe HWB HWO
        go_wp2_with fail
        go_ret
        exact ⟨rfl, HB9.out⟩
  · have hne : (c != 0) = true := by simpa using h0
    rcases hx with ⟨_, rfl⟩ | ⟨h, _⟩
    · have HC : Hid (JChk n1 len1 f1 n2 len2 f2 c) := hc
      have bW := (Below.refl w2.heap.size w2).alloc (Nat.le_refl _) (.cells #[.int .i64 0, .slice none 0 0] 24)
      have X3 := X2.step bW
      have Y3 := Y2.step bW
      have R13 := R12.below bW
      have R23 := R22.below bW
      have HB3 : Hid (Below w.heap.size w (w2.alloc (.cells #[.int .i64 0, .slice none 0 0] 24))) := Below.then HB2.out bW
      clear bW X2 Y2 R12 R22 HB2 hc
      obtain ⟨x0, x1⟩ := X3
      obtain ⟨y0, y1⟩ := Y3
      unfold noOrder
      go_wp2_with fail
      refine (over_any n1 a1 len1 cap1 f1 n2 a2 len2 cap2 f2 _ hl1 hl2 hz R13 R23).mono ?_
      rintro e w4 ⟨⟨c', x, hc', rfl, hx⟩, hb⟩
      obtain rfl := hc'.unique HC.out
      have HB4 : Hid (Below w.heap.size w w4) := Below.then HB3.out hb
      rcases hx with ⟨_, rfl⟩ | ⟨h, _⟩
      · clear hb HB3 R13 R23 x0 x1 y0 y1 hc' HC
        unfold noOrder
        go_wp2_with fail
        go_ret
        exact ⟨rfl, HB4.out.alloc HB4.out.size _⟩
      · exact absurd h h0
    · exact absurd h h0
end Go.Proofs.Ytbcikonkokahlaa
