/-
  What order.pairsUpTo answers of two orders that were looked at. Conditions: as the theorem says.
-/
import Derived.Test.YtinblbkglkhjmaaDoorTimesM
namespace Go.Proofs.YtinblbkglkhjmaaDoor
open Go.RowKit

theorem wrap_shl2 {x q : Nat} (hx : x * pw q < 2000000) : wrap64 ((x : Int) * 2 ^ q) = ((x * pw q : Nat) : Int) := by
  rw [show ((x : Int) * 2 ^ q) = ((x * pw q : Nat) : Int) by simp [pw]]
  generalize x * pw q = y at *
  exact IntWalk.wrap64_in _ ⟨by omega, by omega⟩

theorem wrap_shl3 {x q P : Nat} (h : x * pw q < P) (hP : P ≤ 1024) : wrap64 ((x : Int) * 2 ^ q) = ((x * pw q : Nat) : Int) := wrap_shl2 (by omega)
theorem or_small2 {a b P : Nat} (ha : a < P) (hb : b < P) (hP : P ≤ 1024) : bits .or .i64 (a : Int) (b : Int) = ((a ||| b : Nat) : Int) := i64_or a b (by omega) (by omega)
theorem wrap_pow' (n : Nat) (h : n < 62) : IntKind.i64.wrap (2 ^ n) = ((pw n : Nat) : Int) := by
  have := pw_small n h
  rw [show ((2 : Int) ^ n) = ((pw n : Nat) : Int) by simp [pw]]
  generalize pw n = m at *
  exact wrap_i64_small _ (by omega) (by omega)

set_option maxHeartbeats 1000000 in
theorem upTo_any (n : Int) (a : Option Addr) (len cap : Nat) (g : Nat → Nat) (x : Nat) (w : World) (h10 : len ≤ 10) (hg : ∀ k, k < len → g k < 1024) (hr : Row w a len (fun k => (g k : Nat))) (hx : x < len) :
    Calls Tryd.prog 44 #[.agg #[.int .i64 n, .slice a len cap], .int .i64 (x : Nat)] w fun e w' => e = .returned (.int .i64 (g x ||| pw x : Nat)) ∧ Below w.heap.size w w' := by
  have HB0 : Hid (Below w.heap.size w (w.alloc (.cells #[.int .i64 n, .slice a len cap] 24))) := (Below.refl _ _).alloc (Nat.le_refl _) _
  obtain ⟨b, off, rfl, hc⟩ := hr x hx
  have c1 : (w.alloc (.cells #[.int .i64 n, .slice (some ⟨b, off, none⟩) len cap] 24)).cell? ⟨b, off + x, none⟩ = some (.int .i64 (g x : Nat)) := (HB0.out.cell (World.block_lt_of_cell? _ _ hc)).trans hc
  have hx' : (x : Int) < (len : Int) := by omega
  have HV : Hid (bits .or .i64 ((g x : Nat) : Int) (wrap64 (2 ^ x)) = ((g x ||| pw x : Nat) : Int)) := by
    rw [wrap_pow x (by omega)]
    refine i64_or _ _ ?_ ?_
    · have := hg x hx; omega
    · have : pw x < 2 ^ 10 := Nat.pow_lt_pow_right (by decide) (by omega)
      omega
  clear hr hc hg
  go_enter Tryd.func44, Tryd.ntmps44
  go_wp2
  go_big_quiet (fail)
  go_wp2
  go_ret
  exact ⟨by rw [← HV.out]; rfl, below_drewN HB0.out _⟩

set_option maxHeartbeats 2000000 in
theorem pairsUpTo_any (a1 : Option Addr) (len1 cap1 : Nat) (g1 : Nat → Nat) (a2 : Option Addr) (len2 cap2 : Nat) (g2 : Nat → Nat) (x y : Nat) (w : World) (h1 : len1 ≤ 10) (h2 : len2 ≤ 10) (hN : len1 * len2 ≤ 10) (hg1 : ∀ k, k < len1 → g1 k < pw len1) (hg2 : ∀ k, k < len2 → g2 k < pw len2) (hx : x < len1) (hy : y < len2)
    (hr1 : Row w a1 len1 (fun k => (g1 k : Nat))) (hr2 : Row w a2 len2 (fun k => (g2 k : Nat))) (hT : Tab w) :
    Calls Tryd.prog 27 #[.agg #[.int .i64 (len1 : Int), .slice a1 len1 cap1], .agg #[.int .i64 (len2 : Int), .slice a2 len2 cap2], .int .i64 x, .int .i64 y] w fun e w' =>
      e = .returned (.int .i64 (prsTo (g2 y ||| pw y) len2 (pts (g1 x ||| pw x) 10) (pts (g1 x ||| pw x) 10).length : Nat)) ∧ Below w.heap.size w w' := by
  obtain ⟨W3, HW⟩ : ∃ W3, Hid (W3 = (w.alloc (.cells #[.int .i64 (len1 : Int), .slice a1 len1 cap1] 24)).alloc (.cells #[.int .i64 (len2 : Int), .slice a2 len2 cap2] 24)) := ⟨_, rfl⟩
  have b1 := (Below.refl w.heap.size w).alloc (Nat.le_refl _) (.cells #[.int .i64 (len1 : Int), .slice a1 len1 cap1] 24)
  have X3 := (Box.new w (len1 : Int) a1 len1 cap1).step ((Below.refl _ _).alloc (Nat.le_refl _) (.cells #[.int .i64 (len2 : Int), .slice a2 len2 cap2] 24))
  have Y3 := Box.new (w.alloc (.cells #[.int .i64 (len1 : Int), .slice a1 len1 cap1] 24)) (len2 : Int) a2 len2 cap2
  simp only [World.size_alloc] at Y3
  have hbw : Below w.heap.size w W3 := by rw [HW.out]; exact b1.alloc (by simp) _
  rw [← HW.out] at X3 Y3
  have HS : Hid (g1 x ||| pw x < pw len1) := Nat.or_lt_two_pow (hg1 _ hx) (Nat.pow_lt_pow_right (by decide) hx)
  have HRW : Hid (g2 y ||| pw y < pw len2) := Nat.or_lt_two_pow (hg2 _ hy) (Nat.pow_lt_pow_right (by decide) hy)
  have HU2 : Hid (∀ W', Below W3.heap.size W3 W' → Calls Tryd.prog 44 #[.agg #[.int .i64 (len2 : Int), .slice a2 len2 cap2], .int .i64 (y : Nat)] W' fun e w' => e = .returned (.int .i64 (g2 y ||| pw y : Nat)) ∧ Below W'.heap.size W' w') := fun W' h => upTo_any len2 a2 len2 cap2 g2 y W' h2 (fun k hk => Nat.lt_of_lt_of_le (hg2 k hk) (pw_le len2 h2)) ((hr2.below hbw).below h) hy
  have HU1 : Hid (∀ W', Below W3.heap.size W3 W' → Calls Tryd.prog 44 #[.agg #[.int .i64 (len1 : Int), .slice a1 len1 cap1], .int .i64 (x : Nat)] W' fun e w' => e = .returned (.int .i64 (g1 x ||| pw x : Nat)) ∧ Below W'.heap.size W' w') := fun W' h => upTo_any len1 a1 len1 cap1 g1 x W' h1 (fun k hk => Nat.lt_of_lt_of_le (hg1 k hk) (pw_le len1 h1)) ((hr1.below hbw).below h) hx
  obtain ⟨c1, o1, rfl, hc1⟩ := (hr1.below hbw).at hx
  obtain ⟨c2, o2, rfl, hc2⟩ := (hr2.below hbw).at hy
  obtain ⟨x30, x31⟩ := X3
  obtain ⟨y30, y31⟩ := Y3
  have hx' : (x : Int) < (len1 : Int) := by omega
  have hy' : (y : Int) < (len2 : Int) := by omega
  have HB3 : Hid (Below w.heap.size w W3) := hbw
  have HT3 : Hid (Tab W3) := hT.step hbw
  have HY3 : Hid (Box W3 (w.heap.size + 1) (len2 : Int) (some ⟨c2, o2, none⟩) len2 cap2) := ⟨y30, y31⟩
  have HX3 : Hid (Box W3 w.heap.size (len1 : Int) (some ⟨c1, o1, none⟩) len1 cap1) := ⟨x30, x31⟩
  clear b1 hc1 hc2 hbw hg1 hg2 hr1 hr2 hT
  generalize g1 x ||| pw x = s at *
  generalize g2 y ||| pw y = row at *
  have HNN : Hid (len1 * len2 ≤ 10) := hN
  obtain ⟨L, HLE⟩ : ∃ L, Hid (L = pts s 10) := ⟨_, rfl⟩
  rw [← HLE.out]
  obtain ⟨m, HME⟩ : ∃ m, Hid (m = L.length) := ⟨_, rfl⟩
  rw [← HME.out]
  go_enter Tryd.func27, Tryd.ntmps27
  go_wp2_with fail
  rw [← HW.out]
  refine (HU2.out _ (Below.refl _ _)).mono ?_
  rintro e w4 ⟨rfl, hb4⟩
  obtain ⟨x40, x41⟩ := HX3.out.step hb4
  have HB4 : Hid (Below W3.heap.size W3 w4) := hb4
  have hps := pw_le len1 h1
  have hs1024 : s < 1024 := Nat.lt_of_lt_of_le HS.out hps
  clear x30 x31 y30 y31 hps h2 hN hy hy' hb4
  go_wp2_with fail
  refine (HU1.out _ HB4.out).mono ?_
  rintro e w6 ⟨rfl, hb6⟩
  have HB6 : Hid (Below W3.heap.size W3 w6) := Below.then HB4.out hb6
  clear hb6 x40 x41
  go_wp2_with fail
  refine (members_any s _ hs1024 (HT3.out.step HB6.out)).mono ?_
  rintro e w5 ⟨⟨v, rfl, hv⟩, hb⟩
  obtain ⟨a5, cap5, rfl, hr5⟩ := hv
  have hb5 : Below W3.heap.size W3 w5 := Below.then HB6.out hb
  have HB5 : Hid (Below w.heap.size w w5) := Below.then HB3.out hb5
  obtain ⟨y50, y51⟩ := HY3.out.step hb5
  have HL : Hid (∀ j, j < (pts s 10).length → nth (pts s 10) j < len1) := fun j hj => bit_of_lt HS.out ((pts_mem s 10 _).1 (nth_mem.2 ⟨j, hj, rfl⟩)).2
  have hlen := pts_len s 10
  have HPL : Hid (∀ k, k ≤ (pts s 10).length → prsTo row len2 (pts s 10) k < pw (len1 * len2)) := prsTo_lt HRW.out HL.out
  have HR5 : Hid (Row w5 a5 (pts s 10).length (fun k => (nth (pts s 10) k : Nat))) := hr5
  have HSL : Hid (∀ q, q < len1 → row * pw (q * len2) < pw (len1 * len2)) := fun q hq => shift_lt HRW.out hq
  have hpN := pw_le (len1 * len2) HNN.out
  have HML : Hid (∀ q, q < len1 → q * len2 ≤ 10) := fun q hq => Nat.le_trans (Nat.mul_le_mul_right _ (Nat.le_of_lt hq)) HNN.out
  clear hb hb5 hr5 HX3 HY3 HU1 HU2
  rw [← HLE.out] at HL hlen HPL HR5
  rw [← HME.out] at HL hlen HPL HR5
  rw [← HLE.out, ← HME.out]
  generalize pw (len1 * len2) = PN at *
  go_wp2_with fail
  go_loop [10, 21] (fun v t => ∃ k : Nat, k ≤ m ∧ t = .int .i64 k ∧ v = .int .i64 (prsTo row len2 L k : Nat)) (fun _ t => m - (intOf t).toNat)
  case atStart => exact ⟨0, Nat.zero_le _, rfl, rfl⟩
  case round =>
    obtain ⟨k, hk, rfl, rfl⟩ := hrel
    by_cases hlt : k < m
    · obtain ⟨b6, o6, rfl, hc6⟩ := HR5.out.at hlt
      have d6 := hc6 k hlt
      clear hc6
      have hp := HL.out k hlt
      have hsl := HSL.out _ hp
      have hml := HML.out _ hp
      have hpr := HPL.out k hk
      have HST : Hid (prsTo row len2 L (k + 1) = prsTo row len2 L k ||| row * pw (nth L k * len2)) := rfl
      have hmul : ((nth L k : Nat) : Int) * (len2 : Int) = ((nth L k * len2 : Nat) : Int) := by simp
      generalize nth L k * len2 = q at *
      have hsh := wrap_shl3 hsl hpN
      have hor := or_small2 hpr hsl hpN
      generalize row * pw q = V at *
      generalize prsTo row len2 L k = PR at *
      generalize nth L k = p at *
      go_wp2
      go_round
      case rel => exact ⟨k + 1, by omega, by go_num, by rw [HST.out]⟩
      case measure => simp [intOf]; omega
    · have hkm : k = m := by omega
      subst hkm
      go_wp2
      go_ret
      exact ⟨rfl, HB5.out⟩
end Go.Proofs.YtinblbkglkhjmaaDoor
