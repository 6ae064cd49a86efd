/-
  That hasselaw.LevelLongest answers true. Conditions: the library's table lies in its variable; a slice reads as a slice of numbers.
-/
import Derived.Test.YtpagbjblibckoaaDoorLongest
import Derived.Test.YtpagbjblibckoaaDoorRefLongest
import Derived.Test.YtpagbjblibckoaaDoorLevBegun
namespace Go.Proofs.YtpagbjblibckoaaDoor
open Go.RowKit

/-- What hasselaw.numbersAre answers of two lists that are the same, or of an error and nothing. -/
theorem numsAre_any (c : Int) (a a' : Option Addr) (m ca ca' : Nat) (F : Nat → Int) (w : World) (hl : m ≤ maxLen) (h1 : (c ≠ 0 ∧ m = 0) ∨ (c = 0 ∧ Row w a m F ∧ Row w a' m F)) :
    Calls Tryd.prog 9 #[.slice a m ca, .int .i64 c, .int .i64 c, .slice a' m ca'] w fun e w' => e = .returned (.bool true) ∧ Below w.heap.size w w' := by
  rcases h1 with ⟨h0, rfl⟩ | ⟨rfl, hr, hr'⟩
  · have hne : (c != 0) = true := by simpa using h0
    go_enter Tryd.func9, Tryd.ntmps9
    go_wp2_with fail
    refine (same_any a none 0 ca 0 0 (fun _ => 0) (fun _ => 0) _ (by unfold maxLen; omega) (by unfold maxLen; omega) (fun k hk => absurd hk (Nat.not_lt_zero _)) (fun k hk => absurd hk (Nat.not_lt_zero _))).mono ?_
    rintro e w1 ⟨⟨q, rfl, hq⟩, hB⟩
    obtain rfl : q = true := hq.2 ⟨rfl, fun _ _ => rfl⟩
    have HB : Hid (Below w.heap.size w w1) := hB
    clear hq hB
    go_wp2_with fail
    go_ret
    exact ⟨rfl, HB.out⟩
  · have HA : Hid (Row w a m F) := hr
    have HB' : Hid (Row w a' m F) := hr'
    clear hr hr'
    go_enter Tryd.func9, Tryd.ntmps9
    go_wp2_with fail
    refine (same_any a a' m ca m ca' F F _ hl hl HA.out HB'.out).mono ?_
    rintro e w1 ⟨⟨q, rfl, hq⟩, hB⟩
    obtain rfl : q = true := hq.2 ⟨rfl, fun _ _ => rfl⟩
    have HB : Hid (Below w.heap.size w w1) := hB
    clear hq hB
    go_wp2_with fail
    go_ret
    exact ⟨rfl, HB.out⟩

set_option maxHeartbeats 1000000 in
theorem levelLongest_any (n : Int) (a : Option Addr) (len cap : Nat) (f : Nat → Int) (w : World) (hl : len ≤ maxLen) (hr : Row w a len f) (hT : Tab w) :
    Calls Tryd.prog 3 #[.agg #[.int .i64 n, .slice a len cap]] w fun e w' => e = .returned (.bool true) ∧ Below w.heap.size w w' := by
  have K0 : Held (w.alloc (.cells #[.int .i64 n, .slice a len cap] 24)) w.heap.size n a len cap f := Held.box hr
  have HB0 : Hid (Below w.heap.size w (w.alloc (.cells #[.int .i64 n, .slice a len cap] 24))) := (Below.refl _ _).alloc (Nat.le_refl _) _
  have HT : Hid (Tab w) := hT
  clear hr hT
  go_enter Tryd.func3, Tryd.ntmps3
  go_wp2_with fail
  refine (longest_any n a len cap f _ hl K0.row (HT.out.step HB0.out)).mono ?_
  rintro e w1 ⟨⟨c, hc, he⟩, hb⟩
  have K1 := K0.step hb
  have k0 := K1.c0
  have k1 := K1.c1
  have HB1 : Hid (Below w.heap.size w w1) := Below.then HB0.out hb
  clear hb K0 HB0
  rcases he with ⟨h0, rfl⟩ | ⟨rfl, a1, cap1, rfl, hrow⟩
  · have hne2 : (c == 0) = false := by simpa using h0
    go_wp2_with fail
    refine (checkOrder_any n a len cap f _ hl K1.row).mono ?_
    rintro e w2 ⟨⟨c', rfl, hc'⟩, hb2⟩
    obtain rfl := Chk.unique hc' hc
    have HB2 : Hid (Below w.heap.size w w2) := Below.then HB1.out hb2
    clear hb2 HB1 K1 k0 k1 hc hc'
    go_wp2_with fail
    refine (levelBegun_any _).mono ?_
    rintro e w3 ⟨rfl, hb3⟩
    have HB3 : Hid (Below w.heap.size w w3) := Below.then HB2.out hb3
    clear hb3 HB2
    go_wp2_with fail
    refine (numsAre_any c' none none 0 0 0 (fun _ => 0) _ (by unfold maxLen; omega) (.inl ⟨h0, rfl⟩)).mono ?_
    rintro e w4 ⟨rfl, hb4⟩
    have HB4 : Hid (Below w.heap.size w w4) := Below.then HB3.out hb4
    clear hb4 HB3
    go_wp2_with fail
    go_ret
    exact ⟨rfl, HB4.out⟩
  · obtain ⟨rfl, h10, hrng, hord⟩ := hc.good
    have HSM : Hid (Sm len len (nat f)) := hrng.small
    have HOR : Hid (Ord len (nat f)) := hord
    have hTl : tops (trn (nat f) len) len ≤ maxLen := by have := tops_le (trn (nat f) len) h10; unfold maxLen; omega
    obtain ⟨P, HP⟩ : ∃ P, Hid (P = fun j => ((lcp (trn (nat f) len) len j : Nat) : Int)) := ⟨_, rfl⟩
    have HR1 : Hid (Row w1 a1 (tops (trn (nat f) len) len) P) := by rw [HP.out]; exact hrow
    have HRF : Hid (∀ (w : World), Row w a len (fun k => ((nat f k : Nat) : Int)) → Calls Tryd.prog 7 #[.agg #[.int .i64 (len : Int), .slice a len cap]] w fun e w' => (∃ a' cap', e = .returned (.slice a' (tops (trn (nat f) len) len) cap') ∧ Row w' a' (tops (trn (nat f) len) len) P) ∧ Below w.heap.size w w') := fun w h => by
      rw [HP.out]; exact longestChain_any len a cap (nat f) w h10 HSM.out HOR.out h
    generalize tops (trn (nat f) len) len = T at *
    clear hrow hord HP
    go_wp2_with fail
    refine (checkOrder_any len a len cap f _ hl K1.row).mono ?_
    rintro e w2 ⟨⟨c', rfl, hc'⟩, hb2⟩
    obtain rfl := Chk.unique hc' hc
    have HB2 : Hid (Below w.heap.size w w2) := Below.then HB1.out hb2
    have HR2 : Hid (Row w2 a1 T P) := HR1.out.below hb2
    have K2 := K1.step hb2
    have m0 := K2.c0
    have m1 := K2.c1
    clear hb2 HB1 k0 k1 hc hc' K1 HR1
    go_wp2_with fail
    refine (HRF.out _ (hrng.row K2.row)).mono ?_
    rintro e w3 ⟨⟨a3, cap3, rfl, hrow3⟩, hb3⟩
    have HB3 : Hid (Below w.heap.size w w3) := Below.then HB2.out hb3
    have HR3 : Hid (Row w3 a1 T P) := HR2.out.below hb3
    have HQ3 : Hid (Row w3 a3 T P) := hrow3
    clear hb3 HB2 K2 m0 m1 HR2 hrow3 hrng HRF
    go_wp2_with fail
    refine (levelBegun_any _).mono ?_
    rintro e w4 ⟨rfl, hb4⟩
    have HB4 : Hid (Below w.heap.size w w4) := Below.then HB3.out hb4
    have HR4 : Hid (Row w4 a1 T P) := HR3.out.below hb4
    have HQ4 : Hid (Row w4 a3 T P) := HQ3.out.below hb4
    clear hb4 HB3 HR3 HQ3
    go_wp2_with fail
    refine (numsAre_any 0 a1 a3 T cap1 cap3 P _ hTl (.inr ⟨rfl, HR4.out, HQ4.out⟩)).mono ?_
    rintro e w5 ⟨rfl, hb5⟩
    have HB5 : Hid (Below w.heap.size w w5) := Below.then HB4.out hb5
    clear hb5 HB4
    go_wp2_with fail
    go_ret
    exact ⟨rfl, HB5.out⟩
end Go.Proofs.YtpagbjblibckoaaDoor
