/-
  What the reference's SamePairs answers of the same pairs; hasselaw.SpanSpans returns true for every order. No condition but that a slice reads as a slice of numbers.
-/
import Derived.Test.YtlpeflnipbbmhaaRefSpans
import Derived.Test.YtlpeflnipbbmhaaTwoThree
import Derived.Test.YtlpeflnipbbmhaaSpBegun
namespace Go.Proofs.Ytlpeflnipbbmhaa
open Go.RowKit

theorem neq_pair (x y : Int) (w : World) : (binOp .neq 49 (.agg #[.int .i64 x, .int .i64 y]) (.agg #[.int .i64 x, .int .i64 y])).run Try.prog w = .ok (.bool false) w := by
  simp only [binOp]
  simp [Op.equal, Op.maxDepth, eqIn_pair 9998]

theorem samePairs_any (a b : Option Addr) (n ca cb : Nat) (p : Nat → Int × Int) (w : World) (hl : n ≤ 1000) (hA : PRow w a n p) (hB : PRow w b n p) :
    Calls Try.prog 16 #[.slice a n ca, .slice b n cb] w fun e w' => e = .returned (.bool true) ∧ Below w.heap.size w w' := by
  have HA : Hid (PRow w a n p) := hA
  have HB : Hid (PRow w b n p) := hB
  clear hA hB
  have hneq := neq_pair
  go_enter Try.func16, Try.ntmps16
  go_wp2
  go_loopw [5] (fun i wx => ∃ k : Nat, k ≤ n ∧ i = .int .i64 k ∧ Hid (PRow wx a n p) ∧ Hid (PRow wx b n p) ∧ Hid (Below w.heap.size w wx)) (fun i _ => n - (intOf i).toNat)
  case atStart => exact ⟨0, Nat.zero_le _, rfl, HA.out, HB.out, Below.refl _ _⟩
  case round =>
    obtain ⟨k, hk, rfl, hA, hB, hW⟩ := hrel
    clear HA HB
    by_cases hlt : k < n
    · obtain ⟨b1, o1, rfl, d1, d2⟩ := hA.out k hlt
      obtain ⟨b2, o2, rfl, d3, d4⟩ := hB.out k hlt
      have hlt' : (k : Int) < (n : Int) := by omega
      go_wp2
      go_quiet (fail)
      go_wp2
      go_roundw
      case rel => exact ⟨k + 1, by omega, by go_num, hA.out, hB.out, below_drewN hW.out _⟩
      case measure => simp [intOf]; omega
    · have hkn : k = n := by omega
      subst hkn
      go_wp2
      go_ret
      exact ⟨rfl, hW.out⟩

set_option maxHeartbeats 2000000 in
theorem spanSpans_any (n : Int) (a : Option Addr) (len cap : Nat) (f : Nat → Int) (w : World) (hl : len ≤ maxLen) (hr : Row w a len f) :
    Calls Try.prog 4 #[.agg #[.int .i64 n, .slice a len cap]] w fun e w' => e = .returned (.bool true) ∧ Below w.heap.size w w' := by
  have K0 : Held (w.alloc (.cells #[.int .i64 n, .slice a len cap] 25)) w.heap.size n a len cap f := Held.box hr
  have HB0 : Hid (Below w.heap.size w (w.alloc (.cells #[.int .i64 n, .slice a len cap] 25))) := (Below.refl _ _).alloc (Nat.le_refl _) _
  clear hr
  go_enter Try.func4, Try.ntmps4
  go_wp2_with fail
  refine (spans_any n a len cap f _ hl K0.row).mono ?_
  rintro e w1 ⟨⟨c, v, ok, hc, rfl, he⟩, hb⟩
  have K1 := K0.step hb
  have k0 := K1.c0
  have k1 := K1.c1
  have HB1 : Hid (Below w.heap.size w w1) := Below.then HB0.out hb
  clear hb K0 HB0
  rcases he with ⟨h0, rfl, rfl⟩ | ⟨rfl, he⟩
  · have hne2 : (c == 0) = false := by simpa using h0
    have hne : (c != 0) = true := by simpa using h0
    go_wp2_with fail
    refine (checkOrder_any n a len cap f _ hl K1.row).mono ?_
    rintro e w2 ⟨⟨c', rfl, hc'⟩, hb2⟩
    obtain rfl := Chk.unique hc' hc
    have HB2 : Hid (Below w.heap.size w w2) := Below.then HB1.out hb2
    clear hb2 HB1 K1 k0 k1 hc hc'
    go_wp2_with fail
    refine (spanBegun_any _).mono ?_
    rintro e w3 ⟨rfl, hb3⟩
    have HB3 : Hid (Below w.heap.size w w3) := Below.then HB2.out hb3
    clear hb3 HB2
    go_wp2_with fail
    refine (spanBegun_any _).mono ?_
    rintro e w4 ⟨rfl, hb4⟩
    have HB4 : Hid (Below w.heap.size w w4) := Below.then HB3.out hb4
    clear hb4 HB3
    go_wp2_with fail
    go_ret
    exact ⟨by simp, HB4.out⟩
  · obtain ⟨rfl, h10, hrng, hord⟩ := hc.good
    have HSM : Hid (Sm len len (nat f)) := fun k hk => by unfold nat; have := hrng k hk; omega
    have HO : Hid (Ord len (nat f)) := hord
    have HRR : Hid (∀ wx, Row wx a len f → Row wx a len (fun k => (nat f k : Nat))) := fun wx h k hk => by
      have h1 := h k hk
      have e : f k = (nat f k : Nat) := by unfold nat; have := hrng k hk; omega
      rw [e] at h1
      exact h1
    have HE := (show Hid _ from he)
    clear he hrng hord
    go_wp2_with fail
    refine (checkOrder_any len a len cap f _ hl K1.row).mono ?_
    rintro e w2 ⟨⟨c', rfl, hc'⟩, hb2⟩
    obtain rfl := Chk.unique hc' hc
    have K2 := K1.step hb2
    have HB2 : Hid (Below w.heap.size w w2) := Below.then HB1.out hb2
    have HB12 : Hid (Below w1.heap.size w1 w2) := hb2
    clear hb2 HB1 K1 k0 k1 hc hc'
    go_wp2_with fail
    refine (spanBegun_any _).mono ?_
    rintro e w3 ⟨rfl, hb3⟩
    have K3 := K2.step hb3
    have d0 := K3.c0
    have d1 := K3.c1
    have HB3 : Hid (Below w.heap.size w w3) := Below.then HB2.out hb3
    have HB13 : Hid (Below w1.heap.size w1 w3) := Below.then HB12.out hb3
    clear hb3 HB2 K2 HB12
    go_wp2_with fail
    refine (twoChains_any a len cap (nat f) _ h10 HSM.out HO.out (HRR.out _ K3.row)).mono ?_
    rintro e w4 ⟨⟨v', l', two, rfl, hf', hn'⟩, hb4⟩
    have K4 := K3.step hb4
    have g0 := K4.c0
    have g1 := K4.c1
    have HB4 : Hid (Below w.heap.size w w4) := Below.then HB3.out hb4
    have HB14 : Hid (Below w1.heap.size w1 w4) := Below.then HB13.out hb4
    have hfit := fits_iff h10 HSM.out hf'
    clear hb4 HB3 K3 d0 d1 HB13 hf' hn'
    rcases HE.out with ⟨hF, rfl, a1, cap1, rfl, hp⟩ | ⟨hF, rfl, rfl⟩
    · obtain rfl : two = false := hfit.1 hF
      have HP4 : Hid (PRow w4 a1 len (spn (nat f) len)) := hp.below HB14.out
      clear hp HE hfit hF
      go_wp2_with fail
      refine (spansOf_any a len cap (nat f) _ h10 HSM.out (HRR.out _ K4.row)).mono ?_
      rintro e w5 ⟨⟨v5, a5, cap5, rfl, rfl, hp5⟩, hb5⟩
      have HP5 : Hid (PRow w5 a1 len (spn (nat f) len)) := HP4.out.below hb5
      have HQ5 : Hid (PRow w5 a5 len (spn (nat f) len)) := hp5
      have HB5 : Hid (Below w.heap.size w w5) := Below.then HB4.out hb5
      clear hb5 HB4 HB14 K4 g0 g1 hp5 HP4
      go_wp2_with fail
      refine (samePairs_any a1 a5 len cap1 cap5 (spn (nat f) len) _ (by omega) HP5.out HQ5.out).mono ?_
      rintro e w6 ⟨rfl, hb6⟩
      have HB6 : Hid (Below w.heap.size w w6) := Below.then HB5.out hb6
      clear hb6 HB5
      go_wp2_with fail
      go_ret
      exact ⟨rfl, HB6.out⟩
    · obtain rfl : two = true := by
        cases two
        · exact absurd (hfit.2 rfl) hF
        · rfl
      clear HE hfit hF
      go_wp2_with fail
      go_ret
      exact ⟨by simp, HB4.out⟩
end Go.Proofs.Ytlpeflnipbbmhaa
