/-
  For every number of workers and every list of events hasselaw.ClockChecks, ClockCuts and ClockLost return true, and write nothing that was there. Conditions: a slice that reads as a slice of events, and has room for them.
-/
import Derived.Test.YtomoodpgmkjacaaClB
import Derived.Test.YtomoodpgmkjacaaClW
import Derived.Test.YtomoodpgmkjacaaClF
import Derived.Test.YtomoodpgmkjacaaIdealsL
namespace Go.Proofs.Ytomoodpgmkjacaa
set_option maxRecDepth 100000
open Go.RowKit

set_option maxHeartbeats 2000000 in
theorem clockChecks_any (Wk : Int) (a : Option Addr) (len cap : Nat) (E : Nat → Int × Int × Int) (w : World) (hl : len ≤ maxLen) (hc : len ≤ cap) (hr : ERow w a len E) :
    Calls Try.prog 3 #[.int .i64 Wk, .slice a len cap] w fun e w' => e = .returned (.bool true) ∧ Below w.heap.size w w' := by
  have HR : Hid (ERow w a len E) := hr
  have HL : Hid (len ≤ maxLen) := hl
  clear hr hl
  go_enter Try.func3, Try.ntmps3
  go_wp2_with fail
  refine (clockBegun_any _).mono ?_
  rintro e w1 ⟨rfl, hb1⟩
  have HB1 : Hid (Below w.heap.size w w1) := hb1
  clear hb1
  go_wp2_with fail
  refine (clockCheck_any Wk a len cap E _ HL.out hc (HR.out.below HB1.out)).mono ?_
  rintro e w2 ⟨⟨c, rfl, hc2⟩, hb2⟩
  have HB2 : Hid (Below w.heap.size w w2) := Below.then HB1.out hb2
  have HC : Hid (CkE Wk len E c) := hc2
  clear hb2 hc2
  go_wp2_with fail
  refine (checkEvents_any Wk a len cap E _ HL.out (HR.out.below HB2.out)).mono ?_
  rintro e w3 ⟨⟨d, rfl, hd⟩, hb3⟩
  have HB3 : Hid (Below w.heap.size w w3) := Below.then HB2.out hb3
  obtain rfl : d = c := hd.unique HC.out
  clear hb3 hd
  go_wp2_with fail
  go_ret
  exact ⟨rfl, HB3.out⟩
theorem numberIs_any (n e w0 want : Int) (w : World) (h : e = w0) (hv : (w0 ≠ 0 ∧ n = 0) ∨ (w0 = 0 ∧ n = want)) :
    Calls Try.prog 19 #[.int .i64 n, .int .i64 e, .int .i64 w0, .int .i64 want] w fun e w' => e = .returned (.bool true) ∧ w = w' := by
  subst h
  rcases hv with ⟨h0, rfl⟩ | ⟨rfl, rfl⟩
  · have hne : (e != 0) = true := by simpa using h0
    go_enter Try.func19, Try.ntmps19
    go_wp2
    go_ret
    exact ⟨rfl, rfl⟩
  · go_enter Try.func19, Try.ntmps19
    go_wp2
    go_ret
    exact ⟨rfl, rfl⟩
set_option maxHeartbeats 2000000 in
theorem clockCuts_any (Wk : Int) (a : Option Addr) (len cap : Nat) (E : Nat → Int × Int × Int) (w : World) (hl : len ≤ maxLen) (hc : len ≤ cap) (hr : ERow w a len E) :
    Calls Try.prog 6 #[.int .i64 Wk, .slice a len cap] w fun e w' => e = .returned (.bool true) ∧ Below w.heap.size w w' := by
  have HR : Hid (ERow w a len E) := hr
  have HL : Hid (len ≤ maxLen) := hl
  clear hr hl
  go_enter Try.func6, Try.ntmps6
  go_wp2_with fail
  refine (cuts_any Wk a len cap E _ HL.out hc HR.out).mono ?_
  rintro e w1 ⟨⟨c, y, hck, rfl, hy⟩, hb1⟩
  have HB1 : Hid (Below w.heap.size w w1) := hb1
  have HC : Hid (CkE Wk len E c) := hck
  have HY : Hid ((c ≠ 0 ∧ y = 0) ∨ (c = 0 ∧ y = ((idls (ahd E len) len).length : Nat))) := hy
  clear hb1 hck hy
  go_wp2_with fail
  refine (checkEvents_any Wk a len cap E _ HL.out (HR.out.below HB1.out)).mono ?_
  rintro e w2 ⟨⟨d, rfl, hd⟩, hb2⟩
  have HB2 : Hid (Below w.heap.size w w2) := Below.then HB1.out hb2
  obtain rfl : d = c := hd.unique HC.out
  clear hb2 hd
  by_cases h0 : d = 0
  · subst h0
    obtain ⟨⟨_, _, h10⟩, _⟩ := HC.out.good
    have HSM : Hid (∀ k, k < len → ahd E len k < 1024) := fun k hk => Nat.lt_of_lt_of_le (ahd_sm E len k hk) (pw_le len h10)
    go_wp2_with fail
    refine (aheadOf_any a len cap E _ h10 (HR.out.below HB2.out)).mono ?_
    rintro e w3 ⟨⟨a3, cap3, rfl, hr3, _⟩, hb3⟩
    have HB3 : Hid (Below w.heap.size w w3) := Below.then HB2.out hb3
    have HR3 : Hid (Row w3 a3 len (fun k => (ahd E len k : Nat))) := hr3
    clear hb3 hr3
    go_wp2_with fail
    refine (refIdeals_any a3 len cap3 (ahd E len) _ h10 HSM.out HR3.out).mono ?_
    rintro e w4 ⟨⟨v, rfl, a4, cap4, rfl, _⟩, hb4⟩
    have HB4 : Hid (Below w.heap.size w w4) := Below.then HB3.out hb4
    obtain rfl : y = ((idls (ahd E len) len).length : Nat) := by
      rcases HY.out with ⟨h, _⟩ | ⟨_, h⟩
      · exact absurd rfl h
      · exact h
    clear hb4 HY
    generalize (idls (ahd E len) len).length = n4 at *
    go_wp2_with fail
    refine (clockBegun_any _).mono ?_
    rintro e w5 ⟨rfl, hb5⟩
    have HB5 : Hid (Below w.heap.size w w5) := Below.then HB4.out hb5
    clear hb5
    go_wp2_with fail
    refine (numberIs_any _ _ _ _ _ rfl (.inr ⟨rfl, rfl⟩)).mono ?_
    rintro e w6 ⟨rfl, hw⟩
    subst hw
    go_wp2_with fail
    go_ret
    exact ⟨rfl, HB5.out⟩
  · have h0' : (d == 0) = false := by simpa using h0
    obtain rfl : y = 0 := by
      rcases HY.out with ⟨_, h⟩ | ⟨h, _⟩
      · exact h
      · exact absurd h h0
    clear HY
    go_wp2_with fail
    refine (clockBegun_any _).mono ?_
    rintro e w5 ⟨rfl, hb5⟩
    have HB5 : Hid (Below w.heap.size w w5) := Below.then HB2.out hb5
    clear hb5
    go_wp2_with fail
    refine (numberIs_any _ _ _ _ _ rfl (.inl ⟨h0, rfl⟩)).mono ?_
    rintro e w6 ⟨rfl, hw⟩
    subst hw
    go_wp2_with fail
    go_ret
    exact ⟨rfl, HB5.out⟩
set_option maxHeartbeats 2000000 in
theorem clockLost_any (Wk : Int) (a : Option Addr) (len cap : Nat) (E : Nat → Int × Int × Int) (w : World) (hl : len ≤ maxLen) (hc : len ≤ cap) (hr : ERow w a len E) :
    Calls Try.prog 7 #[.int .i64 Wk, .slice a len cap] w fun e w' => e = .returned (.bool true) ∧ Below w.heap.size w w' := by
  have HR : Hid (ERow w a len E) := hr
  have HL : Hid (len ≤ maxLen) := hl
  clear hr hl
  go_enter Try.func7, Try.ntmps7
  go_wp2_with fail
  refine (lost_any Wk a len cap E _ HL.out hc HR.out).mono ?_
  rintro e w1 ⟨⟨c, v, hck, rfl, hv⟩, hb1⟩
  have HB1 : Hid (Below w.heap.size w w1) := hb1
  have HC : Hid (CkE Wk len E c) := hck
  have HV : Hid ((c ≠ 0 ∧ v = .slice none 0 0) ∨ (c = 0 ∧ NSl w1 v (srt E len len))) := hv
  clear hb1 hck hv
  go_wp2_with fail
  refine (checkEvents_any Wk a len cap E _ HL.out (HR.out.below HB1.out)).mono ?_
  rintro e w2 ⟨⟨d, rfl, hd⟩, hb2⟩
  have HB2 : Hid (Below w.heap.size w w2) := Below.then HB1.out hb2
  obtain rfl : d = c := hd.unique HC.out
  by_cases h0 : d = 0
  · subst h0
    obtain ⟨⟨_, _, h10⟩, hev⟩ := HC.out.good
    have HEV : Hid (∀ j, j < len → EvIs Wk E j 0) := hev
    have HV2 : Hid (NSl w2 v (srt E len len)) := by
      rcases HV.out with ⟨h, _⟩ | ⟨_, h⟩
      · exact absurd rfl h
      · exact h.below hb2
    have HLN : Hid ((srt E len len).length ≤ maxLen) := by
      have h1 := srt_len E len len
      have h2 := lostL_len E len len
      show _ ≤ _; unfold maxLen; omega
    clear hb2 hd hev HV
    go_wp2_with fail
    refine (lostOf_any Wk a len cap E _ h10 HEV.out (HR.out.below HB2.out)).mono ?_
    rintro e w3 ⟨⟨v3, rfl, hv3⟩, hb3⟩
    have HB3 : Hid (Below w.heap.size w w3) := Below.then HB2.out hb3
    have HV3 : Hid (NSl w3 v (srt E len len)) := HV2.out.below hb3
    have HV4 : Hid (NSl w3 v3 (srt E len len)) := hv3
    clear hb3 hv3 HV2
    go_wp2_with fail
    refine (clockBegun_any _).mono ?_
    rintro e w5 ⟨rfl, hb5⟩
    have HB5 : Hid (Below w.heap.size w w5) := Below.then HB3.out hb5
    have HV5 : Hid (NSl w5 v (srt E len len)) := HV3.out.below hb5
    have HV6 : Hid (NSl w5 v3 (srt E len len)) := HV4.out.below hb5
    clear hb5 HV3 HV4
    go_wp2_with fail
    refine (numbersAre_any 0 (srt E len len) v v3 _ HLN.out (.inr ⟨rfl, HV5.out, HV6.out⟩)).mono ?_
    rintro e w6 ⟨rfl, hb6⟩
    have HB6 : Hid (Below w.heap.size w w6) := Below.then HB5.out hb6
    clear hb6
    go_wp2_with fail
    go_ret
    exact ⟨rfl, HB6.out⟩
  · have h0' : (d == 0) = false := by simpa using h0
    obtain rfl : v = .slice none 0 0 := by
      rcases HV.out with ⟨_, h⟩ | ⟨h, _⟩
      · exact h
      · exact absurd h h0
    clear HV hb2 hd
    go_wp2_with fail
    refine (clockBegun_any _).mono ?_
    rintro e w5 ⟨rfl, hb5⟩
    have HB5 : Hid (Below w.heap.size w w5) := Below.then HB2.out hb5
    clear hb5
    go_wp2_with fail
    refine (numbersAre_any d [] _ _ _ (Nat.zero_le _) (.inl ⟨h0, rfl, rfl⟩)).mono ?_
    rintro e w6 ⟨rfl, hb6⟩
    have HB6 : Hid (Below w.heap.size w w6) := Below.then HB5.out hb6
    clear hb6
    go_wp2_with fail
    go_ret
    exact ⟨rfl, HB6.out⟩
end Go.Proofs.Ytomoodpgmkjacaa
