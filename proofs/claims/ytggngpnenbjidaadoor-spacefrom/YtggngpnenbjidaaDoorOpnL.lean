/-
  For every order that is handed in, hasselaw.SpaceOpens returns true, and writes nothing that was there. Condition: the table of the least bits.
-/
import Derived.Test.YtggngpnenbjidaaDoorSpB
namespace Go.Proofs.YtggngpnenbjidaaDoor
open Go.RowKit

set_option maxHeartbeats 2000000 in
theorem refOpens_any (a : Option Addr) (len cap : Nat) (g : Nat → Nat) (w : World) (h10 : len ≤ 10) (hg : ∀ k, k < len → g k < 1024) (hr : Row w a len (fun k => (g k : Nat))) :
    Calls Tryd.prog 11 #[.agg #[.int .i64 (len : Int), .slice a len cap]] w fun e w' => (∃ v, e = .returned v ∧ NSl w' v (opn g len)) ∧ Below w.heap.size w w' := by
  have HB0 : Hid (Below w.heap.size w (w.alloc (.cells #[.int .i64 (len : Int), .slice a len cap] 24))) := bel_one w _
  have K0 : Hid (Held (w.alloc (.cells #[.int .i64 (len : Int), .slice a len cap] 24)) w.heap.size len a len cap (fun k => (g k : Nat))) := Held.box hr
  have HG : Hid (∀ k, k < len → g k < 1024) := hg
  have hpl := pw_le len h10
  have HTL : Hid (∀ k, k < len → trn g len k < 1024) := fun k _ => by have := trn_lt g len k; omega
  clear hr hg
  have k0 := K0.out.c0
  have k1 := K0.out.c1
  go_enter Tryd.func11, Tryd.ntmps11
  go_wp2_with fail
  refine (refDual_any a len cap g _ h10 HG.out K0.out.row).mono ?_
  rintro e w1 ⟨⟨a', cap', rfl, hrow, _⟩, hb1⟩
  have HB1 : Hid (Below w.heap.size w w1) := Below.then HB0.out hb1
  have HR1 : Hid (Row w1 a' len (fun k => (trn g len k : Nat))) := hrow
  clear hb1 hrow HB0 K0 k0 k1
  go_wp2_with fail
  refine (refIdeals_any a' len cap' (trn g len) w1 h10 HTL.out HR1.out).mono ?_
  rintro e w2 ⟨⟨v, rfl, hv⟩, hb2⟩
  have HB2 : Hid (Below w.heap.size w w2) := Below.then HB1.out hb2
  have HV : Hid (NSl w2 v (opn g len)) := hv
  clear hb2 hv
  go_wp2_with fail
  go_ret
  exact ⟨⟨_, rfl, HV.out⟩, HB2.out⟩
theorem opn_len (g : Nat → Nat) (n : Nat) (h : n ≤ 10) : (opn g n).length ≤ 1024 := idls_len _ _ h

set_option maxHeartbeats 4000000 in
theorem spaceOpens_any (n : Int) (a : Option Addr) (len cap : Nat) (f : Nat → Int) (w : World) (hl : len ≤ maxLen) (hr : Row w a len f) (hT : Tab w) :
    Calls Tryd.prog 3 #[.agg #[.int .i64 n, .slice a len cap]] w fun e w' => e = .returned (.bool true) ∧ Below w.heap.size w w' := by
  have HB0 : Hid (Below w.heap.size w (w.alloc (.cells #[.int .i64 n, .slice a len cap] 24))) := bel_one w _
  have K0 : Hid (Held (w.alloc (.cells #[.int .i64 n, .slice a len cap] 24)) w.heap.size n a len cap f) := Held.box hr
  have HT : Hid (Tab w) := hT
  clear hr hT
  have k0 := K0.out.c0
  have k1 := K0.out.c1
  go_enter Tryd.func3, Tryd.ntmps3
  go_wp2_with fail
  refine (opens_any n a len cap f _ hl K0.out.row).mono ?_
  rintro e w1 ⟨⟨c, v, rfl, hc, hv⟩, hb1⟩
  have HB1 : Hid (Below w.heap.size w w1) := Below.then HB0.out hb1
  have K1 : Hid (Held w1 w.heap.size n a len cap f) := K0.out.step hb1
  have HC : Hid (Chk n len f c) := hc
  have HV : Hid ((c ≠ 0 ∧ v = .slice none 0 0) ∨ (c = 0 ∧ NSl w1 v (opn (nat f) len))) := by
    rcases hv with h | ⟨h1, h2, _⟩
    · exact .inl h
    · exact .inr ⟨h1, h2⟩
  clear hb1 hc hv HB0 K0 k0 k1
  have k0 := K1.out.c0
  have k1 := K1.out.c1
  go_wp2_with fail
  refine (checkOrder_any n a len cap f _ hl K1.out.row).mono ?_
  rintro e w2 ⟨⟨c', rfl, hc'⟩, hb2⟩
  obtain rfl := HC.out.unique hc'
  have HB2 : Hid (Below w.heap.size w w2) := Below.then HB1.out hb2
  have K2 : Hid (Held w2 w.heap.size n a len cap f) := K1.out.step hb2
  have HBB : Hid (Below w1.heap.size w1 w2) := hb2
  clear hc' hb2 HB1 k0 k1 K1
  have k0 := K2.out.c0
  have k1 := K2.out.c1
  by_cases h0 : c = 0
  · subst h0
    obtain ⟨rfl, h10, hrng, _⟩ := HC.out.good
    have HN : Hid (NSl w2 v (opn (nat f) len)) := by
      rcases HV.out with ⟨h, _⟩ | ⟨_, h⟩
      · exact absurd rfl h
      · exact h.below HBB.out
    have HR : Hid (Row w2 a len (fun k => ((nat f k : Nat) : Int))) := hrng.row K2.out.row
    have HG : Hid (∀ k, k < len → nat f k < 1024) := hrng.small2 h10
    have HOL : Hid ((opn (nat f) len).length ≤ maxLen) := Nat.le_trans (opn_len _ _ h10) (by decide)
    clear hrng HV HBB
    go_wp2_with fail
    refine (refOpens_any a len cap (nat f) _ h10 HG.out HR.out).mono ?_
    rintro e w3 ⟨⟨v', rfl, hv'⟩, hb3⟩
    have HB3 : Hid (Below w.heap.size w w3) := Below.then HB2.out hb3
    have HN3 : Hid (NSl w3 v (opn (nat f) len)) := HN.out.below hb3
    have HN4 : Hid (NSl w3 v' (opn (nat f) len)) := hv'
    clear hb3 hv' HN HR HG HB2
    go_wp2_with fail
    refine (spaceBegun_any w3 (HT.out.step HB3.out)).mono ?_
    rintro e w4 ⟨rfl, hb4⟩
    have HB4 : Hid (Below w.heap.size w w4) := Below.then HB3.out hb4
    have HN5 : Hid (NSl w4 v (opn (nat f) len)) := HN3.out.below hb4
    have HN6 : Hid (NSl w4 v' (opn (nat f) len)) := HN4.out.below hb4
    clear hb4 HB3 HN3 HN4
    go_wp2_with fail
    refine (numbersAre_any 0 _ v v' w4 HOL.out (.inr ⟨rfl, HN5.out, HN6.out⟩)).mono ?_
    rintro e w5 ⟨rfl, hb5⟩
    have HB5 : Hid (Below w.heap.size w w5) := Below.then HB4.out hb5
    clear hb5
    go_wp2_with fail
    go_ret
    exact ⟨rfl, HB5.out⟩
  · have hne : (c == 0) = false := by simpa using h0
    obtain rfl : v = .slice none 0 0 := by
      rcases HV.out with ⟨_, h⟩ | ⟨h, _⟩
      · exact h
      · exact absurd h h0
    have H0 : Hid (c ≠ 0) := h0
    clear h0 HV HC
    go_wp2_with fail
    refine (spaceBegun_any w2 (HT.out.step HB2.out)).mono ?_
    rintro e w4 ⟨rfl, hb4⟩
    have HB4 : Hid (Below w.heap.size w w4) := Below.then HB2.out hb4
    clear hb4 HB2
    go_wp2_with fail
    refine (numbersAre_any c [] _ _ w4 (by simp) (.inl ⟨H0.out, rfl, rfl⟩)).mono ?_
    rintro e w5 ⟨rfl, hb5⟩
    have HB5 : Hid (Below w.heap.size w w5) := Below.then HB4.out hb5
    clear hb5
    go_wp2_with fail
    go_ret
    exact ⟨rfl, HB5.out⟩
end Go.Proofs.YtggngpnenbjidaaDoor
