/-
  For every order that is handed in, hasselaw.SpacePieces returns true, and writes nothing that was there. Condition: the table of the least bits.
-/
import Derived.Test.YtggngpnenbjidaaDoorPieR
namespace Go.Proofs.YtggngpnenbjidaaDoor
open Go.RowKit

set_option maxHeartbeats 4000000 in
theorem spacePieces_any (n : Int) (a : Option Addr) (len cap : Nat) (f : Nat → Int) (w : World) (hl : len ≤ maxLen) (hr : Row w a len f) (hT : Tab w) :
    Calls Tryd.prog 7 #[.agg #[.int .i64 n, .slice a len cap]] w fun e w' => e = .returned (.bool true) ∧ Below w.heap.size w w' := by
  have HB0 : Hid (Below w.heap.size w (w.alloc (.cells #[.int .i64 n, .slice a len cap] 24))) := bel_one w _
  have K0 : Hid (Held (w.alloc (.cells #[.int .i64 n, .slice a len cap] 24)) w.heap.size n a len cap f) := Held.box hr
  have HT : Hid (Tab w) := hT
  clear hr hT
  have k0 := K0.out.c0
  have k1 := K0.out.c1
  go_enter Tryd.func7, Tryd.ntmps7
  go_wp2_with fail
  refine (pieces_call n a len cap f _ hl K0.out.row (HT.out.step HB0.out)).mono ?_
  rintro e w1 ⟨⟨c, v, rfl, hc, hv⟩, hb1⟩
  have HB1 : Hid (Below w.heap.size w w1) := Below.then HB0.out hb1
  have K1 : Hid (Held w1 w.heap.size n a len cap f) := K0.out.step hb1
  have HC : Hid (Chk n len f c) := hc
  have HV : Hid ((c ≠ 0 ∧ v = .slice none 0 0) ∨ (c = 0 ∧ ∃ L, NSl w1 v L ∧ PcL (hld (nat f) len) L (pw len - 1) 0 ∧ L.length ≤ 1024)) := by
    rcases hv with h | ⟨h1, L, h2, h3, h4, _⟩
    · exact .inl h
    · exact .inr ⟨h1, L, h2, h3, h4⟩
  clear hb1 hc hv HB0 K0 k0 k1
  have k0 := K1.out.c0
  have k1 := K1.out.c1
  go_wp2_with fail
  refine (checkOrder_any n a len cap f _ hl K1.out.row).mono ?_
  rintro e w2 ⟨⟨c', rfl, hc'⟩, hb2⟩
  obtain rfl := HC.out.unique hc'
  have HB2 : Hid (Below w.heap.size w w2) := Below.then HB1.out hb2
  have K2 : Hid (Held w2 w.heap.size n a len cap f) := K1.out.step hb2
  have HBB : Hid (Below w1.heap.size w1 w2) := hb2
  clear hc' hb2 HB1 k0 k1 K1
  have k0 := K2.out.c0
  have k1 := K2.out.c1
  by_cases h0 : c = 0
  · subst h0
    obtain ⟨rfl, h10, hrng, hord⟩ := HC.out.good
    obtain ⟨L, hNL, hPL, hLL⟩ : ∃ L, NSl w2 v L ∧ PcL (hld (nat f) len) L (pw len - 1) 0 ∧ L.length ≤ 1024 := by
      rcases HV.out with ⟨h, _⟩ | ⟨_, L, h1, h2, h3⟩
      · exact absurd rfl h
      · exact ⟨L, h1.below HBB.out, h2, h3⟩
    have HN : Hid (NSl w2 v L) := hNL
    have HPL : Hid (PcL (hld (nat f) len) L (pw len - 1) 0) := hPL
    have HOR : Hid (Ord len (nat f)) := hord
    clear hNL hPL hord
    have HR : Hid (Row w2 a len (fun k => ((nat f k : Nat) : Int))) := hrng.row K2.out.row
    have HG : Hid (∀ k, k < len → nat f k < pw len) := hrng.small
    have HOL : Hid (L.length ≤ maxLen) := Nat.le_trans hLL (by decide)
    clear hrng HV HBB
    go_wp2_with fail
    refine (piecesOf_any a len cap (nat f) _ h10 HG.out HOR.out HR.out).mono ?_
    rintro e w3 ⟨⟨v', L', rfl, hv', hp'⟩, hb3⟩
    obtain rfl := HPL.out.one hp'
    have HB3 : Hid (Below w.heap.size w w3) := Below.then HB2.out hb3
    have HN3 : Hid (NSl w3 v L) := HN.out.below hb3
    have HN4 : Hid (NSl w3 v' L) := hv'
    clear hb3 hv' hp' HPL HN HR HG HB2
    go_wp2_with fail
    refine (spaceBegun_any w3 (HT.out.step HB3.out)).mono ?_
    rintro e w4 ⟨rfl, hb4⟩
    have HB4 : Hid (Below w.heap.size w w4) := Below.then HB3.out hb4
    have HN5 : Hid (NSl w4 v L) := HN3.out.below hb4
    have HN6 : Hid (NSl w4 v' L) := HN4.out.below hb4
    clear hb4 HB3 HN3 HN4
    go_wp2_with fail
    refine (numbersAre_any 0 _ v v' w4 HOL.out (.inr ⟨rfl, HN5.out, HN6.out⟩)).mono ?_
    rintro e w5 ⟨rfl, hb5⟩
    have HB5 : Hid (Below w.heap.size w w5) := Below.then HB4.out hb5
    clear hb5
    go_wp2_with fail
    go_ret
    exact ⟨rfl, HB5.out⟩
  · have hne : (c == 0) = false := by simpa using h0
    obtain rfl : v = .slice none 0 0 := by
      rcases HV.out with ⟨_, h⟩ | ⟨h, _⟩
      · exact h
      · exact absurd h h0
    have H0 : Hid (c ≠ 0) := h0
    clear h0 HV HC
    go_wp2_with fail
    refine (spaceBegun_any w2 (HT.out.step HB2.out)).mono ?_
    rintro e w4 ⟨rfl, hb4⟩
    have HB4 : Hid (Below w.heap.size w w4) := Below.then HB2.out hb4
    clear hb4 HB2
    go_wp2_with fail
    refine (numbersAre_any c [] _ _ w4 (by simp) (.inl ⟨H0.out, rfl, rfl⟩)).mono ?_
    rintro e w5 ⟨rfl, hb5⟩
    have HB5 : Hid (Below w.heap.size w w5) := Below.then HB4.out hb5
    clear hb5
    go_wp2_with fail
    go_ret
    exact ⟨rfl, HB5.out⟩
end Go.Proofs.YtggngpnenbjidaaDoor
