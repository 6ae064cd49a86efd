/-
  hasselaw.ScribePrints returns true for every order. No condition but that a slice reads as a slice of numbers.
-/
import Derived.Test.YthlhngjfbdaikaaDoorPrintP
import Derived.Test.YthlhngjfbdaikaaDoorRefPrt
namespace Go.Proofs.YthlhngjfbdaikaaDoor
open Go.RowKit

def gLad (k : Nat) : Nat := if k = 0 then 0 else if k = 1 then 1 else 3
def fLad (k : Nat) : Int := (gLad k : Nat)
theorem ladder_any (w : World) : Calls Tryd.prog 15 #[] w fun e w' => (∃ a, e = .returned (.agg #[.int .i64 3, .slice a 3 3]) ∧ Row w' a 3 fLad) ∧ Below w.heap.size w w' := by
  go_enter Tryd.func15, Tryd.ntmps15
  go_wp2_with fail
  refine bodyPost_ret (v := .agg #[.int .i64 3, .slice (some ⟨w.heap.size + 1, 0, none⟩) 3 3]) (by simp [results, Tryd.results15, go_sem]) rfl ⟨⟨_, rfl, ?_⟩, ?_⟩
  · intro k hk
    refine ⟨w.heap.size + 1, 0, rfl, ?_⟩
    match k, hk with
    | 0, _ => simp [fLad, gLad]
    | 1, _ => simp [fLad, gLad]
    | 2, _ => simp [fLad, gLad]
  · exact ((Below.refl _ _).alloc (Nat.le_refl _) _).alloc (by simp) _
theorem natLad : nat fLad = gLad := by funext k; simp [nat, fLad]
theorem lad_chk : Chk 3 3 fLad 0 := by
  refine .inr ⟨3, rfl, by omega, .inr ⟨rfl, .inr ⟨?_, .inr ⟨rfl, ?_⟩⟩⟩⟩
  · unfold Rng fLad; decide +kernel
  · rw [natLad]; unfold Ord OrdAt; decide +kernel
theorem lad_covs : covs gLad 3 = [(0, 1), (1, 2)] := by decide +kernel
theorem lad_prt : prt 3 (covs (nat fLad) 3) = [51, 58, 32, 48, 60, 49, 32, 49, 60, 50] := by
  rw [natLad, lad_covs]
  unfold prt acc prs
  simp only [List.length_cons, List.length_nil, prs, prPair, List.getD_cons_zero, List.getD_cons_succ]
  rw [dg_small (by decide : 3 < 10), dg_small (by decide : 0 < 10), dg_small (by decide : 1 < 10), dg_small (by decide : 2 < 10)]
  rfl
theorem scribeBegun_any (w : World) : Calls Tryd.prog 6 #[] w fun e w' => e = .returned (.bool true) ∧ Below w.heap.size w w' := by
  go_enter Tryd.func6, Tryd.ntmps6
  go_wp2_with fail
  refine (ladder_any _).mono ?_
  rintro e w1 ⟨⟨a, rfl, hr⟩, hb1⟩
  have HB1 : Hid (Below w.heap.size w w1) := hb1
  have HR : Hid (Row w1 a 3 fLad) := hr
  clear hb1 hr
  go_wp2_with fail
  refine (print_any 3 a 3 3 fLad _ (by unfold maxLen; omega) HR.out).mono ?_
  rintro e w2 ⟨⟨c, hc, hx⟩, hb2⟩
  obtain rfl := hc.unique lad_chk
  have HB2 : Hid (Below w.heap.size w w2) := Below.then HB1.out hb2
  rcases hx with ⟨h, _⟩ | ⟨_, rfl⟩
  · exact absurd rfl h
  rw [lad_prt]
  clear hc hb2 HB1 HR
  go_wp2_with fail
  go_ret
  exact ⟨rfl, HB2.out⟩

set_option maxRecDepth 20000 in
set_option maxHeartbeats 2000000 in
theorem scribePrints_any (n : Int) (a : Option Addr) (len cap : Nat) (f : Nat → Int) (w : World) (hl : len ≤ maxLen) (hr : Row w a len f) :
    Calls Tryd.prog 3 #[.agg #[.int .i64 n, .slice a len cap]] w fun e w' => e = .returned (.bool true) ∧ Below w.heap.size w w' := by
  have K0 : Held (w.alloc (.cells #[.int .i64 n, .slice a len cap] 24)) w.heap.size n a len cap f := Held.box hr
  have HB0 : Hid (Below w.heap.size w (w.alloc (.cells #[.int .i64 n, .slice a len cap] 24))) := (Below.refl _ _).alloc (Nat.le_refl _) _
  clear hr
  go_enter Tryd.func3, Tryd.ntmps3
  go_wp2_with fail
  refine (print_any n a len cap f _ hl K0.row).mono ?_
  rintro e w1 ⟨⟨c, hc, hx⟩, hb1⟩
  have K1 := K0.step hb1
  have HB1 : Hid (Below w.heap.size w w1) := Below.then HB0.out hb1
  have HC : Hid (Chk n len f c) := hc
  obtain ⟨S, HS, rfl⟩ : ∃ S : ByteArray, Hid ((c ≠ 0 ∧ S = ⟨#[]⟩) ∨ (c = 0 ∧ S = ⟨(prt len (covs (nat f) len)).toArray⟩)) ∧ e = .returned (.tuple #[.string S, .int .i64 c]) := by
    rcases hx with ⟨h0, rfl⟩ | ⟨rfl, rfl⟩
    · exact ⟨_, .inl ⟨h0, rfl⟩, rfl⟩
    · exact ⟨_, .inr ⟨rfl, rfl⟩, rfl⟩
  have k0 := K1.c0
  have k1 := K1.c1
  clear hc hx hb1 K0 HB0
  go_wp2_with fail
  refine (checkOrder_any n a len cap f _ hl K1.row).mono ?_
  rintro e w2 ⟨⟨c2, rfl, hc2⟩, hb2⟩
  obtain rfl := HC.out.unique hc2
  have K2 := K1.step hb2
  have HB2 : Hid (Below w.heap.size w w2) := Below.then HB1.out hb2
  clear hc2 hb2 K1 HB1 k0 k1
  go_wp2_with fail
  refine (scribeBegun_any _).mono ?_
  rintro e w3 ⟨rfl, hb3⟩
  have K3 := K2.step hb3
  have HB3 : Hid (Below w.heap.size w w3) := Below.then HB2.out hb3
  have k0 := K3.c0
  have k1 := K3.c1
  clear hb3 K2 HB2
  by_cases h0 : c = 0
  · subst h0
    obtain ⟨rfl, h10, hrng, hord⟩ := HC.out.good
    obtain rfl : S = ⟨(prt len (covs (nat f) len)).toArray⟩ := by
      rcases HS.out with ⟨h, _⟩ | ⟨_, h⟩
      · exact absurd rfl h
      · exact h
    have HG : Hid (Sm len len (nat f)) := hrng.small
    have HR : Hid (Row w3 a len (fun k => (nat f k : Nat))) := hrng.row K3.row
    obtain ⟨T, HT⟩ : ∃ T, Hid ((⟨(prt len (covs (nat f) len)).toArray⟩ : ByteArray) = T) := ⟨_, rfl⟩
    rw [HT.out]
    clear hrng hord K3 HS
    go_wp2_with fail
    refine (printOrder_any len a cap (nat f) _ h10 HG.out HR.out).mono ?_
    rintro e w4 ⟨rfl, hb4⟩
    have HB4 : Hid (Below w.heap.size w w4) := Below.then HB3.out hb4
    rw [HT.out]
    clear hb4 k0 k1
    go_wp2_with fail
    go_ret
    exact ⟨rfl, HB4.out⟩
  · have hne : (c == 0) = false := by simpa using h0
    have hne2 : (c != 0) = true := by simpa using h0
    obtain rfl : S = ⟨#[]⟩ := by
      rcases HS.out with ⟨_, h⟩ | ⟨h, _⟩
      · exact h
      · exact absurd h h0
    clear K3 HS
    go_wp2_with fail
    go_ret
    exact ⟨rfl, HB3.out⟩
end Go.Proofs.YthlhngjfbdaikaaDoor
