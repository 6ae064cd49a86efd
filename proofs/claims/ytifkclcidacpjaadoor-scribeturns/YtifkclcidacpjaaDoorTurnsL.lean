/-
  hasselaw.ScribeTurns returns true for every order. No condition but that a slice reads as a slice of numbers.
-/
import Derived.Test.YtifkclcidacpjaaDoorPrintP
import Derived.Test.YtifkclcidacpjaaDoorReadR
import Derived.Test.YtifkclcidacpjaaDoorGiven
namespace Go.Proofs.YtifkclcidacpjaaDoor
open Go.RowKit

def gLad (k : Nat) : Nat := if k = 0 then 0 else if k = 1 then 1 else 3
def fLad (k : Nat) : Int := (gLad k : Nat)
theorem ladder_any (w : World) : Calls Tryd.prog 8 #[] w fun e w' => (∃ a, e = .returned (.agg #[.int .i64 3, .slice a 3 3]) ∧ Row w' a 3 fLad) ∧ Below w.heap.size w w' := by
  go_enter Tryd.func8, Tryd.ntmps8
  go_wp2_with fail
  refine bodyPost_ret (v := .agg #[.int .i64 3, .slice (some ⟨w.heap.size + 1, 0, none⟩) 3 3]) (by simp [results, Tryd.results8, go_sem]) rfl ⟨⟨_, rfl, ?_⟩, ?_⟩
  · intro k hk
    refine ⟨w.heap.size + 1, 0, rfl, ?_⟩
    match k, hk with
    | 0, _ => simp [fLad, gLad]
    | 1, _ => simp [fLad, gLad]
    | 2, _ => simp [fLad, gLad]
  · exact ((Below.refl _ _).alloc (Nat.le_refl _) _).alloc (by simp) _
theorem natLad : nat fLad = gLad := by funext k; simp [nat, fLad]
theorem lad_chk : Chk 3 3 fLad 0 := by
  refine .inr ⟨3, rfl, by omega, .inr ⟨rfl, .inr ⟨?_, .inr ⟨rfl, ?_⟩⟩⟩⟩
  · unfold Rng fLad; decide +kernel
  · rw [natLad]; unfold Ord OrdAt; decide +kernel
theorem lad_covs : covs gLad 3 = [(0, 1), (1, 2)] := by decide +kernel
theorem lad_prt : prt 3 (covs (nat fLad) 3) = [51, 58, 32, 48, 60, 49, 32, 49, 60, 50] := by
  rw [natLad, lad_covs]
  unfold prt acc prs
  simp only [List.length_cons, List.length_nil, prs, prPair, List.getD_cons_zero, List.getD_cons_succ]
  rw [dg_small (by decide : 3 < 10), dg_small (by decide : 0 < 10), dg_small (by decide : 1 < 10), dg_small (by decide : 2 < 10)]
  rfl
theorem scribeBegun_any (w : World) : Calls Tryd.prog 4 #[] w fun e w' => e = .returned (.bool true) ∧ Below w.heap.size w w' := by
  go_enter Tryd.func4, Tryd.ntmps4
  go_wp2_with fail
  refine (ladder_any _).mono ?_
  rintro e w1 ⟨⟨a, rfl, hr⟩, hb1⟩
  have HB1 : Hid (Below w.heap.size w w1) := hb1
  have HR : Hid (Row w1 a 3 fLad) := hr
  clear hb1 hr
  go_wp2_with fail
  refine (print_any 3 a 3 3 fLad _ (by unfold maxLen; omega) HR.out).mono ?_
  rintro e w2 ⟨⟨c, hc, hx⟩, hb2⟩
  obtain rfl := hc.unique lad_chk
  have HB2 : Hid (Below w.heap.size w w2) := Below.then HB1.out hb2
  rcases hx with ⟨h, _⟩ | ⟨_, rfl⟩
  · exact absurd rfl h
  rw [lad_prt]
  clear hc hb2 HB1 HR
  go_wp2_with fail
  go_ret
  exact ⟨rfl, HB2.out⟩

set_option maxRecDepth 20000 in
set_option maxHeartbeats 2000000 in
theorem scribeTurns_any (n : Int) (a : Option Addr) (len cap : Nat) (f : Nat → Int) (w : World) (hl : len ≤ maxLen) (hr : Row w a len f) :
    Calls Tryd.prog 3 #[.agg #[.int .i64 n, .slice a len cap]] w fun e w' => e = .returned (.bool true) ∧ Below w.heap.size w w' := by
  have K0 : Held (w.alloc (.cells #[.int .i64 n, .slice a len cap] 24)) w.heap.size n a len cap f := Held.box hr
  have HB0 : Hid (Below w.heap.size w (w.alloc (.cells #[.int .i64 n, .slice a len cap] 24))) := (Below.refl _ _).alloc (Nat.le_refl _) _
  clear hr
  go_enter Tryd.func3, Tryd.ntmps3
  go_wp2_with fail
  refine (scribeBegun_any _).mono ?_
  rintro e w0 ⟨rfl, hb0⟩
  have K1 := K0.step hb0
  have HB1 : Hid (Below w.heap.size w w0) := Below.then HB0.out hb0
  have k0 := K1.c0
  have k1 := K1.c1
  clear hb0 K0 HB0
  go_wp2_with fail
  refine (print_any n a len cap f _ hl K1.row).mono ?_
  rintro e w1 ⟨⟨c, hc, hx⟩, hb1⟩
  have K2 := K1.step hb1
  have HB2 : Hid (Below w.heap.size w w1) := Below.then HB1.out hb1
  clear hb1 K1 HB1 k0 k1
  rcases hx with ⟨h0, rfl⟩ | ⟨rfl, rfl⟩
  · have hne : (c != 0) = true := by simpa using h0
    clear hc
    go_wp2_with fail
    go_ret
    exact ⟨rfl, HB2.out⟩
  · obtain ⟨rfl, h10, hrng, hord⟩ := hc.good
    have HG : Hid (Sm len len (nat f)) := hrng.small
    have HO : Hid (Ord len (nat f)) := hord
    have HFN : Hid (∀ k, k < len → f k = ((nat f k : Nat) : Int)) := fun k hk => by have := (hrng k hk).1; unfold nat; omega
    have HRD := read_any len (nat f) w1 h10 HG.out HO.out
    have HRDH : Hid (Calls Tryd.prog 6 #[.string ⟨(prt len (covs (nat f) len)).toArray⟩] w1 fun e w' => (∃ b, e = .returned (.tuple #[.agg #[.int .i64 (len : Int), .slice (some ⟨b, 0, none⟩) len len], .agg #[.int .i64 0, .int .i64 0]]) ∧ Row w' (some ⟨b, 0, none⟩) len (fun k => (nat f k : Nat))) ∧ Below w1.heap.size w1 w') := HRD
    obtain ⟨T, HT⟩ : ∃ T, Hid ((⟨(prt len (covs (nat f) len)).toArray⟩ : ByteArray) = T) := ⟨_, rfl⟩
    rw [HT.out] at HRDH ⊢
    clear hc hrng hord HRD
    go_wp2_with fail
    refine HRDH.out.mono ?_
    rintro e w2 ⟨⟨b, rfl, hrow⟩, hb2⟩
    obtain ⟨W, HW⟩ : ∃ W, Hid (W = (w2.alloc (.cells #[.int .i64 (len : Int), .slice (some ⟨b, 0, none⟩) len len] 24)).alloc (.cells #[.int .i64 0, .int .i64 0] 30)) := ⟨_, rfl⟩
    have hbW : Below w2.heap.size w2 W := by rw [HW.out]; exact ((Below.refl _ _).alloc (Nat.le_refl _) _).alloc (by simp) _
    have K4 := (K2.step hb2).step hbW
    have HRW : Hid (Row W (some ⟨b, 0, none⟩) len (fun k => (nat f k : Nat))) := hrow.below hbW
    have HBW : Hid (Below w.heap.size w W) := Below.then (Below.then HB2.out hb2) hbW
    have HKR : Hid (Row W a len f) := K4.row
    have K4e := K4
    rw [HW.out] at K4e
    have k0 := K4e.c0
    have k1 := K4e.c1
    clear hrow hb2 hbW K2 HB2 HRDH K4
    go_wp2_with fail
    rw [← HW.out]
    clear HW K4e k0 k1
    refine (sameOrder_any len len a (some ⟨b, 0, none⟩) len cap len len f (fun k => (nat f k : Nat)) _ hl hl HKR.out HRW.out).mono ?_
    rintro e w3 ⟨⟨q, rfl, hq⟩, hb3⟩
    obtain rfl : q = true := hq.2 ⟨rfl, rfl, fun k hk => HFN.out k hk⟩
    have HB3 : Hid (Below w.heap.size w w3) := Below.then HBW.out hb3
    clear hb3 hq
    go_wp2_with fail
    go_ret
    exact ⟨rfl, HB3.out⟩
end Go.Proofs.YtifkclcidacpjaaDoor
