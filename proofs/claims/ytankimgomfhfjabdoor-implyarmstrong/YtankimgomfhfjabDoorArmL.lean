/-
  For every number, rules, rule and number that are handed in, hasselaw.ImplyArmstrong returns true, and writes nothing that was there. Conditions: the table of the least bits.
-/
import Derived.Test.YtankimgomfhfjabDoorImpQ
import Derived.Test.YtankimgomfhfjabDoorFol
import Derived.Test.YtankimgomfhfjabDoorChoose
import Derived.Test.YtankimgomfhfjabDoorTogether
namespace Go.Proofs.YtankimgomfhfjabDoor
open Go.RowKit

theorem close_good (n : Nat) (a : Option Addr) (len cap : Nat) (p : Nat → Int × Int) (s : Nat) (w : World) (hl : len ≤ maxLen) (hr : PRow w a len p) (hc : RChk n len p 0) (hs : s < pw n) :
    Calls Tryd.prog 9 #[.int .i64 (n : Int), .slice a len cap, .int .i64 (s : Nat)] w fun e w' => e = .returned (.tuple #[.int .i64 ((clo (rls p len) n s : Nat) : Int), .int .i64 0]) ∧ Below w.heap.size w w' := by
  refine (close_any n a len cap p s w hl hr).mono ?_
  rintro e w' ⟨h, hb⟩
  refine ⟨?_, hb⟩
  rcases h with ⟨c, h0, hcc, _⟩ | ⟨n', hn, _, _, _, _, ⟨hs', _⟩ | ⟨s', hs', _, he⟩⟩
  · exact absurd (hcc.unique hc) h0
  · obtain rfl : n' = n := by omega
    exact absurd ⟨by omega, by omega⟩ hs'
  · obtain rfl : n' = n := by omega
    obtain rfl : s' = s := by omega
    exact he

set_option maxHeartbeats 2000000 in
theorem implyArmstrong_any (N : Int) (a : Option Addr) (len cap : Nat) (p : Nat → Int × Int) (X Y K : Int) (w : World) (hl : len ≤ maxLen) (k1 : -9223372036854775808 ≤ K) (k2 : K ≤ 9223372036854775807) (hr : PRow w a len p) (hT : Tab w) :
    Calls Tryd.prog 4 #[.int .i64 N, .slice a len cap, .agg #[.int .i64 X, .int .i64 Y], .int .i64 K] w fun e w' => e = .returned (.bool true) ∧ Below w.heap.size w w' := by
  obtain ⟨W0, HW0⟩ : ∃ W0, Hid (W0 = w.alloc (.cells #[.int .i64 X, .int .i64 Y] 30)) := ⟨_, rfl⟩
  have B0 : Below w.heap.size w W0 := by rw [HW0.out]; exact (Below.refl _ _).alloc (Nat.le_refl _) _
  have HB0 : Hid (Below w.heap.size w W0) := B0
  have HR : Hid (∀ w', Below w.heap.size w w' → PRow w' a len p) := fun w' h => hr.below h
  have HT : Hid (Tab w) := hT
  have d0 : W0.cell? ⟨w.heap.size, 0, none⟩ = some (.int .i64 X) := by rw [HW0.out]; simp
  have d1 : W0.cell? ⟨w.heap.size, 1, none⟩ = some (.int .i64 Y) := by rw [HW0.out]; simp
  have HD0 : Hid (∀ w', Below W0.heap.size W0 w' → w'.cell? ⟨w.heap.size, 0, none⟩ = some (.int .i64 X)) := fun w' h => (h.cell (World.block_lt_of_cell? _ _ d0)).trans d0
  have HD1 : Hid (∀ w', Below W0.heap.size W0 w' → w'.cell? ⟨w.heap.size, 1, none⟩ = some (.int .i64 Y)) := fun w' h => (h.cell (World.block_lt_of_cell? _ _ d1)).trans d1
  clear hr d0 d1 B0 hT
  go_enter Tryd.func4, Tryd.ntmps4
  go_wp2_with fail
  rw [← HW0.out]
  clear HW0
  refine (implyBegun_any _ (HT.out.step HB0.out)).mono ?_
  rintro e w1 ⟨rfl, hb1⟩
  have H01 : Hid (Below W0.heap.size W0 w1) := hb1
  have c0 := HD0.out _ hb1
  have c1 := HD1.out _ hb1
  clear hb1
  go_wp2_with fail
  refine (follows_any N a len cap p X Y _ hl (HR.out _ (Below.then HB0.out H01.out))).mono ?_
  rintro e w2 ⟨he, hb2⟩
  have H02 : Hid (Below W0.heap.size W0 w2) := Below.then H01.out hb2
  clear hb2 c0 c1 H01
  rcases he with ⟨c, h0, hc, rfl⟩ | ⟨n, rfl, hc, h10, h60, hri, ⟨hs, rfl⟩ | ⟨x, y, rfl, rfl, hx, hy, rfl⟩⟩
  · have hne : (c != 0) = true := by simpa using h0
    go_wp2_with fail
    go_ret
    exact ⟨rfl, Below.then HB0.out H02.out⟩
  · go_wp2_with fail
    go_ret
    exact ⟨rfl, Below.then HB0.out H02.out⟩
  have HCL : Hid (∀ s, s < pw n → ∀ w', Below W0.heap.size W0 w' → Calls Tryd.prog 9 #[.int .i64 (n : Int), .slice a len cap, .int .i64 (s : Nat)] w' fun e w'' => e = .returned (.tuple #[.int .i64 ((clo (rls p len) n s : Nat) : Int), .int .i64 0]) ∧ Below w'.heap.size w' w'') := fun s hs w' h => close_good n a len cap p s w' hl (HR.out _ (Below.then HB0.out h)) hc hs
  have hRI := hri.rin
  obtain ⟨R, HRE⟩ : ∃ R, Hid (R = rls p len) := ⟨_, rfl⟩
  rw [← HRE.out] at HCL hRI ⊢
  have HRI : Hid (RIn n R) := hRI
  have hx1 := set_1024 h10 hx
  have hy1 := set_1024 h10 hy
  have hp1 := pw_pos n
  have hp2 : pw n ≤ 10000000000 := Nat.le_trans (pw_le n h10) (by decide)
  have HLT : Hid (∀ s, clo R n s < pw n ∧ clo R n s < 1024) := fun s => ⟨clo_lt, set_1024 h10 clo_lt⟩
  clear hc hri hRI
  have c0 := HD0.out _ H02.out
  go_wp2_with fail
  refine (HCL.out x hx _ H02.out).mono ?_
  rintro e w3 ⟨rfl, hb3⟩
  have H03 : Hid (Below W0.heap.size W0 w3) := Below.then H02.out hb3
  clear hb3 c0 H02
  go_wp2_with fail
  refine (bit_any n _ (by omega)).mono ?_
  rintro e w' ⟨rfl, rfl⟩
  go_wp2_with fail
  refine (choose_any K (pw n) _ hp1 hp2 k1 k2).mono ?_
  rintro e w' ⟨⟨s, hs, rfl⟩, rfl⟩
  have hs1 := set_1024 h10 hs
  go_wp2_with fail
  refine (HCL.out s hs _ H03.out).mono ?_
  rintro e w4 ⟨rfl, hb4⟩
  have H04 : Hid (Below W0.heap.size W0 w4) := Below.then H03.out hb4
  clear hb4 H03
  go_wp2_with fail
  refine (HCL.out (clo R n s) (HLT.out s).1 _ H04.out).mono ?_
  rintro e w5 ⟨rfl, hb5⟩
  have H05 : Hid (Below W0.heap.size W0 w5) := Below.then H04.out hb5
  have c0 := HD0.out _ H05.out
  clear hb5 H04
  have hor : s ||| x < pw n := Nat.or_lt_two_pow hs hx
  go_wp2_with fail
  refine (together_any s x _ hs1 hx1).mono ?_
  rintro e w' ⟨rfl, rfl⟩
  go_wp2_with fail
  refine (HCL.out (s ||| x) hor _ H05.out).mono ?_
  rintro e w6 ⟨rfl, hb6⟩
  have H06 : Hid (Below W0.heap.size W0 w6) := Below.then H05.out hb6
  have c1 := HD1.out _ H06.out
  have HE1 : Hid (clo R n (clo R n s) = clo R n s) := clo_twice h10 HRI.out hs
  have HI1 : Hid ((lack s (clo R n s) == 0) = true) := (lack_sb hs1 (HLT.out s).2).2 (clo_is h10 HRI.out hs).2.1
  have HI2 : Hid ((lack (clo R n s) (clo R n (s ||| x)) == 0) = true) := (lack_sb (HLT.out s).2 (HLT.out _).2).2 (clo_mono h10 HRI.out hs hor (fun i hi => by rw [Nat.testBit_or, hi]; rfl))
  have HOB : Hid (obe (clo R n x) (x, y) = (lack y (clo R n x) == 0)) := by
    have h1 : (lack x (clo R n x) == 0) = true := (lack_sb hx1 (HLT.out x).2).2 (clo_is h10 HRI.out hx).2.1
    unfold obe
    rw [Hid, h1]; rfl
  have l1 := (HLT.out x).2
  have l2 := (HLT.out s).2
  have l3 := (HLT.out (s ||| x)).2
  clear hb6 c0 H05 HCL
  rw [HE1.out, HOB.out]
  obtain ⟨cx, HCX⟩ : ∃ z, Hid (z = clo R n x) := ⟨_, rfl⟩
  obtain ⟨cs, HCS⟩ : ∃ z, Hid (z = clo R n s) := ⟨_, rfl⟩
  obtain ⟨co, HCO⟩ : ∃ z, Hid (z = clo R n (s ||| x)) := ⟨_, rfl⟩
  rw [← HCS.out] at HI1 HI2 l2 ⊢
  rw [← HCX.out] at l1 ⊢
  rw [← HCO.out] at HI2 l3 ⊢
  go_wp2_with fail
  refine (inside_any y cx _ (by omega) (by omega)).mono ?_
  rintro e w' ⟨rfl, rfl⟩
  obtain ⟨bb, HBB⟩ : ∃ b, Hid (b = (lack y cx == 0)) := ⟨_, rfl⟩
  rw [← HBB.out]
  cases bb
  · go_wp2_with fail
    refine (inside_any s cs _ (by omega) (by omega)).mono ?_
    rintro e w' ⟨rfl, rfl⟩
    rw [HI1.out]
    go_wp2_with fail
    refine (inside_any cs co _ (by omega) (by omega)).mono ?_
    rintro e w' ⟨rfl, rfl⟩
    rw [HI2.out]
    go_wp2_with fail
    go_ret
    exact ⟨rfl, Below.then HB0.out H06.out⟩
  · go_wp2_with fail
    refine (inside_any s cs _ (by omega) (by omega)).mono ?_
    rintro e w' ⟨rfl, rfl⟩
    rw [HI1.out]
    go_wp2_with fail
    refine (inside_any cs co _ (by omega) (by omega)).mono ?_
    rintro e w' ⟨rfl, rfl⟩
    rw [HI2.out]
    go_wp2_with fail
    go_ret
    exact ⟨rfl, Below.then HB0.out H06.out⟩
end Go.Proofs.YtankimgomfhfjabDoor
