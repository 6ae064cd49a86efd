/-
  That hasselaw.chainBegun answers true; what hasselaw.numberIs answers. Condition: the library's table lies in its variable.
-/
import Derived.Test.YtfcaeicekpcilaaDoorWide
import Derived.Test.YtfcaeicekpcilaaDoorParts
namespace Go.Proofs.YtfcaeicekpcilaaDoor
open Go.RowKit


def gLad (k : Nat) : Nat := if k = 0 then 0 else if k = 1 then 1 else 3
def fLad (k : Nat) : Int := (gLad k : Nat)
theorem ladder_any (w : World) : Calls Tryd.prog 27 #[] w fun e w' => (∃ a, e = .returned (.agg #[.int .i64 3, .slice a 3 3]) ∧ Row w' a 3 fLad) ∧ Below w.heap.size w w' := by
  go_enter Tryd.func27, Tryd.ntmps27
  go_wp2_with fail
  refine bodyPost_ret (v := .agg #[.int .i64 3, .slice (some ⟨w.heap.size + 1, 0, none⟩) 3 3]) (by simp [results, Tryd.results27, go_sem]) rfl ⟨⟨_, rfl, ?_⟩, ?_⟩
  · intro k hk
    refine ⟨w.heap.size + 1, 0, rfl, ?_⟩
    match k, hk with
    | 0, _ => simp [fLad, gLad]
    | 1, _ => simp [fLad, gLad]
    | 2, _ => simp [fLad, gLad]
  · exact ((Below.refl _ _).alloc (Nat.le_refl _) _).alloc (by simp) _
theorem natLad : nat fLad = gLad := by funext k; simp [nat, fLad]
theorem lad_chk : Chk 3 3 fLad 0 := by
  refine .inr ⟨3, rfl, by omega, .inr ⟨rfl, .inr ⟨?_, .inr ⟨rfl, ?_⟩⟩⟩⟩
  · unfold Rng fLad; decide +kernel
  · rw [natLad]; unfold Ord OrdAt; decide +kernel

theorem numberIs_any (c x y : Int) (w : World) (h : (c ≠ 0 ∧ x = 0) ∨ (c = 0 ∧ x = y)) :
    Calls Tryd.prog 12 #[.int .i64 x, .int .i64 c, .int .i64 c, .int .i64 y] w fun e w' => e = .returned (.bool true) ∧ w = w' := by
  rcases h with ⟨h0, rfl⟩ | ⟨rfl, rfl⟩
  · have hne : (c != 0) = true := by simpa using h0
    go_enter Tryd.func12, Tryd.ntmps12
    go_wp2
    go_ret
    exact ⟨rfl, rfl⟩
  · go_enter Tryd.func12, Tryd.ntmps12
    go_wp2
    go_ret
    exact ⟨rfl, rfl⟩
theorem two_chk : Chk 2 2 (fun _ => 0) 0 := by
  refine .inr ⟨2, rfl, by omega, .inr ⟨rfl, .inr ⟨?_, .inr ⟨rfl, ?_⟩⟩⟩⟩
  · unfold Rng; decide +kernel
  · unfold Ord OrdAt nat; decide +kernel
theorem two_wid : wid (nat fun _ => 0) 2 (pw 2) = 3 := by decide +kernel
theorem lad_wid : pc (wid gLad 3 (pw 3)) = 1 := by decide +kernel

theorem chainBegun_any (w : World) (hT : Tab w) : Calls Tryd.prog 11 #[] w fun e w' => e = .returned (.bool true) ∧ Below w.heap.size w w' := by
  have HT : Hid (Tab w) := hT
  clear hT
  go_enter Tryd.func11, Tryd.ntmps11
  go_wp2_with fail
  refine (widest_any 2 _ 2 2 (fun _ => 0) _ (by unfold maxLen; omega) ?_).mono ?_
  · intro k hk
    refine ⟨w.heap.size, 0, rfl, ?_⟩
    match k, hk with
    | 0, _ => simp
    | 1, _ => simp
  rintro e w1 ⟨⟨c, hc, he⟩, hb1⟩
  obtain rfl := hc.unique two_chk
  rcases he with ⟨h0, _⟩ | ⟨_, rfl⟩
  · exact absurd rfl h0
  rw [two_wid]
  have HB1 : Hid (Below w.heap.size w w1) := Below.then ((Below.refl _ _).alloc (Nat.le_refl _) _) hb1
  clear hb1 hc
  go_wp2_with fail
  refine (ladder_any _).mono ?_
  rintro e w2 ⟨⟨a, rfl, hrow⟩, hb2⟩
  have HB2 : Hid (Below w.heap.size w w2) := Below.then HB1.out hb2
  have HR2 : Hid (Row w2 a 3 fLad) := hrow
  clear hb2 hrow HB1
  go_wp2_with fail
  refine (parts_any 3 a 3 3 fLad _ (by unfold maxLen; omega) HR2.out (HT.out.step HB2.out)).mono ?_
  rintro e w3 ⟨⟨c, hc, he⟩, hb3⟩
  obtain rfl := hc.unique lad_chk
  rcases he with ⟨h0, _⟩ | ⟨_, v, G, rfl, _, hls, hlen⟩
  · exact absurd rfl h0
  rw [natLad, lad_wid] at hlen
  rw [hlen] at hls
  obtain ⟨a3, cap3, rfl, _⟩ := hls
  have HB3 : Hid (Below w.heap.size w w3) := Below.then HB2.out hb3
  clear hb3 hc HB2 HR2 hlen
  go_wp2_with fail
  go_ret
  exact ⟨rfl, HB3.out⟩

set_option maxHeartbeats 1000000 in
theorem chainWidest_any (n : Int) (a : Option Addr) (len cap : Nat) (f : Nat → Int) (w : World) (hl : len ≤ maxLen) (hr : Row w a len f) (hT : Tab w) :
    Calls Tryd.prog 3 #[.agg #[.int .i64 n, .slice a len cap]] w fun e w' => e = .returned (.bool true) ∧ Below w.heap.size w w' := by
  have K0 : Held (w.alloc (.cells #[.int .i64 n, .slice a len cap] 24)) w.heap.size n a len cap f := Held.box hr
  have HB0 : Hid (Below w.heap.size w (w.alloc (.cells #[.int .i64 n, .slice a len cap] 24))) := (Below.refl _ _).alloc (Nat.le_refl _) _
  have HT : Hid (Tab w) := hT
  clear hr hT
  go_enter Tryd.func3, Tryd.ntmps3
  go_wp2_with fail
  refine (widest_any n a len cap f _ hl K0.row).mono ?_
  rintro e w1 ⟨⟨c, hc, he⟩, hb⟩
  have K1 := K0.step hb
  have k0 := K1.c0
  have k1 := K1.c1
  have HB1 : Hid (Below w.heap.size w w1) := Below.then HB0.out hb
  clear hb K0 HB0
  rcases he with ⟨h0, rfl⟩ | ⟨rfl, rfl⟩
  · have hne2 : (c == 0) = false := by simpa using h0
    go_wp2_with fail
    refine (checkOrder_any n a len cap f _ hl K1.row).mono ?_
    rintro e w2 ⟨⟨c', rfl, hc'⟩, hb2⟩
    obtain rfl := Chk.unique hc' hc
    have HB2 : Hid (Below w.heap.size w w2) := Below.then HB1.out hb2
    clear hb2 HB1 K1 k0 k1 hc hc'
    go_wp2_with fail
    refine (chainBegun_any _ (HT.out.step HB2.out)).mono ?_
    rintro e w3 ⟨rfl, hb3⟩
    have HB3 : Hid (Below w.heap.size w w3) := Below.then HB2.out hb3
    clear hb3 HB2
    go_wp2_with fail
    refine (numberIs_any c' 0 _ _ (.inl ⟨h0, rfl⟩)).mono ?_
    rintro e w4 ⟨rfl, rfl⟩
    go_wp2_with fail
    go_ret
    exact ⟨rfl, HB3.out⟩
  · obtain ⟨rfl, h10, hrng, hord⟩ := hc.good
    obtain ⟨M, HM⟩ : ∃ M, Hid (M = wid (nat f) len (pw len)) := ⟨_, rfl⟩
    rw [← HM.out]
    have HS2 : Hid (∀ k, k < len → nat f k < 1024) := hrng.small2 h10
    go_wp2_with fail
    refine (checkOrder_any len a len cap f _ hl K1.row).mono ?_
    rintro e w2 ⟨⟨c', rfl, hc'⟩, hb2⟩
    obtain rfl := Chk.unique hc' hc
    have HB2 : Hid (Below w.heap.size w w2) := Below.then HB1.out hb2
    have K2 := K1.step hb2
    have m0 := K2.c0
    have m1 := K2.c1
    clear hb2 HB1 k0 k1 hc hc' K1
    go_wp2_with fail
    refine (widestSet_any len a cap (nat f) _ h10 HS2.out (hrng.row K2.row)).mono ?_
    rintro e w3 ⟨rfl, hb3⟩
    rw [← HM.out]
    have HB3 : Hid (Below w.heap.size w w3) := Below.then HB2.out hb3
    clear hb3 HB2 K2 m0 m1 hrng hord
    go_wp2_with fail
    refine (chainBegun_any _ (HT.out.step HB3.out)).mono ?_
    rintro e w4 ⟨rfl, hb4⟩
    have HB4 : Hid (Below w.heap.size w w4) := Below.then HB3.out hb4
    clear hb4 HB3
    go_wp2_with fail
    refine (numberIs_any 0 (M : Int) (M : Int) _ (.inr ⟨rfl, rfl⟩)).mono ?_
    rintro e w5 ⟨rfl, rfl⟩
    go_wp2_with fail
    go_ret
    exact ⟨rfl, HB4.out⟩
end Go.Proofs.YtfcaeicekpcilaaDoor
