/-
  That hasselaw.ChainDilworth answers true. Conditions: the library's table lies in its variable; a slice reads as a slice of numbers.
-/
import Derived.Test.YtfcaeicekpcilaaDoorPartsL
namespace Go.Proofs.YtfcaeicekpcilaaDoor
open Go.RowKit

theorem isSet2_any (s : Int) (n : Nat) (w : World) (hn : n ≤ 10) :
    Calls Tryd.prog 20 #[.int .i64 s, .int .i64 n] w fun e w' => e = .returned (.bool (sts s n)) ∧ w = w' := by
  by_cases h0 : 0 ≤ s
  · by_cases h1 : s < ((pw n : Nat) : Int)
    · go_enter Tryd.func20, Tryd.ntmps20
      go_wp2_with (go_at_call 25; refine (bit_any n _ (by omega)).mono ?_; rintro e w' ⟨rfl, rfl⟩)
      go_ret
      exact ⟨ret_bool (by simp [sts, h0, h1]), rfl⟩
    · go_enter Tryd.func20, Tryd.ntmps20
      go_wp2_with (go_at_call 25; refine (bit_any n _ (by omega)).mono ?_; rintro e w' ⟨rfl, rfl⟩)
      go_ret
      exact ⟨ret_bool (by simp [sts, h0]), rfl⟩
  · have h0' : decide (0 ≤ s) = false := by simp; omega
    go_enter Tryd.func20, Tryd.ntmps20
    go_wp2
    go_ret
    exact ⟨ret_bool (by simp [sts]; omega), rfl⟩
theorem isSet_as (s : Int) (n : Nat) (w : World) (v : Bool) (hv : sts s n = v) (hn : n ≤ 10) :
    Calls Tryd.prog 20 #[.int .i64 s, .int .i64 n] w fun e w' => e = .returned (.bool v) ∧ w' = w :=
  (isSet2_any s n w hn).mono fun _ _ ⟨h1, h2⟩ => ⟨by rw [← hv]; exact h1, h2.symm⟩

set_option maxHeartbeats 1000000 in
theorem chainDilworth_any (n : Int) (a : Option Addr) (len cap : Nat) (f : Nat → Int) (X : Int) (w : World) (hl : len ≤ maxLen) (hr : Row w a len f) (hT : Tab w) :
    Calls Tryd.prog 6 #[.agg #[.int .i64 n, .slice a len cap], .int .i64 X] w fun e w' => e = .returned (.bool true) ∧ Below w.heap.size w w' := by
  have K0 : Held (w.alloc (.cells #[.int .i64 n, .slice a len cap] 24)) w.heap.size n a len cap f := Held.box hr
  have HB0 : Hid (Below w.heap.size w (w.alloc (.cells #[.int .i64 n, .slice a len cap] 24))) := (Below.refl _ _).alloc (Nat.le_refl _) _
  have HT : Hid (Tab w) := hT
  clear hr hT
  go_enter Tryd.func6, Tryd.ntmps6
  go_wp2_with fail
  refine (chainBegun_any _ (HT.out.step HB0.out)).mono ?_
  rintro e w1 ⟨rfl, hb⟩
  have K1 := K0.step hb
  have HB1 : Hid (Below w.heap.size w w1) := Below.then HB0.out hb
  clear hb K0 HB0
  have k0 := K1.c0
  have k1 := K1.c1
  go_wp2_with fail
  refine (widest_any n a len cap f _ hl K1.row).mono ?_
  rintro e w2 ⟨⟨c, hc, he⟩, hb⟩
  have K2 := K1.step hb
  have HB2 : Hid (Below w.heap.size w w2) := Below.then HB1.out hb
  clear hb K1 HB1 k0 k1
  have k0 := K2.c0
  have k1 := K2.c1
  rcases he with ⟨h0, rfl⟩ | ⟨rfl, rfl⟩
  · have hne : (c != 0) = true := by simpa using h0
    have heq : (c == c) = true := by simp
    go_wp2_with fail
    refine (parts_any n a len cap f _ hl K2.row (HT.out.step HB2.out)).mono ?_
    rintro e w3 ⟨⟨c', hc', he⟩, hb⟩
    obtain rfl := Chk.unique hc' hc
    have HB3 : Hid (Below w.heap.size w w3) := Below.then HB2.out hb
    rcases he with ⟨_, rfl⟩ | ⟨h, _⟩
    · clear hb K2 HB2 k0 k1 hc hc'
      go_wp2_with fail
      go_ret
      exact ⟨rfl, HB3.out⟩
    · exact absurd h h0
  · obtain ⟨rfl, h10, hrng, hord⟩ := hc.good
    obtain ⟨M, HM⟩ : ∃ M, Hid (M = wid (nat f) len (pw len)) := ⟨_, rfl⟩
    have HC : Hid (Chk (len : Int) len f 0) := hc
    rw [← HM.out]
    clear hc
    go_wp2_with fail
    refine (parts_any len a len cap f _ hl K2.row (HT.out.step HB2.out)).mono ?_
    rintro e w3 ⟨⟨c', hc', he⟩, hb⟩
    obtain rfl := Chk.unique hc' HC.out
    have K3 := K2.step hb
    have HB3 : Hid (Below w.heap.size w w3) := Below.then HB2.out hb
    clear hb K2 HB2 k0 k1 hc'
    rcases he with ⟨h, _⟩ | ⟨_, v, G, rfl, hnx, hls, hlen⟩
    · exact absurd rfl h
    have HS2 : Hid (∀ k, k < len → nat f k < 1024) := hrng.small2 h10
    have HOR : Hid (Ord len (nat f)) := hord
    have HPT : Hid (Ptd (nat f) len (pts (fr len G len) 10).length (chs (nat f) len G)) := chs_ptd h10 hrng.small hord hnx
    have HLN : Hid (∀ k, k < (pts (fr len G len) 10).length → (chs (nat f) len G k).length ≤ 1024) := fun k _ => chs_len h10 G k
    obtain ⟨Z, HZ⟩ : ∃ Z, Hid (Z = (pts (fr len G len) 10).length) := ⟨_, rfl⟩
    rw [← HZ.out] at hls hlen HPT HLN
    have hZ10 : Z ≤ 10 := by rw [hlen]; exact pc_le2 _
    obtain ⟨a1, cap1, rfl, hls2⟩ := hls
    have HLS : Hid (LSl w3 (.slice a1 Z cap1) Z (chs (nat f) len G)) := ⟨a1, cap1, rfl, hls2⟩
    have HZM : Hid (Z = pc M) := by rw [HM.out]; exact hlen
    have hpn := pw_le len h10
    have hMl : M < pw len := by rw [HM.out]; exact wid_lt _ _ (pw_pos len) _ (Nat.le_refl _)
    have hML : M < 1024 := by omega
    have hMA : antB (nat f) len M = true := by rw [HM.out]; exact wid_ant _ _ _
    have HMX : Hid (∀ S, S < pw len → antB (nat f) len S = true → pc S ≤ pc M) := by rw [HM.out]; exact fun S h1 h2 => wid_max _ _ _ S h1 h2
    have hMS : sts (M : Nat) len = true := by unfold sts; simp; omega
    have hq : (((pc M : Nat) : Int) != ((Z : Nat) : Int)) = false := by rw [HZM.out]; simp
    clear hnx hls2 hlen hord HZ
    have k0 := K3.c0
    have k1 := K3.c1
    go_wp2_with fail
    refine (parted_any len a cap (nat f) a1 Z cap1 (chs (nat f) len G) _ h10 HS2.out HOR.out HPT.out hZ10 HLN.out (hrng.row K3.row) HLS.out).mono ?_
    rintro e w4 ⟨rfl, hb4⟩
    have HB4 : Hid (Below w.heap.size w w4) := Below.then HB3.out hb4
    have K4 := K3.step hb4
    clear hb4 HB3 K3 HLS k0 k1 HM HPT HLN
    have k0 := K4.c0
    have k1 := K4.c1
    go_wp2_with (go_at_call 20; refine (isSet_as (M : Nat) len _ true hMS h10).mono ?_; rintro e w' ⟨rfl, rfl⟩)
    refine (isAnti_as len a cap (nat f) M true _ hMA h10 HS2.out (hrng.row K4.row) hML).mono ?_
    rintro e w5 ⟨rfl, hb5⟩
    have HB5 : Hid (Below w.heap.size w w5) := Below.then HB4.out hb5
    have K5 := K4.step hb5
    clear hb5 HB4 K4 k0 k1 hMA hMS
    have k0 := K5.c0
    have k1 := K5.c1
    cases hs : sts X len
    · clear hrng
      go_wp2_with (first
        | (go_at_call 15; refine (refSize_any M _ hML).mono ?_; rintro e w' ⟨rfl, rfl⟩)
        | (go_at_call 20; refine (isSet_as X len _ false hs h10).mono ?_; rintro e w' ⟨rfl, rfl⟩))
      go_ret
      exact ⟨rfl, HB5.out⟩
    · obtain ⟨x, rfl, hx⟩ : ∃ x : Nat, X = (x : Nat) ∧ x < pw len := by
        unfold sts at hs
        simp at hs
        exact ⟨X.toNat, by omega, by omega⟩
      have hx2 : x < 1024 := by omega
      go_wp2_with (first
        | (go_at_call 15; refine (refSize_any M _ hML).mono ?_; rintro e w' ⟨rfl, rfl⟩)
        | (go_at_call 20; refine (isSet_as (x : Nat) len _ true hs h10).mono ?_; rintro e w' ⟨rfl, rfl⟩))
      cases ha : antB (nat f) len x
      · refine (isAnti_as len a cap (nat f) x false _ ha h10 HS2.out (hrng.row K5.row) hx2).mono ?_
        rintro e w6 ⟨rfl, hb6⟩
        have HB6 : Hid (Below w.heap.size w w6) := Below.then HB5.out hb6
        clear hb6 HB5 K5 k0 k1 hrng
        go_wp2_with fail
        go_ret
        exact ⟨rfl, HB6.out⟩
      · refine (isAnti_as len a cap (nat f) x true _ ha h10 HS2.out (hrng.row K5.row) hx2).mono ?_
        rintro e w6 ⟨rfl, hb6⟩
        have HB6 : Hid (Below w.heap.size w w6) := Below.then HB5.out hb6
        have hle : ((pc x : Nat) : Int) ≤ ((Z : Nat) : Int) := by
          have h1 := HMX.out x hx ha
          have h2 := HZM.out
          omega
        clear hb6 HB5 K5 k0 k1 hrng HMX HZM
        go_wp2_with (go_at_call 15; refine (refSize_any x _ hx2).mono ?_; rintro e w' ⟨rfl, rfl⟩)
        go_ret
        exact ⟨rfl, HB6.out⟩
end Go.Proofs.YtfcaeicekpcilaaDoor
