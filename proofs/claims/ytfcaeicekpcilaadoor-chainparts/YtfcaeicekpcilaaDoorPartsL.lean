/-
  That hasselaw.ChainParts answers true. Conditions: the library's table lies in its variable; a slice reads as a slice of numbers.
-/
import Derived.Test.YtfcaeicekpcilaaDoorParted
import Derived.Test.YtfcaeicekpcilaaDoorChBegun
namespace Go.Proofs.YtfcaeicekpcilaaDoor
open Go.RowKit

theorem chs_ptd {g : Nat → Nat} {n : Nat} {G : Nat → Int} (hn : n ≤ 10) (hg : Sm n n g) (ho : Ord n g) (hG : Nxt g n G) : Ptd g n (pts (fr n G n) 10).length (chs g n G) := ptd_of hn hg ho hG
theorem chs_len {g : Nat → Nat} {n : Nat} (hn : n ≤ 10) (G : Nat → Int) (k : Nat) : (chs g n G k).length ≤ 1024 := fl_len hn G _

set_option maxHeartbeats 1000000 in
theorem chainParts_any (n : Int) (a : Option Addr) (len cap : Nat) (f : Nat → Int) (w : World) (hl : len ≤ maxLen) (hr : Row w a len f) (hT : Tab w) :
    Calls Tryd.prog 4 #[.agg #[.int .i64 n, .slice a len cap]] w fun e w' => e = .returned (.bool true) ∧ Below w.heap.size w w' := by
  have K0 : Held (w.alloc (.cells #[.int .i64 n, .slice a len cap] 24)) w.heap.size n a len cap f := Held.box hr
  have HB0 : Hid (Below w.heap.size w (w.alloc (.cells #[.int .i64 n, .slice a len cap] 24))) := (Below.refl _ _).alloc (Nat.le_refl _) _
  have HT : Hid (Tab w) := hT
  clear hr hT
  go_enter Tryd.func4, Tryd.ntmps4
  go_wp2_with fail
  refine (parts_any n a len cap f _ hl K0.row (HT.out.step HB0.out)).mono ?_
  rintro e w1 ⟨⟨c, hc, he⟩, hb⟩
  have K1 := K0.step hb
  have k0 := K1.c0
  have k1 := K1.c1
  have HB1 : Hid (Below w.heap.size w w1) := Below.then HB0.out hb
  clear hb K0 HB0
  rcases he with ⟨h0, rfl⟩ | ⟨rfl, v, G, rfl, hnx, hls, hlen⟩
  · have hne2 : (c != 0) = true := by simpa using h0
    have heq : (c == c) = true := by simp
    have hnn : (c != c) = false := by simp
    go_wp2_with fail
    refine (checkOrder_any n a len cap f _ hl K1.row).mono ?_
    rintro e w2 ⟨⟨c', rfl, hc'⟩, hb2⟩
    obtain rfl := Chk.unique hc' hc
    have HB2 : Hid (Below w.heap.size w w2) := Below.then HB1.out hb2
    clear hb2 HB1 K1 k0 k1 hc hc'
    go_wp2_with fail
    refine (chainBegun_any _ (HT.out.step HB2.out)).mono ?_
    rintro e w3 ⟨rfl, hb3⟩
    have HB3 : Hid (Below w.heap.size w w3) := Below.then HB2.out hb3
    clear hb3 HB2
    go_wp2_with fail
    refine (chainBegun_any _ (HT.out.step HB3.out)).mono ?_
    rintro e w4 ⟨rfl, hb4⟩
    have HB4 : Hid (Below w.heap.size w w4) := Below.then HB3.out hb4
    clear hb4 HB3
    go_wp2_with fail
    go_ret
    exact ⟨rfl, HB4.out⟩
  · obtain ⟨rfl, h10, hrng, hord⟩ := hc.good
    have HS2 : Hid (∀ k, k < len → nat f k < 1024) := hrng.small2 h10
    have HOR : Hid (Ord len (nat f)) := hord
    have HPT : Hid (Ptd (nat f) len (pts (fr len G len) 10).length (chs (nat f) len G)) := chs_ptd h10 hrng.small hord hnx
    have HLN : Hid (∀ k, k < (pts (fr len G len) 10).length → (chs (nat f) len G k).length ≤ 1024) := fun k _ => chs_len h10 G k
    obtain ⟨Z, HZ⟩ : ∃ Z, Hid (Z = (pts (fr len G len) 10).length) := ⟨_, rfl⟩
    rw [← HZ.out] at hls hlen HPT HLN
    have hZ10 : Z ≤ 10 := by rw [hlen]; exact pc_le2 _
    obtain ⟨a1, cap1, rfl, hls2⟩ := hls
    have HLS : Hid (LSl w1 (.slice a1 Z cap1) Z (chs (nat f) len G)) := ⟨a1, cap1, rfl, hls2⟩
    obtain ⟨M, HM⟩ : ∃ M, Hid (M = wid (nat f) len (pw len)) := ⟨_, rfl⟩
    have HZM : Hid (Z = pc M) := by rw [HM.out]; exact hlen
    have HML : Hid (M < 1024) := by rw [HM.out]; exact Nat.lt_of_lt_of_le (wid_lt _ _ (pw_pos len) _ (Nat.le_refl _)) (pw_le len h10)
    clear hnx hls2 hlen hord HZ
    go_wp2_with fail
    refine (checkOrder_any len a len cap f _ hl K1.row).mono ?_
    rintro e w2 ⟨⟨c', rfl, hc'⟩, hb2⟩
    obtain rfl := Chk.unique hc' hc
    have HB2 : Hid (Below w.heap.size w w2) := Below.then HB1.out hb2
    have HK2 : Hid (Held w2 w.heap.size len a len cap f) := K1.step hb2
    have HL2 : Hid (LSl w2 (.slice a1 Z cap1) Z (chs (nat f) len G)) := HLS.out.below hb2
    clear hb2 HB1 k0 k1 hc hc' K1 HLS
    go_wp2_with fail
    refine (chainBegun_any _ (HT.out.step HB2.out)).mono ?_
    rintro e w3 ⟨rfl, hb3⟩
    have HB3 : Hid (Below w.heap.size w w3) := Below.then HB2.out hb3
    have K3 := HK2.out.step hb3
    have HL3 : Hid (LSl w3 (.slice a1 Z cap1) Z (chs (nat f) len G)) := HL2.out.below hb3
    clear hb3 HB2 HK2 HL2
    have m0 := K3.c0
    have m1 := K3.c1
    go_wp2_with fail
    refine (parted_any len a cap (nat f) a1 Z cap1 (chs (nat f) len G) _ h10 HS2.out HOR.out HPT.out hZ10 HLN.out (hrng.row K3.row) HL3.out).mono ?_
    rintro e w4 ⟨rfl, hb4⟩
    have HB4 : Hid (Below w.heap.size w w4) := Below.then HB3.out hb4
    have K4 := K3.step hb4
    clear hb4 HB3 K3 HL3 m0 m1
    have m0 := K4.c0
    have m1 := K4.c1
    go_wp2_with fail
    refine (widestSet_any len a cap (nat f) _ h10 HS2.out (hrng.row K4.row)).mono ?_
    rintro e w5 ⟨rfl, hb5⟩
    rw [← HM.out]
    have HB5 : Hid (Below w.heap.size w w5) := Below.then HB4.out hb5
    have hML := HML.out
    have hq : (((Z : Nat) : Int) == ((pc M : Nat) : Int)) = true := by rw [HZM.out]; simp
    clear hb5 HB4 K4 m0 m1 hrng HM HZM HML
    go_wp2_with (go_at_call 15; refine (refSize_any M _ hML).mono ?_; rintro e w' ⟨rfl, rfl⟩)
    go_ret
    exact ⟨rfl, HB5.out⟩
end Go.Proofs.YtfcaeicekpcilaaDoor
