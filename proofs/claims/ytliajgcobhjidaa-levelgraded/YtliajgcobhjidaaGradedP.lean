/-
  What level.Graded answers. No condition but that a slice reads as a slice of numbers.
-/
import Derived.Test.YtliajgcobhjidaaGraded
namespace Go.Proofs.Ytliajgcobhjidaa
open Go.RowKit

def GradedPost (n : Int) (len : Nat) (f : Nat → Int) (e : Ending) : Prop :=
  ∃ (c : Int) (b : Bool), Chk n len f c ∧ e = .returned (.tuple #[.bool b, .int .i64 c]) ∧ ((c ≠ 0 ∧ b = false) ∨ (c = 0 ∧ (b = true ↔ Grd (nat f) len)))

set_option maxHeartbeats 1000000 in
theorem graded_any (n : Int) (a : Option Addr) (len cap : Nat) (f : Nat → Int) (w : World) (hl : len ≤ maxLen) (hr : Row w a len f) :
    Calls Try.prog 14 #[.agg #[.int .i64 n, .slice a len cap]] w fun e w' => GradedPost n len f e ∧ Below w.heap.size w w' := by
  have K0 : Held (w.alloc (.cells #[.int .i64 n, .slice a len cap] 24)) w.heap.size n a len cap f := Held.box hr
  have HB0 : Hid (Below w.heap.size w (w.alloc (.cells #[.int .i64 n, .slice a len cap] 24))) := (Below.refl _ _).alloc (Nat.le_refl _) _
  clear hr
  go_enter Try.func14, Try.ntmps14
  go_wp2_with fail
  refine (covers_any n a len cap f _ hl K0.row).mono ?_
  rintro e w1 ⟨⟨c, v, hc, rfl, he⟩, hb⟩
  have K1 := K0.step hb
  have k0 := K1.c0
  have k1 := K1.c1
  have HB1 : Hid (Below w.heap.size w w1) := Below.then HB0.out hb
  clear hb K0 HB0
  rcases he with ⟨h0, rfl⟩ | ⟨rfl, hp⟩
  · have hne : (c != 0) = true := by simpa using h0
    have HC : Hid (Chk n len f c) := hc
    clear hc
    go_wp2_with fail
    go_ret2
    exact ⟨⟨c, _, HC.out, rfl, .inl ⟨h0, rfl⟩⟩, HB1.out⟩
  · obtain ⟨rfl, h10, hrng, hord⟩ := hc.good
    have HC : Hid (Chk (len : Int) len f 0) := hc
    obtain ⟨a2, cap2, rfl, hp2⟩ := hp
    have HP : Hid (PRow w1 a2 (covs (nat f) len).length (pairAt (covs (nat f) len))) := hp2
    clear hp2 hc
    go_wp2_with fail
    refine (heights_any len a len cap f _ hl K1.row).mono ?_
    rintro e w2 ⟨⟨c, v, hc, rfl, he⟩, hb2⟩
    obtain rfl := hc.unique HC.out
    rcases he with ⟨h0, _⟩ | ⟨_, hv⟩
    · exact absurd rfl h0
    obtain ⟨a3, cap3, rfl, hrow3⟩ := hv
    have e3 : (hts (nat f) len).length = len := by rw [hts, mapTo_len]
    rw [e3] at hrow3 ⊢
    have HP2 : Hid (PRow w2 a2 (covs (nat f) len).length (pairAt (covs (nat f) len))) := HP.out.below hb2
    have HB2 : Hid (Below w.heap.size w w2) := Below.then HB1.out hb2
    clear hc hb2 HP HB1 K1 k0 k1
    obtain ⟨g, HGF⟩ : ∃ g, Hid (g = nat f) := ⟨_, rfl⟩
    rw [← HGF.out] at hrow3 HP2
    have HEQ : Hid (Grd g len ↔ Grd (nat f) len) := by rw [← HGF.out]; exact Iff.rfl
    have HRW : Hid (Row w2 a3 len (fun k => (ht g len k : Nat))) := fun k hk => by
      have := hrow3 k hk
      simp only [hts_nth g len k hk] at this
      exact this
    have HLEN : Hid ((covs g len).length ≤ 1000) := Nat.le_trans (allPairs_len _ len h10 len) (by omega)
    have HLIST : Hid ((∀ j, j < (covs g len).length → ht g len ((covs g len).getD j (0, 0)).2 = ht g len ((covs g len).getD j (0, 0)).1 + 1) → Grd g len) := grd_of_list
    have HAT : Hid (∀ j, j < (covs g len).length → ((covs g len).getD j (0, 0)).1 < len ∧ ((covs g len).getD j (0, 0)).2 < len ∧ covB g len ((covs g len).getD j (0, 0)).1 ((covs g len).getD j (0, 0)).2 = true) := fun j hj => covs_at hj
    have HSM : Hid (∀ j, ht g len j ≤ 1024) := fun j => ht_small g h10 j
    rw [← HGF.out]
    clear hrow3 e3 HGF
    generalize covs g len = L at *
    go_wp2_with fail
    go_loopw [27] (fun i wx => ∃ k : Nat, k ≤ L.length ∧ i = .int .i64 k ∧ Hid (∀ j, j < k → ht g len (L.getD j (0, 0)).2 = ht g len (L.getD j (0, 0)).1 + 1) ∧ Hid (Below w2.heap.size w2 wx)) (fun i _ => L.length - (intOf i).toNat)
    case atStart => exact ⟨0, Nat.zero_le _, rfl, upto_zero, Below.refl _ _⟩
    case round =>
      obtain ⟨k, hk, rfl, hok, hB⟩ := hrel
      have hlen := HLEN.out
      by_cases hlt : k < L.length
      · obtain ⟨b, off, rfl, d1, d2⟩ := (HP2.out.below hB.out) k hlt
        obtain ⟨ha1, ha2, ha3⟩ := HAT.out k hlt
        obtain ⟨X, HX⟩ : ∃ X, Hid (X = (L.getD k (0, 0)).1) := ⟨_, rfl⟩
        obtain ⟨Y, HY⟩ : ∃ Y, Hid (Y = (L.getD k (0, 0)).2) := ⟨_, rfl⟩
        have hx1 : (pairAt L k).1 = (X : Int) := by rw [HX.out]; rfl
        have hy1 : (pairAt L k).2 = (Y : Int) := by rw [HY.out]; rfl
        rw [hx1] at d1
        rw [hy1] at d2
        rw [← HX.out] at ha1 ha3
        rw [← HY.out] at ha2 ha3
        clear hx1 hy1
        have hRb := HRW.out.below hB.out
        obtain ⟨b3, off3, rfl, hcc⟩ := hRb.at ha1
        have r1 := hcc X ha1
        have r2 := hcc Y ha2
        have hb3 : b3 < wr.heap.size := World.block_lt_of_cell? _ _ r1
        have hs1 := HSM.out X
        have hs2 := HSM.out Y
        have HGRD : Hid (¬ (ht g len Y = ht g len X + 1) → ¬ Grd g len) := fun h h2 => h (h2 X ha1 Y ha2 ha3)
        have HOKK : Hid (ht g len Y = ht g len X + 1 → ∀ j, j < k + 1 → ht g len (L.getD j (0, 0)).2 = ht g len (L.getD j (0, 0)).1 + 1) := fun h => upto_succ hok.out (by rw [← HX.out, ← HY.out]; exact h)
        clear hcc hRb ha3 HX HY hok
        generalize ht g len X = HX at *
        generalize ht g len Y = HY at *
        have hX0 : (X : Int) < (len : Int) := by omega
        have hY0 : (Y : Int) < (len : Int) := by omega
        have hwr : IntKind.i64.wrap ((HX : Int) + 1) = (HX : Int) + 1 := wrap_i64_small _ (by omega) (by omega)
        by_cases he : HY = HX + 1
        · have hq : (((HY : Nat) : Int) != (HX : Int) + 1) = false := by simp; omega
          have HN : Hid (∀ j, j < k + 1 → ht g len (L.getD j (0, 0)).2 = ht g len (L.getD j (0, 0)).1 + 1) := HOKK.out he
          clear he
          go_wp2
          go_quiet (fail)
          go_wp2
          go_roundw
          case rel => exact ⟨k + 1, by omega, by go_num, HN.out, below_drewN (hB.out.alloc hB.out.size _) _⟩
          case measure => simp [intOf]; omega
        · have hq : (((HY : Nat) : Int) != (HX : Int) + 1) = true := by simp; omega
          have HN : Hid (¬ Grd g len) := HGRD.out he
          clear he
          go_wp2
          go_quiet (fail)
          go_wp2
          go_ret2
          exact ⟨⟨0, false, HC.out, rfl, .inr ⟨rfl, by rw [← HEQ.out]; simp [HN.out]⟩⟩, below_drewN (Below.then HB2.out (hB.out.alloc hB.out.size _)) _⟩
      · have hkn : k = L.length := by omega
        have HN : Hid (Grd g len) := HLIST.out (fun j hj => hok.out j (by omega))
        clear hok
        go_wp2
        go_ret2
        exact ⟨⟨0, true, HC.out, rfl, .inr ⟨rfl, by rw [← HEQ.out]; simp [HN.out]⟩⟩, Below.then HB2.out hB.out⟩
end Go.Proofs.Ytliajgcobhjidaa
