/-
  What match.Count and the reference's Matchings answer. No condition but that a slice reads as a slice of numbers.
-/
import Derived.Test.YtahnkmdhhdgfhabMSeated
namespace Go.Proofs.Ytahnkmdhhdgfhab
open Go.RowKit

def CountPost (L R : Int) (len : Nat) (f : Nat → Int) (e : Ending) : Prop :=
  ∃ c : Int, GChk L R len f c ∧ ((c ≠ 0 ∧ e = .returned (.tuple #[.int .i64 0, .int .i64 c])) ∨
    (c = 0 ∧ e = .returned (.tuple #[.int .i64 (mat (nat f) R.toNat len 0 0 : Nat), .int .i64 0])))

set_option maxHeartbeats 1000000 in
theorem count_any (L R : Int) (a : Option Addr) (len cap : Nat) (f : Nat → Int) (w : World) (hl : len ≤ maxLen) (hr : Row w a len f) :
    Calls Try.prog 7 #[.agg #[.int .i64 L, .int .i64 R, .slice a len cap]] w fun e w' => CountPost L R len f e ∧ Below w.heap.size w w' := by
  have K0 : GHeld (w.alloc (.cells #[.int .i64 L, .int .i64 R, .slice a len cap] 24)) w.heap.size L R a len cap f := GHeld.box hr
  have HB0 : Hid (Below w.heap.size w (w.alloc (.cells #[.int .i64 L, .int .i64 R, .slice a len cap] 24))) := (Below.refl _ _).alloc (Nat.le_refl _) _
  clear hr
  go_enter Try.func7, Try.ntmps7
  go_wp2_with fail
  refine (mcheck_any L R a len cap f _ hl K0.row).mono ?_
  rintro e w1 ⟨⟨c, rfl, hc⟩, hb⟩
  have K1 := K0.step hb
  have HB1 : Hid (Below w.heap.size w w1) := Below.then HB0.out hb
  clear hb K0 HB0
  by_cases h0 : c = 0
  · subst h0
    obtain ⟨r, rfl, rfl, h10, hr10, hrng⟩ := hc.good
    have HC : Hid (GChk (len : Int) (r : Int) len f 0) := hc
    have H1 : Hid (GHeld w1 w.heap.size len r a len cap (fun k => (nat f k : Nat))) := ⟨K1.c0, K1.c1, K1.c2, hrng.row K1.row⟩
    have HT : Hid (Sm r len (nat f)) := hrng.small
    have k0 := K1.c0
    have k1 := K1.c1
    have hsh := wrap_pow r (by omega)
    have hpw := pw_le r hr10
    have hpos := pw_pos r
    have HTOT : Hid (∀ k, k ≤ len → sumTo (wks (nat f) r k) (pw r) ≤ 10000000000) := fun k hk => Nat.le_trans (wks_total (nat f) hr10 k) (Nat.le_trans (Nat.pow_le_pow_right (by decide) (show k ≤ 10 by omega)) (by decide))
    have HFIN : Hid (∀ x, x = sumTo (wks (nat f) r len) (pw r) → CountPost len r len f (.returned (.tuple #[.int .i64 (x : Nat), .int .i64 0]))) := fun x hx => ⟨0, HC.out, .inr ⟨rfl, by rw [hx, wks_sum]; rfl⟩⟩
    clear hc hrng K1
    obtain ⟨i0, hi, hz0, hz1, hz2⟩ := info_parts Try.info3
    have hmk : wrap64 (2 ^ r) = ((pw r : Nat) : Int) := hsh
    go_wp2_with (at_make; rw [hsh]; refine wpList_make_full _ rfl _ _ 22 rfl w1.heap.size 3 i0 (.int .i64 0) 1 Try.underlying22 hi hz0 hz1 .i64 .i64 _ _ (pw r) rfl rfl rfl rfl (by rw [hz2]; omega) (by unfold maxLen; omega) (Nat.le_refl _) ?_; intro w2 hown2 hgrow2; have z0 := ((own_made hown2) 0 hpos).1; have z1 := ((own_made hown2) 0 hpos).2; have y0 := (H1.out.step (Below.setCell (p := ⟨w1.heap.size, 0, none⟩) ((Below.refl _ _).grown hgrow2 (Nat.le_refl _) (by simp)) (Nat.le_refl _) (.int .i64 1))).c0)
    have HB2 : Hid (Below w1.heap.size w1 (w2.setCell ⟨w1.heap.size, 0, none⟩ (.int .i64 1))) := Below.setCell (p := ⟨w1.heap.size, 0, none⟩) ((Below.refl _ _).grown hgrow2 (Nat.le_refl _) (by simp)) (Nat.le_refl _) _
    have HO2 : Hid (Own (w2.setCell ⟨w1.heap.size, 0, none⟩ (.int .i64 1)) w1.heap.size (pw r) (wks (nat f) r 0)) := Own.set (own_made hown2) 0 1 hpos
    clear hown2 hgrow2 hi hz0 hz1 hz2 k0 k1 z0 z1 hmk y0
    obtain ⟨W3, HW3⟩ : ∃ W3, Hid (W3 = w2.setCell ⟨w1.heap.size, 0, none⟩ (.int .i64 1)) := ⟨_, rfl⟩
    rw [← HW3.out] at HB2 HO2 ⊢
    clear HW3
    obtain ⟨W, HW⟩ : ∃ W, Hid (W = wks (nat f) r) := ⟨_, rfl⟩
    have HWS : Hid (∀ k, W (k + 1) = addT (nat f) r k (W k) (pw r)) := fun k => by rw [HW.out]; rfl
    rw [← HW.out] at HO2 HTOT HFIN
    clear HW
    go_loopw [5, 22] (fun v x wx => ∃ k : Nat, k ≤ len ∧ x = .int .i64 k ∧ ∃ b : Nat, v = .slice (some ⟨b, 0, none⟩) (pw r) (pw r) ∧ Hid (Own wx b (pw r) (W k)) ∧ Hid (Below w1.heap.size w1 wx)) (fun _ x _ => len - (intOf x).toNat)
    case atStart => exact ⟨0, Nat.zero_le _, rfl, _, rfl, HO2.out, HB2.out⟩
    case round =>
      clear HO2 HB2
      obtain ⟨k, hk, rfl, b, rfl, hO, hB⟩ := hrel
      have hH := H1.out.step hB.out
      have c0 := hH.c0
      have c1 := hH.c1
      have c2 := hH.c2
      by_cases hlt : k < len
      · have hlk : (k : Int) < (len : Int) := by omega
        go_wp2_with fail
        refine (seated_any len r a cap k (nat f) _ (pw r) (W k) _ h10 hr10 HT.out hlt hH.row hO.out.row (HTOT.out k hk)).mono ?_
        rintro e w4 ⟨⟨b4, rfl, ho4, _⟩, hb4⟩
        have HO4 : Hid (Own w4 b4 (pw r) (W (k + 1))) := by rw [HWS.out]; exact ho4
        have HB4 : Hid (Below w1.heap.size w1 w4) := Below.then hB.out hb4
        clear ho4 hb4 hO hB hH c0 c1 c2
        go_wp2_with fail
        go_roundw
        case rel => exact ⟨k + 1, by omega, by go_num, _, rfl, HO4.out, HB4.out⟩
        case measure => simp [intOf]; omega
      · have hkn : k = len := by omega
        have HO4 : Hid (Own wr b (pw r) (W len)) := by rw [← hkn]; exact hO.out
        have HS : Hid (sumTo (W len) (pw r) ≤ 10000000000) := HTOT.out len (Nat.le_refl _)
        have HBB : Hid (Below w.heap.size w wr) := Below.then HB1.out hB.out
        clear hO hkn hH c0 c2
        generalize W len = V at *
        go_wp2_with fail
        rw [hsh]
        clear hsh c1
        have HFN : Hid (sumTo V (pw r) = sumTo V (pw r)) := rfl
        generalize pw r = N at *
        go_loop [7, 33] (fun t x => ∃ s : Nat, s ≤ N ∧ x = .int .i64 s ∧ t = .int .i64 (sumTo V s : Nat)) (fun _ x => N - (intOf x).toNat)
        case atStart => exact ⟨0, Nat.zero_le _, rfl, rfl⟩
        case round =>
          obtain ⟨s, hs, rfl, rfl⟩ := hrel
          by_cases hsl : s < N
          · have hcs := (HO4.out s hsl).1
            have hsN : (s : Int) < (N : Int) := by omega
            have HSS : Hid (sumTo V (s + 1) = sumTo V s + V s) := rfl
            have hb1 : sumTo V s + V s ≤ 10000000000 := by
              have h1 := sumTo_mono (φ := V) (m := s + 1) N hsl
              have h2 := HS.out
              rw [sumTo] at h1; omega
            generalize sumTo V s = X at *
            generalize V s = Y at *
            go_wp2_with fail
            go_round
            case rel => exact ⟨s + 1, by omega, by go_num, by rw [HSS.out]; go_num⟩
            case measure => simp [intOf]; omega
          · have hsn : s = N := by omega
            subst hsn
            go_wp2_with fail
            go_ret2
            exact ⟨HFIN.out _ rfl, HBB.out⟩
  · have hne : (c != 0) = true := by simpa using h0
    have HC : Hid (GChk L R len f c) := hc
    clear hc
    go_wp2_with fail
    go_ret2
    exact ⟨⟨c, HC.out, .inl ⟨h0, rfl⟩⟩, HB1.out⟩
end Go.Proofs.Ytahnkmdhhdgfhab
