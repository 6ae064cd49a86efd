/-
  The law ScalesBound. Condition: slices read as slices of numbers.
-/
import Derived.Test.YtipgojoiakbaiaaWoK
import Derived.Test.YtipgojoiakbaiaaWoG
import Derived.Test.YtipgojoiakbaiaaCounts
namespace Go.Proofs.Ytipgojoiakbaiaa
open Go.RowKit
set_option maxRecDepth 100000

theorem ways_knw {f : Nat → Int} {len : Nat} : ways (nat f) len 0 = ways (knw (nat f) len) len 0 :=
  ways_congr (fun s i _ hi => by unfold may; rw [knw_eq hi]) (pw len) 0 (by omega) (pw_pos len)
/-- What is asked of a play here: no more pairs than C, and the row. -/
def PlayB (C lr : Nat) (r : Nat → Int) (e : Ending) (w' : World) : Prop := ∃ (d : Int) (x y : Value), e = .returned (.tuple #[x, y, .int .i64 d]) ∧ ((d ≠ 0 ∧ x = .slice none 0 0 ∧ y = .slice none 0 0) ∨ (d = 0 ∧ ∃ a1 l c1 a2 c2, x = .slice a1 l c1 ∧ l ≤ C ∧ y = .slice a2 lr c2 ∧ Row w' a2 lr r))
theorem PlayPost.bound {len : Nat} {f : Nat → Int} {lr : Nat} {r : Nat → Int} {e : Ending} {w' : World} (h : PlayPost len len f lr r e w') (h0 : WCk len len f 0) : PlayB (cst len (knw (nat f) len)) lr r e w' := by
  obtain ⟨d, x, y, rfl, hd, h⟩ := h
  refine ⟨d, x, y, rfl, ?_⟩
  rcases h with h | ⟨rfl, L, g, hL, _, hp, hc, a, cap, rfl, hr⟩
  · exact .inl h
  · have hlr : lr = len := by
      rcases hd with ⟨h, _⟩ | ⟨_, ⟨h, _⟩ | ⟨_, h⟩⟩
      · exact absurd rfl h
      · cases h
      · exact h.1
    subst hlr
    obtain ⟨a1, c1, rfl, _⟩ := hL
    have := (Pl.len h0.wok hp).2
    exact .inr ⟨rfl, a1, L.length, c1, a, cap, rfl, by omega, rfl, hr⟩
set_option maxHeartbeats 4000000 in
theorem scalesBound_any (n : Int) (a : Option Addr) (len cap : Nat) (f : Nat → Int) (ar : Option Addr) (lr cr : Nat) (r : Nat → Int) (w : World) (hl : len ≤ maxLen) (hlr : lr ≤ maxLen) (hr : Row w a len f) (hrr : Row w ar lr r) :
    Calls Try.prog 6 #[.agg #[.int .i64 n, .slice a len cap], .slice ar lr cr] w fun e w' => e = .returned (.bool true) ∧ Below w.heap.size w w' := by
  have K0 : Held (w.alloc (.cells #[.int .i64 n, .slice a len cap] 24)) w.heap.size n a len cap f := Held.box hr
  have HB0 : Hid (Below w.heap.size w (w.alloc (.cells #[.int .i64 n, .slice a len cap] 24))) := (Below.refl _ _).alloc (Nat.le_refl _) _
  have HRR : Hid (∀ wx, Below w.heap.size w wx → Row wx ar lr r) := fun wx h => hrr.below h
  clear hr hrr
  go_enter Try.func6, Try.ntmps6
  go_wp2_with fail
  refine (scalesBegun_any _).mono ?_
  rintro e w1 ⟨rfl, hb1⟩
  have K1 := K0.step hb1
  have HB1 : Hid (Below w.heap.size w w1) := Below.then HB0.out hb1
  have k0 := K1.c0
  have k1 := K1.c1
  clear hb1 K0 HB0
  go_wp2_with fail
  refine (cost_any n a len cap f _ hl K1.row).mono ?_
  rintro e w2 ⟨⟨c, v, rfl, hc, hv⟩, hb2⟩
  have K2 := K1.step hb2
  have HB2 : Hid (Below w.heap.size w w2) := Below.then HB1.out hb2
  have HC : Hid (WCk n len f c) := hc
  clear hb2 K1 HB1 k0 k1 hc
  by_cases h0 : c = 0
  · subst h0
    obtain ⟨rfl, h5, hrng, _⟩ := HC.out.good
    have hv2 : v = (cst len (knw (nat f) len) : Nat) := by
      rcases hv with ⟨h, _⟩ | ⟨_, h⟩
      · exact absurd rfl h
      · exact h
    obtain ⟨C, HCC⟩ : ∃ C, Hid (cst len (knw (nat f) len) = C) := ⟨_, rfl⟩
    rw [HCC.out] at hv2
    subst hv2
    have hC10 : C ≤ 10 := by rw [← HCC.out]; exact cst_ten HC.out.wok
    have HCh : Hid (Chk (len : Int) len f 0) := by
      rcases HC.out with ⟨h, _⟩ | ⟨h, _⟩
      · exact absurd rfl h
      · exact h
    have m0 := K2.c0
    have m1 := K2.c1
    clear hv hrng
    go_wp2_with fail
    refine (count_any len a len cap f _ hl K2.row).mono ?_
    rintro e w3 ⟨⟨c', hc', hcs⟩, hb3⟩
    obtain rfl := Chk.unique hc' HCh.out
    have K3 := K2.step hb3
    have HB3 : Hid (Below w.heap.size w w3) := Below.then HB2.out hb3
    obtain rfl := (hcs.resolve_left (fun h => h.1 rfl)).2
    obtain ⟨M, HM⟩ : ∃ M, Hid (ways (nat f) len 0 = M) := ⟨_, rfl⟩
    rw [HM.out]
    have hMC : M ≤ pw C := by rw [← HM.out, ← HCC.out, ways_knw]; exact rows_cst HC.out.wok
    have hM1 : C = 0 ↔ M = 1 := by rw [← HM.out, ← HCC.out, ways_knw]; exact rows_one HC.out.wok
    have hMi : (M : Int) ≤ ((pw C : Nat) : Int) := by omega
    have k0 := K3.c0
    have k1 := K3.c1
    have HPL : Hid (∀ wx, Below w.heap.size w wx → Row wx a len f → Calls Try.prog 16 #[.agg #[.int .i64 (len : Int), .slice a len cap], .slice ar lr cr] wx fun e w' => PlayB C lr r e w' ∧ Below wx.heap.size wx w') := fun wx h h2 => (play_any len a len cap f ar lr cr r wx hl hlr h2 (HRR.out _ h)).mono fun e w' k => ⟨by rw [← HCC.out]; exact k.1.bound HC.out, k.2⟩
    clear hb3 K2 HB2 m0 m1 hcs hc'
    by_cases hC0 : C = 0
    · have hM : M = 1 := hM1.1 hC0
      subst hC0
      subst hM
      clear hM1 hMC
      go_wp2_with fail
      refine (bit_any 0 _ (by omega)).mono ?_
      rintro e w4 ⟨rfl, rfl⟩
      go_wp2_with fail
      refine (HPL.out _ HB3.out K3.row).mono ?_
      rintro e w5 ⟨⟨d, x, y, rfl, hxy⟩, hb5⟩
      have HB5 : Hid (Below w.heap.size w w5) := Below.then HB3.out hb5
      clear hb5 K3 HB3 k0 k1
      rcases hxy with ⟨hd, rfl, rfl⟩ | ⟨rfl, a1, l, c1, a2, c2, rfl, hlC, rfl, hr2⟩
      · have hdn : (d != 0) = true := by simpa using hd
        go_wp2_with fail
        go_ret
        exact ⟨rfl, HB5.out⟩
      · have hlCi : (l : Int) ≤ 0 := by omega
        go_wp2_with fail
        refine (same_any a2 ar lr c2 lr cr r r _ hlr hlr hr2 (HRR.out _ HB5.out)).mono ?_
        rintro e w6 ⟨⟨b, rfl, hb⟩, hb6⟩
        obtain rfl : b = true := hb.2 ⟨rfl, fun _ _ => rfl⟩
        have HB6 : Hid (Below w.heap.size w w6) := Below.then HB5.out hb6
        clear hb6 hr2
        go_wp2_with fail
        go_ret
        exact ⟨rfl, HB6.out⟩
    · have hM : M ≠ 1 := fun e => hC0 (hM1.2 e)
      have hCd : ((C : Int) == 0) = false := by simp; omega
      have hMd : ((M : Int) == 1) = false := by simp; omega
      have hC10i : (C : Int) ≤ 10 := by omega
      clear hM1 hMC hM
      go_wp2_with fail
      refine (bit_any C _ (by omega)).mono ?_
      rintro e w4 ⟨rfl, rfl⟩
      go_wp2_with fail
      refine (HPL.out _ HB3.out K3.row).mono ?_
      rintro e w5 ⟨⟨d, x, y, rfl, hxy⟩, hb5⟩
      have HB5 : Hid (Below w.heap.size w w5) := Below.then HB3.out hb5
      clear hb5 K3 HB3 k0 k1
      rcases hxy with ⟨hd, rfl, rfl⟩ | ⟨rfl, a1, l, c1, a2, c2, rfl, hlC, rfl, hr2⟩
      · have hdn : (d != 0) = true := by simpa using hd
        go_wp2_with fail
        go_ret
        exact ⟨rfl, HB5.out⟩
      · have hlCi : (l : Int) ≤ (C : Int) := by omega
        go_wp2_with fail
        refine (same_any a2 ar lr c2 lr cr r r _ hlr hlr hr2 (HRR.out _ HB5.out)).mono ?_
        rintro e w6 ⟨⟨b, rfl, hb⟩, hb6⟩
        obtain rfl : b = true := hb.2 ⟨rfl, fun _ _ => rfl⟩
        have HB6 : Hid (Below w.heap.size w w6) := Below.then HB5.out hb6
        clear hb6 hr2
        go_wp2_with fail
        go_ret
        exact ⟨rfl, HB6.out⟩
  · have hne : (c != 0) = true := by simpa using h0
    clear K2
    go_wp2_with fail
    go_ret
    exact ⟨rfl, HB2.out⟩
end Go.Proofs.Ytipgojoiakbaiaa
