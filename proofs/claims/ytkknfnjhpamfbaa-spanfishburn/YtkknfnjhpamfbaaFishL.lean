/-
  What hasselaw.SpanFishburn answers: true. No condition but that slices read as slices of numbers and of pairs.
-/
import Derived.Test.YtkknfnjhpamfbaaEndsL
import Derived.Test.YtkknfnjhpamfbaaSpOfL
import Derived.Test.YtkknfnjhpamfbaaTwoThree
namespace Go.Proofs.Ytkknfnjhpamfbaa
open Go.RowKit

theorem sp_chk {p : Nat → Int × Int} {n : Nat} (hn : n ≤ 10) (h : ∀ k, k < n → (p k).1 ≤ (p k).2) : Chk n n (fun k => (sp p n k : Nat)) 0 := by
  have e : nat (fun k => ((sp p n k : Nat) : Int)) = sp p n := by funext k; simp [nat]
  refine .inr ⟨n, rfl, hn, .inr ⟨rfl, .inr ⟨fun k hk => ⟨Int.natCast_nonneg _, ?_⟩, .inr ⟨rfl, by rw [e]; exact sp_ord hn h⟩⟩⟩⟩
  have := sp_lt p n k
  simp only; omega
theorem sp_nat (p : Nat → Int × Int) (n : Nat) : nat (fun k => ((sp p n k : Nat) : Int)) = sp p n := by funext k; simp [nat]

set_option maxHeartbeats 4000000 in
theorem spanFishburn_any (n : Int) (a : Option Addr) (len cap : Nat) (f : Nat → Int) (al : Option Addr) (ll cl : Nat) (p : Nat → Int × Int) (w : World) (hl : len ≤ maxLen) (hll : ll ≤ maxLen) (hr : Row w a len f) (hrl : PRow w al ll p) :
    Calls Try.prog 8 #[.agg #[.int .i64 n, .slice a len cap], .slice al ll cl] w fun e w' => e = .returned (.bool true) ∧ Below w.heap.size w w' := by
  have K0 : Held (w.alloc (.cells #[.int .i64 n, .slice a len cap] 25)) w.heap.size n a len cap f := Held.box hr
  have HB0 : Hid (Below w.heap.size w (w.alloc (.cells #[.int .i64 n, .slice a len cap] 25))) := (Below.refl _ _).alloc (Nat.le_refl _) _
  have HR : Hid (PRow w al ll p) := hrl
  clear hr hrl
  go_enter Try.func8, Try.ntmps8
  go_wp2_with fail
  refine (spanBegun_any _).mono ?_
  rintro e w1 ⟨rfl, hb1⟩
  have K1 := K0.step hb1
  have HB1 : Hid (Below w.heap.size w w1) := Below.then HB0.out hb1
  clear hb1 K0 HB0
  go_wp2_with fail
  refine (spOf_any al ll cl p _ hll (HR.out.below HB1.out)).mono ?_
  rintro e w2 ⟨⟨c, x, rfl, hc, hx⟩, hb2⟩
  obtain ⟨nx, ax, lx, cx, rfl⟩ := hx.form
  have K2 := K1.step hb2
  have HB2 : Hid (Below w.heap.size w w2) := Below.then HB1.out hb2
  have HA : Hid (Below w2.heap.size w2 (w2.alloc (.cells #[.int .i64 nx, .slice ax lx cx] 25))) := (Below.refl _ _).alloc (Nat.le_refl _) _
  have K3 := K2.step HA.out
  have k0 := K3.c0
  have k1 := K3.c1
  have HB3 : Hid (Below w.heap.size w (w2.alloc (.cells #[.int .i64 nx, .slice ax lx cx] 25))) := Below.then HB2.out HA.out
  have HX3 : Hid (OrdErr c ll ll (fun k => (sp p ll k : Nat)) (.agg #[.int .i64 nx, .slice ax lx cx]) (w2.alloc (.cells #[.int .i64 nx, .slice ax lx cx] 25))) := OrdErr.step hx HA.out
  have x0 : (w2.alloc (.cells #[.int .i64 nx, .slice ax lx cx] 25)).cell? ⟨w2.heap.size, 0, none⟩ = some (.int .i64 nx) := by simp
  have x1 : (w2.alloc (.cells #[.int .i64 nx, .slice ax lx cx] 25)).cell? ⟨w2.heap.size, 1, none⟩ = some (.slice ax lx cx) := by simp
  have HC : Hid (SCk ll p c) := hc
  clear hb2 hx hc K1 K2 HB1 HB2 HA
  by_cases h0 : c = 0
  · subst h0
    obtain ⟨hl10, hok⟩ : ll ≤ 10 ∧ ∀ k, k < ll → (p k).1 ≤ (p k).2 := by
      rcases HC.out with ⟨h, _⟩ | ⟨h, _⟩ | ⟨_, h1, h2⟩
      · cases h
      · cases h
      · exact ⟨h1, h2⟩
    rcases HX3.out with ⟨h, _⟩ | ⟨_, ax', cx', e, hrx⟩
    · exact absurd rfl h
    simp only [Value.agg.injEq, Array.mk.injEq, List.cons.injEq, Value.int.injEq, true_and, Value.slice.injEq, and_true] at e
    obtain ⟨rfl, rfl, rfl, rfl⟩ := e
    have HRX : Hid (Row (w2.alloc (.cells #[.int .i64 (lx : Int), .slice ax lx cx] 25)) ax lx (fun k => (sp p lx k : Nat))) := hrx
    have HCK : Hid (Chk lx lx (fun k => (sp p lx k : Nat)) 0) := sp_chk hl10 hok
    have HSX : Hid (Sm lx lx (sp p lx)) := fun k _ => sp_lt p lx k
    have HOX : Hid (Ord lx (sp p lx)) := sp_ord hl10 hok
    clear hrx HX3 HC hok
    go_wp2_with fail
    generalize w2.heap.size = B2 at *
    generalize w2.alloc (.cells #[.int .i64 (lx : Int), .slice ax lx cx] 25) = W3 at *
    refine (spans_any lx ax lx cx (fun k => (sp p lx k : Nat)) _ hll HRX.out).mono ?_
    rintro e w4 ⟨⟨c, v, ok, hc, rfl, hv⟩, hb4⟩
    obtain rfl := hc.unique HCK.out
    rw [sp_nat] at hv
    have hfits : Fits (sp p lx) lx := fits_of hl10 HSX.out noTwo_sp
    rcases hv with ⟨h, _⟩ | ⟨_, ⟨_, rfl, a4, cap4, rfl, hp4⟩ | ⟨h, _⟩⟩
    · exact absurd rfl h
    · have K4 := K3.step hb4
      have HB4 : Hid (Below w.heap.size w w4) := Below.then HB3.out hb4
      have y0 := (hb4.cell (World.block_lt_of_cell? _ _ x0)).trans x0
      have y1 := (hb4.cell (World.block_lt_of_cell? _ _ x1)).trans x1
      have HP4 : Hid (PRow w4 a4 lx (spn (sp p lx) lx)) := hp4
      have HRX4 : Hid (Row w4 ax lx (fun k => (sp p lx k : Nat))) := HRX.out.below hb4
      clear hb4 hc hp4 K3 k0 k1 HB3 x0 x1 HRX
      go_wp2_with fail
      refine (spOf_any a4 lx cap4 (spn (sp p lx) lx) _ hll HP4.out).mono ?_
      rintro e w5 ⟨⟨c, z, rfl, hc, hz⟩, hb5⟩
      obtain rfl := hc.one (.inr (.inr ⟨rfl, hl10, fun k hk => spn_ok hl10 HSX.out HOX.out hk⟩) : SCk lx (spn (sp p lx) lx) 0)
      rcases hz with ⟨h, _⟩ | ⟨_, az, cz, rfl, hrz⟩
      · exact absurd rfl h
      have HA5 : Hid (Below w5.heap.size w5 (w5.alloc (.cells #[.int .i64 (lx : Int), .slice az lx cz] 25))) := (Below.refl _ _).alloc (Nat.le_refl _) _
      have HB45 : Hid (Below w4.heap.size w4 (w5.alloc (.cells #[.int .i64 (lx : Int), .slice az lx cz] 25))) := Below.then hb5 HA5.out
      have K5 := K4.step HB45.out
      have HB5 : Hid (Below w.heap.size w (w5.alloc (.cells #[.int .i64 (lx : Int), .slice az lx cz] 25))) := Below.then HB4.out HB45.out
      have z0 := (HB45.out.cell (World.block_lt_of_cell? _ _ y0)).trans y0
      have z1 := (HB45.out.cell (World.block_lt_of_cell? _ _ y1)).trans y1
      have HP5 : Hid (PRow (w5.alloc (.cells #[.int .i64 (lx : Int), .slice az lx cz] 25)) a4 lx (spn (sp p lx) lx)) := HP4.out.below HB45.out
      have HRX5 : Hid (Row (w5.alloc (.cells #[.int .i64 (lx : Int), .slice az lx cz] 25)) ax lx (fun k => (sp p lx k : Nat))) := HRX4.out.below HB45.out
      have HRZ5 : Hid (Row (w5.alloc (.cells #[.int .i64 (lx : Int), .slice az lx cz] 25)) az lx (fun k => (sp (spn (sp p lx) lx) lx k : Nat))) := hrz.below HA5.out
      have t0 : (w5.alloc (.cells #[.int .i64 (lx : Int), .slice az lx cz] 25)).cell? ⟨w5.heap.size, 0, none⟩ = some (.int .i64 (lx : Int)) := by simp
      have t1 : (w5.alloc (.cells #[.int .i64 (lx : Int), .slice az lx cz] 25)).cell? ⟨w5.heap.size, 1, none⟩ = some (.slice az lx cz) := by simp
      clear hb5 hc hrz K4 HB4 y0 y1 HP4 HRX4 HA5 HB45
      go_wp2_with fail
      generalize w5.heap.size = B5 at *
      generalize w5.alloc (.cells #[.int .i64 (lx : Int), .slice az lx cz] 25) = W5 at *
      refine (two_any lx ax lx cx (fun k => (sp p lx k : Nat)) _ hll HRX5.out).mono ?_
      rintro e w6 ⟨⟨c, v6, l6, two6, hc6, rfl, he6⟩, hb6⟩
      obtain rfl := hc6.unique HCK.out
      rw [sp_nat] at he6
      rcases he6 with ⟨h, _⟩ | ⟨_, hf6, _⟩
      · exact absurd rfl h
      obtain rfl : two6 = false := (fits_iff hl10 HSX.out hf6).1 hfits
      have K6 := K5.step hb6
      have HB6 : Hid (Below w.heap.size w w6) := Below.then HB5.out hb6
      have z60 := (hb6.cell (World.block_lt_of_cell? _ _ z0)).trans z0
      have z61 := (hb6.cell (World.block_lt_of_cell? _ _ z1)).trans z1
      have t60 := (hb6.cell (World.block_lt_of_cell? _ _ t0)).trans t0
      have t61 := (hb6.cell (World.block_lt_of_cell? _ _ t1)).trans t1
      have HP6 : Hid (PRow w6 a4 lx (spn (sp p lx) lx)) := HP5.out.below hb6
      have HRX6 : Hid (Row w6 ax lx (fun k => (sp p lx k : Nat))) := HRX5.out.below hb6
      have HRZ6 : Hid (Row w6 az lx (fun k => (sp (spn (sp p lx) lx) lx k : Nat))) := HRZ5.out.below hb6
      have HFT : Hid (Fits (sp p lx) lx) := hfits
      clear hb6 hc6 hf6 K5 HB5 z0 z1 t0 t1 HP5 HRX5 HRZ5 hfits
      go_wp2_with fail
      refine (sameOrder_any lx lx ax az lx cx lx cz _ _ _ hll hll HRX6.out HRZ6.out).mono ?_
      rintro e w7 ⟨⟨q, rfl, hq⟩, hb7⟩
      obtain rfl : q = true := hq.2 ⟨rfl, rfl, fun k hk => by
        show ((sp p lx k : Nat) : Int) = (sp (spn (sp p lx) lx) lx k : Nat)
        rw [HFT.out k hk]⟩
      have K7 := K6.step hb7
      have HB7 : Hid (Below w.heap.size w w7) := Below.then HB6.out hb7
      have HP7 : Hid (PRow w7 a4 lx (spn (sp p lx) lx)) := HP6.out.below hb7
      have HEX : Hid (EndsOk (spn (sp p lx) lx) lx) := ends_spn hl10 HSX.out HOX.out noTwo_sp
      clear hb7 hq K6 HB6 z60 z61 t60 t61 HP6 HRX6 HRZ6
      go_wp2_with fail
      refine (ends_any a4 lx cap4 (spn (sp p lx) lx) _ hl10 HEX.out HP7.out).mono ?_
      rintro e w8 ⟨rfl, hb8⟩
      have K8 := K7.step hb8
      have k80 := K8.c0
      have k81 := K8.c1
      have HB8 : Hid (Below w.heap.size w w8) := Below.then HB7.out hb8
      clear hb8 K7 HB7 HP7
      go_wp2_with fail
      refine (spans_any n a len cap f _ hl K8.row).mono ?_
      rintro e s1 ⟨⟨c2, v2, ok2, hc2, rfl, he2⟩, hbs1⟩
      have KS := K8.step hbs1
      have ks0 := KS.c0
      have ks1 := KS.c1
      have HBS1 : Hid (Below w.heap.size w s1) := Below.then HB8.out hbs1
      clear hbs1
      go_wp2_with fail
      refine (two_any n a len cap f _ hl KS.row).mono ?_
      rintro e s2 ⟨⟨c3, v3, l3, two3, hc3, rfl, he3⟩, hbs2⟩
      obtain rfl := Chk.unique hc3 hc2
      have HBS2 : Hid (Below w.heap.size w s2) := Below.then HBS1.out hbs2
      have HB12 : Hid (Below s1.heap.size s1 s2) := hbs2
      clear hbs2 KS ks0 ks1 HBS1
      rcases he2 with ⟨h0, rfl, rfl⟩ | ⟨rfl, he2⟩
      · have hne : (c3 != 0) = true := by simpa using h0
        clear he3 hc3 hc2
        go_wp2_with fail
        go_ret
        exact ⟨by simp, HBS2.out⟩
      · obtain ⟨rfl, h10, hrng, hord⟩ := hc2.good
        have hsm : Sm len len (nat f) := fun k hk => by unfold nat; have := hrng k hk; omega
        rcases he3 with ⟨h, _⟩ | ⟨_, hf3, _⟩
        · exact absurd rfl h
        have hfit := fits_iff h10 hsm hf3
        rcases he2 with ⟨hF, rfl, a1, cap1, rfl, hp⟩ | ⟨hF, rfl, rfl⟩
        · obtain rfl : two3 = false := hfit.1 hF
          have HP2 : Hid (PRow s2 a1 len (spn (nat f) len)) := hp.below HB12.out
          have HEE : Hid (EndsOk (spn (nat f) len) len) := ends_spn h10 hsm hord (noTwo_of hF)
          clear hp hfit hF hf3 hrng hord hsm hc3 hc2 HB12
          go_wp2_with fail
          refine (ends_any a1 len cap1 (spn (nat f) len) _ h10 HEE.out HP2.out).mono ?_
          rintro e s3 ⟨rfl, hbs3⟩
          have HBS3 : Hid (Below w.heap.size w s3) := Below.then HBS2.out hbs3
          clear hbs3 HBS2
          go_wp2_with fail
          go_ret
          exact ⟨rfl, HBS3.out⟩
        · obtain rfl : two3 = true := by
            cases two3
            · exact absurd (hfit.2 rfl) hF
            · rfl
          clear hfit hF hf3 hrng hord hsm hc3 hc2 HB12
          go_wp2_with fail
          go_ret
          exact ⟨by simp, HBS2.out⟩
    · exact absurd hfits h
  · have hne2 : (c == 0) = false := by simpa using h0
    clear HX3 HC x0 x1
    go_wp2_with fail
    generalize w2.alloc (.cells #[.int .i64 nx, .slice ax lx cx] 25) = W3 at *
    refine (spans_any n a len cap f _ hl K3.row).mono ?_
    rintro e s1 ⟨⟨c2, v2, ok2, hc2, rfl, he2⟩, hbs1⟩
    have KS := K3.step hbs1
    have ks0 := KS.c0
    have ks1 := KS.c1
    have HBS1 : Hid (Below w.heap.size w s1) := Below.then HB3.out hbs1
    clear hbs1
    go_wp2_with fail
    refine (two_any n a len cap f _ hl KS.row).mono ?_
    rintro e s2 ⟨⟨c3, v3, l3, two3, hc3, rfl, he3⟩, hbs2⟩
    obtain rfl := Chk.unique hc3 hc2
    have HBS2 : Hid (Below w.heap.size w s2) := Below.then HBS1.out hbs2
    have HB12 : Hid (Below s1.heap.size s1 s2) := hbs2
    clear hbs2 KS ks0 ks1 HBS1
    rcases he2 with ⟨h0, rfl, rfl⟩ | ⟨rfl, he2⟩
    · have hne : (c3 != 0) = true := by simpa using h0
      clear he3 hc3 hc2
      go_wp2_with fail
      go_ret
      exact ⟨by simp, HBS2.out⟩
    · obtain ⟨rfl, h10, hrng, hord⟩ := hc2.good
      have hsm : Sm len len (nat f) := fun k hk => by unfold nat; have := hrng k hk; omega
      rcases he3 with ⟨h, _⟩ | ⟨_, hf3, _⟩
      · exact absurd rfl h
      have hfit := fits_iff h10 hsm hf3
      rcases he2 with ⟨hF, rfl, a1, cap1, rfl, hp⟩ | ⟨hF, rfl, rfl⟩
      · obtain rfl : two3 = false := hfit.1 hF
        have HP2 : Hid (PRow s2 a1 len (spn (nat f) len)) := hp.below HB12.out
        have HEE : Hid (EndsOk (spn (nat f) len) len) := ends_spn h10 hsm hord (noTwo_of hF)
        clear hp hfit hF hf3 hrng hord hsm hc3 hc2 HB12
        go_wp2_with fail
        refine (ends_any a1 len cap1 (spn (nat f) len) _ h10 HEE.out HP2.out).mono ?_
        rintro e s3 ⟨rfl, hbs3⟩
        have HBS3 : Hid (Below w.heap.size w s3) := Below.then HBS2.out hbs3
        clear hbs3 HBS2
        go_wp2_with fail
        go_ret
        exact ⟨rfl, HBS3.out⟩
      · obtain rfl : two3 = true := by
          cases two3
          · exact absurd (hfit.2 rfl) hF
          · rfl
        clear hfit hF hf3 hrng hord hsm hc3 hc2 HB12
        go_wp2_with fail
        go_ret
        exact ⟨by simp, HBS2.out⟩
end Go.Proofs.Ytkknfnjhpamfbaa
