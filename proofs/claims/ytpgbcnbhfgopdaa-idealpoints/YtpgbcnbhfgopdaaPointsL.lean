/-
  hasselaw.IdealPoints returns true for every lattice. No condition but that slices read as slices of rows.
-/
import Derived.Test.YtpgbcnbhfgopdaaIBegun
import Derived.Test.YtpgbcnbhfgopdaaRefPts
import Derived.Test.YtpgbcnbhfgopdaaRefLat
namespace Go.Proofs.Ytpgbcnbhfgopdaa
open Go.RowKit

theorem OrdErr.form {c n : Int} {len : Nat} {F : Nat → Int} {x : Value} {w : World} (h : OrdErr c n len F x w) : ∃ k a l cp, x = .agg #[.int .i64 k, .slice a l cp] := by
  rcases h with ⟨_, rfl⟩ | ⟨_, a, cap, rfl, _⟩
  · exact ⟨0, none, 0, 0, rfl⟩
  · exact ⟨_, _, _, _, rfl⟩
theorem row_set2o {X : World} {B : Nat} {a : Option Addr} {n : Nat} {f : Nat → Int} {u v : Value} (h : Row X a n f) (hb : 0 < n → ∀ b off, a = some ⟨b, off, none⟩ → b ≠ B) : Row ((X.setCell ⟨B, 0, none⟩ u).setCell ⟨B, 1, none⟩ v) a n f := fun k hk => by
  obtain ⟨b, off, rfl, hc⟩ := h k hk
  have hne := hb (by omega) b off rfl
  refine ⟨b, off, rfl, ?_⟩
  rw [World.cell?_setCell_other _ _ _ _ (fun e => hne (by injection e with e1 _; exact e1.symm)), World.cell?_setCell_other _ _ _ _ (fun e => hne (by injection e with e1 _; exact e1.symm))]; exact hc
theorem OrdErr.low {c n : Int} {len : Nat} {F : Nat → Int} {k : Int} {a : Option Addr} {l cp : Nat} {w : World} (h : OrdErr c n len F (.agg #[.int .i64 k, .slice a l cp]) w) (h0 : c = 0) : (k = n ∧ l = len) ∧ Row w a len F ∧ (0 < len → ∀ b off, a = some ⟨b, off, none⟩ → b < w.heap.size) := by
  rcases h with ⟨h, _⟩ | ⟨_, a', cap', e, hr⟩
  · exact absurd h0 h
  · simp at e
    obtain ⟨rfl, rfl, rfl, rfl⟩ := e
    refine ⟨⟨rfl, rfl⟩, hr, fun hl b off e => ?_⟩
    obtain ⟨b', off', e', hc⟩ := hr 0 hl
    rw [e] at e'
    have : b = b' := by injection e' with e1; injection e1
    subst this
    exact World.block_lt_of_cell? _ _ hc
set_option maxHeartbeats 4000000 in
theorem idealPoints_any (n : Int) (a : Option Addr) (la ca : Nat) (SA : Nat → Option Addr × Nat × Nat) (FA : Nat → Nat → Int) (b : Option Addr) (lb cb : Nat) (SB : Nat → Option Addr × Nat × Nat) (FB : Nat → Nat → Int) (w : World) (hla : la ≤ maxLen) (hlb : lb ≤ maxLen) (hra : RR w a la SA FA) (hrb : RR w b lb SB FB) :
    Calls Try.prog 5 #[.agg #[.int .i64 n, .slice a la ca, .slice b lb cb]] w fun e w' => e = .returned (.bool true) ∧ Below w.heap.size w w' := by
  have B1 : Below w.heap.size w (w.alloc (.cells #[.int .i64 n, .slice a la ca, .slice b lb cb] 27)) := (Below.refl _ _).alloc (Nat.le_refl _) _
  have L0 := LB.new w n a la ca b lb cb
  have HB1 : Hid (Below w.heap.size w (w.alloc (.cells #[.int .i64 n, .slice a la ca, .slice b lb cb] 27))) := B1
  have hRA := hra.below HB1.out
  have hRB := hrb.below HB1.out
  clear hra hrb B1
  have l0 := L0.1
  have l1 := L0.2.1
  have l2 := L0.2.2
  go_enter Try.func5, Try.ntmps5
  go_wp2_with fail
  refine (points_any n a la ca SA FA b lb cb SB FB _ hla hlb hRA hRB).mono ?_
  rintro e w1 ⟨⟨c0, c, v, hc0, hc, rfl, hv⟩, hb1⟩
  obtain ⟨vk, va, vl, vcp, rfl⟩ := hv.form
  obtain ⟨w2, HW2⟩ : ∃ w2, Hid (w2 = w1.alloc (.cells #[.int .i64 vk, .slice va vl vcp] 24)) := ⟨_, rfl⟩
  have hb2 : Below w1.heap.size w1 w2 := by rw [HW2.out]; exact (Below.refl _ _).alloc (Nat.le_refl _) _
  have X2 : Box w2 w1.heap.size vk va vl vcp := by rw [HW2.out]; exact Box.new _ _ _ _ _
  have L2 := (L0.step hb1).step hb2
  have hRA2 := (hRA.below hb1).below hb2
  have hRB2 := (hRB.below hb1).below hb2
  have HV2 : Hid (OrdErr c _ _ _ (.agg #[.int .i64 vk, .slice va vl vcp]) w2) := hv.step hb2
  have HB2 : Hid (Below w.heap.size w w2) := Below.then (Below.then HB1.out hb1) hb2
  have L2e := L2
  rw [HW2.out] at L2e
  have k0 := L2e.1
  have k1 := L2e.2.1
  have k2 := L2e.2.2
  clear hRA hRB HB1 l0 l1 l2 L0 hb1 hb2 hv
  go_wp2_with fail
  rw [← HW2.out]
  clear HW2 L2e k0 k1 k2
  refine (checkLattice_any n a la ca SA FA b lb cb SB FB _ hla hlb hRA2 hRB2).mono ?_
  rintro e w3 ⟨⟨c', rfl, hc'⟩, hb3⟩
  obtain rfl := LCk.one hc' hc0
  obtain ⟨w4, HW4⟩ : ∃ w4, Hid (w4 = w3.alloc (.cells #[.int .i64 0, .slice none 0 0] 24)) := ⟨_, rfl⟩
  have hb4 : Below w3.heap.size w3 w4 := by rw [HW4.out]; exact (Below.refl _ _).alloc (Nat.le_refl _) _
  have hb34 := Below.then hb3 hb4
  have Z4 : ZBox w4 w3.heap.size := by rw [HW4.out]; exact ZBox.new _
  have X4 := X2.step hb34
  have L4 := L2.step hb34
  have hRA4 := hRA2.below hb34
  have HV4 : Hid (OrdErr c _ _ _ (.agg #[.int .i64 vk, .slice va vl vcp]) w4) := HV2.out.step hb34
  have HB4 : Hid (Below w.heap.size w w4) := Below.then HB2.out hb34
  have HZ4 : Hid (ZBox w4 w3.heap.size) := Z4
  have HX4 : Hid (Box w4 w1.heap.size vk va vl vcp) := X4
  have HLT : Hid (w1.heap.size < w3.heap.size) := by
    have h1 := X2.lt
    have h2 := hb3.size
    rw [Hid]; omega
  have H23 : Hid (w2.heap.size ≤ w3.heap.size) := hb3.size
  have HLW : Hid (w.heap.size ≤ w3.heap.size) := by
    have h1 := HB2.out.size
    have h2 := hb3.size
    rw [Hid]; omega
  have L4e := L4
  rw [HW4.out] at L4e
  have m0 := L4e.1
  have m1 := L4e.2.1
  have m2 := L4e.2.2
  clear hRA2 hRB2 L2 HB2 X2 X4 hb3 hb4 hb34 hc' Z4
  by_cases h0 : c' = 0
  · subst h0
    obtain ⟨q, rfl, h1, h40, e1, e2, hs1, hs2, hg1, hg2, hlat⟩ := hc0.good
    obtain rfl := e1.symm
    obtain rfl := e2.symm
    obtain ⟨b1, o1, rfl, ht1, _⟩ := hRA4.tb h1 hs1 hg1
    have HT : Hid (Tb w4 b1 o1 q (fun x => rAt (SA x)) (nat2 FA)) := ht1
    have HIR : Hid (filt (fun x => cntB (fun y => covB (nat2 FA) x y q) q == 1) q = irrs (nat2 FA) (nat2 FB) q) := irrs_ref hlat h1
    rw [show (q : Int).toNat = q from rfl] at hc HV4 HV2
    obtain ⟨P, HPE⟩ : ∃ P, Hid (P = irrs (nat2 FA) (nat2 FB) q) := ⟨_, rfl⟩
    rw [← HPE.out] at hc HV4 HIR HV2
    obtain ⟨k, HK⟩ : ∃ k, Hid (k = P.length) := ⟨_, rfl⟩
    rw [← HK.out] at hc HV4 HV2
    have HKL : Hid (k ≤ maxLen) := by
      have h1 := filt_len (irrB (nat2 FA) (nat2 FB) q) q
      have h2 : k = (filt (irrB (nat2 FA) (nat2 FB) q) q).length := by rw [HK.out, HPE.out]; rfl
      rw [Hid]; unfold maxLen; omega
    clear hRA4 hs1 hs2 hg1 hg2 hlat ht1 hc0
    go_wp2_with fail
    rw [← HW4.out]
    clear HW4 L4e m0 m1 m2
    refine (irrOf_any q b1 o1 ca b q cb _ (nat2 FA) _ h40 HT.out).mono ?_
    rintro e w5 ⟨⟨v5, rfl, hv5⟩, hb5⟩
    rw [HIR.out] at hv5
    obtain ⟨va5, vc5, rfl, _⟩ := hv5
    rw [← HK.out]
    have HT5 : Hid (Tb w5 b1 o1 q (fun x => rAt (SA x)) (nat2 FA)) := HT.out.step hb5
    have L5 := L4.step hb5
    have p0 := L5.1
    have p1 := L5.2.1
    have p2 := L5.2.2
    have HV5 : Hid (OrdErr c (k : Int) k (fun i => ((pB (nat2 FA) P k i : Nat) : Int)) (.agg #[.int .i64 vk, .slice va vl vcp]) w5) := HV4.out.step hb5
    have HB5 : Hid (Below w.heap.size w w5) := Below.then HB4.out hb5
    have HZ5 : Hid (ZBox w5 w3.heap.size) := HZ4.out.step hb5
    have HX5 : Hid (Box w5 w1.heap.size vk va vl vcp) := HX4.out.step hb5
    clear hb5 L4 HT HV4 HB4 HZ4 HX4
    by_cases hk : k ≤ 10
    · obtain rfl : c = 0 := hc.one (.inr ⟨rfl, .inr ⟨rfl, hk⟩⟩)
      have hk1 : (k : Int) ≤ 10 := by omega
      go_wp2_with fail
      refine (latticePoints_any q b1 o1 ca b q cb _ (nat2 FA) _ h40 HT5.out P HIR.out.symm (by rw [← HK.out]; exact hk)).mono ?_
      rintro e w6 ⟨⟨a6, cap6, rfl, hr6, hf6⟩, hb6⟩
      rw [← HK.out] at hr6 hf6 ⊢
      obtain ⟨z0, z1, z2, z3⟩ := HZ5.out.step hb6
      have HZ6 := HZ5.out.step hb6
      have HX6 := HX5.out.step hb6
      have hlt := HLT.out
      obtain ⟨w7, HW7⟩ : ∃ w7, Hid (w7 = (w6.setCell ⟨w3.heap.size, 0, none⟩ (.int .i64 (k : Int))).setCell ⟨w3.heap.size, 1, none⟩ (.slice a6 k cap6)) := ⟨_, rfl⟩
      have hne : ∀ i j : Nat, (⟨w3.heap.size, i, none⟩ : Addr) ≠ ⟨w1.heap.size, j, none⟩ := fun i j e => by injection e with e1 _; omega
      have HX7 : Hid (Box w7 w1.heap.size vk va vl vcp) := by
        rw [Hid, HW7.out]
        refine ⟨?_, ?_⟩
        · rw [World.cell?_setCell_other _ _ _ _ (hne _ _), World.cell?_setCell_other _ _ _ _ (hne _ _)]; exact HX6.1
        · rw [World.cell?_setCell_other _ _ _ _ (hne _ _), World.cell?_setCell_other _ _ _ _ (hne _ _)]; exact HX6.2
      have HY7 : Hid (Box w7 w3.heap.size (k : Int) a6 k cap6) := by rw [Hid, HW7.out]; exact Box.set2 HZ6
      have HB7 : Hid (Below w.heap.size w w7) := by rw [Hid, HW7.out]; exact set2B (Below.then HB5.out hb6) HLW.out
      obtain ⟨⟨rfl, rfl⟩, hrV, _⟩ := (HV5.out.step hb6).low rfl
      have HVL := (HV2.out.low rfl).2.2
      have HV7 : Hid (OrdErr 0 (vl : Int) vl (fun i => ((pB (nat2 FA) P vl i : Nat) : Int)) (.agg #[.int .i64 (vl : Int), .slice va vl vcp]) w7) := by
        rw [Hid, HW7.out]
        exact .inr ⟨rfl, va, vcp, rfl, row_set2o hrV (fun hl b off e => by have := HVL hl b off e; have := H23.out; omega)⟩
      have HU7 : Hid (OrdErr 0 (vl : Int) vl (fun i => ((pB (nat2 FA) P vl i : Nat) : Int)) (.agg #[.int .i64 (vl : Int), .slice a6 vl cap6]) w7) := by
        rw [Hid, HW7.out]
        exact .inr ⟨rfl, a6, cap6, rfl, row_set2o hr6 (fun hl b off e => by
          obtain ⟨b', off', e', hge⟩ := hf6 hl
          rw [e] at e'
          have : b = b' := by injection e' with e1; injection e1
          have h1 := HZ5.out
          have h2 : w3.heap.size < w5.heap.size := World.block_lt_of_cell? _ _ h1.1
          omega)⟩
      clear hrV HVL hb6 hr6 hf6 HZ6 HX6 hne HV5 HB5 HZ5 HX5 p0 p1 p2 L5 hc HV2 hlt
      go_wp2_with fail
      rw [← HW7.out]
      clear HW7 z0 z1 z2 z3
      refine (idealBegun_any _).mono ?_
      rintro e w8 ⟨rfl, hb8⟩
      have X8 := HX7.out.step hb8
      have Y8 := HY7.out.step hb8
      have x0 := X8.1
      have x1 := X8.2
      have y0 := Y8.1
      have y1 := Y8.2
      have HV8 : Hid (OrdErr 0 (vl : Int) vl (fun i => ((pB (nat2 FA) P vl i : Nat) : Int)) (.agg #[.int .i64 (vl : Int), .slice va vl vcp]) w8) := HV7.out.step hb8
      have HU8 : Hid (OrdErr 0 (vl : Int) vl (fun i => ((pB (nat2 FA) P vl i : Nat) : Int)) (.agg #[.int .i64 (vl : Int), .slice a6 vl cap6]) w8) := HU7.out.step hb8
      have HB8 : Hid (Below w.heap.size w w8) := Below.then HB7.out hb8
      clear hb8 HX7 HY7 HV7 HU7 HB7 X8 Y8
      go_wp2_with fail
      refine (given_any 0 (vl : Int) vl (fun i => ((pB (nat2 FA) P vl i : Nat) : Int)) _ _ _ HKL.out HV8.out (.inl HU8.out)).mono ?_
      rintro e w9 ⟨rfl, hb9⟩
      have HB9 : Hid (Below w.heap.size w w9) := Below.then HB8.out hb9
      clear hb9 HB8 HV8 HU8 x0 x1 y0 y1
      go_wp2_with fail
      go_ret
      exact ⟨rfl, HB9.out⟩
    · obtain rfl : c = 2 := hc.one (.inr ⟨rfl, .inl ⟨rfl, by omega⟩⟩)
      have hk1 : ¬ ((k : Int) ≤ 10) := by omega
      go_wp2_with fail
      refine (idealBegun_any _).mono ?_
      rintro e w8 ⟨rfl, hb8⟩
      have X8 := HX5.out.step hb8
      obtain ⟨y0, y1, _, _⟩ := HZ5.out.step hb8
      have x0 := X8.1
      have x1 := X8.2
      have HV8 := (show Hid _ from HV5.out.step hb8)
      have HB8 : Hid (Below w.heap.size w w8) := Below.then HB5.out hb8
      clear hb8 X8
      go_wp2_with fail
      refine (given_any 2 _ _ _ _ _ _ HKL.out HV8.out (.inr ⟨by decide, 0, none, 0, 0, rfl⟩)).mono ?_
      rintro e w9 ⟨rfl, hb9⟩
      have HB9 : Hid (Below w.heap.size w w9) := Below.then HB8.out hb9
      clear hb9 HB8 HV8 x0 x1 y0 y1
      go_wp2_with fail
      go_ret
      exact ⟨rfl, HB9.out⟩
  · have hne2 : (c' == 0) = false := by simpa using h0
    obtain rfl : c = c' := hc.one (.inl ⟨h0, rfl⟩)
    have HE4 : Hid (OrdErr c 0 0 (fun _ => 0) (.agg #[.int .i64 vk, .slice va vl vcp]) w4) := by
      rcases HV4.out with ⟨_, e⟩ | ⟨h, _⟩
      · exact .inl ⟨h0, e⟩
      · exact absurd h h0
    clear hRA4 L4 hc hc0
    go_wp2_with fail
    rw [← HW4.out]
    clear HW4 L4e m0 m1 m2
    refine (idealBegun_any _).mono ?_
    rintro e w8 ⟨rfl, hb8⟩
    have X8 := HX4.out.step hb8
    obtain ⟨y0, y1, _, _⟩ := HZ4.out.step hb8
    have x0 := X8.1
    have x1 := X8.2
    have HV8 := (show Hid _ from HE4.out.step hb8)
    have HB8 : Hid (Below w.heap.size w w8) := Below.then HB4.out hb8
    clear hb8 X8
    go_wp2_with fail
    refine (given_any c _ _ _ _ _ _ (by unfold maxLen; omega) HV8.out (.inr ⟨h0, 0, none, 0, 0, rfl⟩)).mono ?_
    rintro e w9 ⟨rfl, hb9⟩
    have HB9 : Hid (Below w.heap.size w w9) := Below.then HB8.out hb9
    clear hb9 HB8 HV8 x0 x1 y0 y1
    go_wp2_with fail
    go_ret
    exact ⟨rfl, HB9.out⟩
end Go.Proofs.Ytpgbcnbhfgopdaa
