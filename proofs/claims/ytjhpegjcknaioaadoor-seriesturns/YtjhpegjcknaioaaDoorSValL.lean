/-
  What the reference's SameOrder answers; a zig is found just if there is one; what hasselaw.SeriesValdes answers: true. Conditions: a slice reads as a slice of numbers; the table of the least bits.
-/
import Derived.Test.YtjhpegjcknaioaaDoorZigL
import Derived.Test.YtjhpegjcknaioaaDoorSerB
import Derived.Test.YtjhpegjcknaioaaDoorBldP
namespace Go.Proofs.YtjhpegjcknaioaaDoor
set_option maxRecDepth 100000
open Go.RowKit

theorem sameOrder_any (n n' : Int) (a b : Option Addr) (la ca lb cb : Nat) (f g : Nat → Int) (w : World) (hl : la ≤ maxLen) (hl2 : lb ≤ maxLen) (ha : Row w a la f) (hb : Row w b lb g) :
    Calls Tryd.prog 15 #[.agg #[.int .i64 n, .slice a la ca], .agg #[.int .i64 n', .slice b lb cb]] w fun e w' => Ans e (SameOrders n n' la lb f g) ∧ Below w.heap.size w w' := by
  have HB2 : Hid (Below w.heap.size w ((w.alloc (.cells #[.int .i64 n, .slice a la ca] 24)).alloc (.cells #[.int .i64 n', .slice b lb cb] 24))) := ((Below.refl _ _).alloc (Nat.le_refl _) _).alloc (by simp) _
  have HA : Hid (Row w a la f) := ha
  have HB : Hid (Row w b lb g) := hb
  clear ha hb
  by_cases hn : n = n'
  · subst hn
    go_enter Tryd.func15, Tryd.ntmps15
    go_wp2_with fail
    refine (same_any a b la ca lb cb f g _ hl hl2 (HA.out.below HB2.out) (HB.out.below HB2.out)).mono ?_
    rintro e w1 ⟨⟨b, rfl, hb⟩, hB⟩
    have HBE : Hid (Below w.heap.size w w1) := Below.then HB2.out hB
    have HY : Hid (b = true ↔ SameRows la lb f g) := hb
    clear hB hb HB2
    go_wp2_with fail
    go_ret
    exact ⟨⟨_, rfl, HY.out.trans ⟨fun h => ⟨rfl, h⟩, fun h => h.2⟩⟩, HBE.out⟩
  · have hd : (n == n') = false := by simpa using hn
    have HN : Hid (¬ n = n') := hn
    clear hn
    go_enter Tryd.func15, Tryd.ntmps15
    go_wp2_with fail
    go_ret
    exact ⟨Ans.no (fun h => HN.out h.1), HB2.out⟩
theorem zig_diff {n : Nat} {g : Nat → Nat} (ho : Ord n g) {a b c d : Nat} (ha : a < n) (hb : b < n) (hab : a ≠ b) (h : zigP g a b c d = true) : diff a b c d = true := by
  obtain ⟨⟨h1, h2, h3⟩, ⟨h4, h5⟩, ⟨h6, h7⟩, h8, h9⟩ := (zigP_iff g a b c d).1 h
  refine diff_of hab ?_ ?_ ?_ ?_ ?_
  · rintro rfl; rw [(ho a ha).1] at h1; cases h1
  · rintro rfl; rw [h3] at h5; cases h5
  · rintro rfl; rw [(ho b hb).1] at h2; cases h2
  · rintro rfl; rw [(ho b hb).1] at h3; cases h3
  · rintro rfl; rw [h1] at h6; cases h6
/-- A zig is found just if there is one. -/
theorem first_zig {n : Nat} {g : Nat → Nat} (ho : Ord n g) {l : List Nat} {ok : Bool} (h : First n (zgQ g) l ok) : ok = true ↔ ¬ NZ g (pw n - 1) := by
  have m : ∀ {x}, (pw n - 1).testBit x = true ↔ x < n := fun {x} => by rw [full_bit]; simp
  rcases h with ⟨rfl, k, hk, hp, _, _⟩ | ⟨rfl, _, hu⟩
  · refine ⟨fun _ hN => ?_, fun _ => rfl⟩
    have hn : 0 < n := by
      rcases Nat.eq_zero_or_pos n with e | e
      · subst e; simp at hk
      · exact e
    obtain ⟨d1, d2, d3, d4⟩ := dig_lt hn hk
    unfold P4 zgQ at hp
    rw [Bool.and_eq_true] at hp
    have e := hN _ _ _ _ (m.2 d1) (m.2 d2) (m.2 d3) (m.2 d4) hp.2
    have hd := hp.1
    rw [e] at hd
    simp [diff] at hd
  · refine ⟨fun k => (by cases k), fun hN => ?_⟩
    exfalso
    apply hN
    intro a b c d ha hb hc hd hz
    refine Classical.byContradiction fun hab => ?_
    have q := hu (idx n a b c d) (idx_lt (m.1 ha) (m.1 hb) (m.1 hc) (m.1 hd))
    rw [P4_idx _ (m.1 hb) (m.1 hc) (m.1 hd)] at q
    unfold zgQ at q
    rw [zig_diff ho (m.1 ha) (m.1 hb) hab hz, hz] at q
    cases q
theorem Trm.nz {g : Nat → Nat} {n S : Nat} {T : TT} (h : Trm g n S T) : NZ g S := by
  intro a b c d ha hb hc hd hz
  obtain ⟨⟨h1, h2, h3⟩, ⟨h4, h5⟩, ⟨h6, h7⟩, h8, h9⟩ := (zigP_iff g a b c d).1 hz
  rw [← h.st] at ha hb hc hd
  exact h.ok.noZig a b c d ha hb hc hd h1 h2 h3 h4 h5 h6 h7 h8 h9
theorem dn_is {g : Nat → Nat} {n : Nat} (hn : n ≤ 10) (hg : Sm n n g) : ∀ p, p < n → dnP (lss g) (pw n - 1) p = g p := fun p hp => by
  have hpl := pw_le n hn
  have hpp := pw_pos n
  apply Nat.eq_of_testBit_eq
  intro a
  rw [Bool.eq_iff_iff, dnP_bit (by omega), full_bit, full_bit]
  simp only [decide_eq_true_eq]
  exact ⟨fun h => h.2.2, fun h => ⟨hp, bit_of_lt (hg p hp) h, h⟩⟩
set_option maxHeartbeats 4000000 in
theorem seriesValdes_any (n : Int) (a : Option Addr) (len cap : Nat) (f : Nat → Int) (w : World) (hl : len ≤ maxLen) (hr : Row w a len f) (hT : Tab w) :
    Calls Tryd.prog 6 #[.agg #[.int .i64 n, .slice a len cap]] w fun e w' => e = .returned (.bool true) ∧ Below w.heap.size w w' := by
  have K0 : Hid (Held (w.alloc (.cells #[.int .i64 n, .slice a len cap] 24)) w.heap.size n a len cap f) := Held.box hr
  have HB0 : Hid (Below w.heap.size w (w.alloc (.cells #[.int .i64 n, .slice a len cap] 24))) := (Below.refl _ _).alloc (Nat.le_refl _) _
  have HT : Hid (Tab w) := hT
  clear hr hT
  go_enter Tryd.func6, Tryd.ntmps6
  go_wp2_with fail
  refine (seriesBegun_any _ (HT.out.step HB0.out)).mono ?_
  rintro e w1 ⟨rfl, hb1⟩
  have K1 : Hid (Held w1 w.heap.size n a len cap f) := K0.out.step hb1
  have HB1 : Hid (Below w.heap.size w w1) := Below.then HB0.out hb1
  have k0 := K1.out.c0
  have k1 := K1.out.c1
  clear hb1 K0 HB0
  go_wp2_with fail
  refine (sSplit_any n a len cap f _ hl K1.out.row (HT.out.step HB1.out)).mono ?_
  rintro e w2 ⟨⟨c, v, ok, hc, rfl, he⟩, hb2⟩
  have K2 : Hid (Held w2 w.heap.size n a len cap f) := K1.out.step hb2
  have HB2 : Hid (Below w.heap.size w w2) := Below.then HB1.out hb2
  have HC : Hid (Chk n len f c) := hc
  obtain ⟨k', x', a', n', c', rfl⟩ : ∃ k x a n c, v = .agg #[.int .i64 k, .int .i64 x, .slice a n c] := by
    rcases he with ⟨_, rfl, _⟩ | ⟨_, ⟨_, _, T, h, _⟩ | ⟨_, rfl, _⟩⟩
    · exact ⟨0, 0, none, 0, 0, rfl⟩
    · exact h.agg
    · exact ⟨0, 0, none, 0, 0, rfl⟩
  have HE := (show Hid ((c ≠ 0 ∧ _ ∧ ok = false) ∨ (c = 0 ∧ ((ok = true ∧ 0 < len ∧ ∃ T, TRep _ w2 T (.agg #[.int .i64 k', .int .i64 x', .slice a' n' c']) ∧ Trm (nat f) len (pw len - 1) T) ∨ (ok = false ∧ _ ∧ (len = 0 ∨ ¬ NZ (nat f) (pw len - 1)))))) from he)
  have HBA : Hid (Below w2.heap.size w2 (w2.alloc (.cells #[.int .i64 k', .int .i64 x', .slice a' n' c'] 27))) := (Below.refl _ _).alloc (Nat.le_refl _) _
  have K3 : Hid (Held (w2.alloc (.cells #[.int .i64 k', .int .i64 x', .slice a' n' c'] 27)) w.heap.size n a len cap f) := K2.out.step HBA.out
  have HX : Hid (∀ w', Below (w2.alloc (.cells #[.int .i64 k', .int .i64 x', .slice a' n' c'] 27)).heap.size (w2.alloc (.cells #[.int .i64 k', .int .i64 x', .slice a' n' c'] 27)) w' → w'.cell? ⟨w2.heap.size, 0, none⟩ = some (.int .i64 k') ∧ w'.cell? ⟨w2.heap.size, 1, none⟩ = some (.int .i64 x') ∧ w'.cell? ⟨w2.heap.size, 2, none⟩ = some (.slice a' n' c')) := fun w' h =>
    ⟨cell_stp h (by simp), cell_stp h (by simp), cell_stp h (by simp)⟩
  have k0 := K3.out.c0
  have k1 := K3.out.c1
  clear hb2 K1 HB1 hc he
  go_wp2_with fail
  refine (zig_any n a len cap f _ hl K3.out.row).mono ?_
  rintro e w3 ⟨⟨cz, vz, lz, okz, hcz, rfl, hez⟩, hb3⟩
  obtain rfl := Chk.unique hcz HC.out
  have HB3 : Hid (Below w.heap.size w w3) := Below.then (Below.then HB2.out HBA.out) hb3
  have HB23 : Hid (Below w2.heap.size w2 w3) := Below.then HBA.out hb3
  obtain ⟨y0, y1, y2⟩ := HX.out _ hb3
  have K4 : Hid (Held w3 w.heap.size n a len cap f) := K3.out.step hb3
  have k0 := K4.out.c0
  have k1 := K4.out.c1
  clear hb3 hcz
  by_cases h0 : cz = 0
  · subst h0
    obtain ⟨rfl, h10, hrng, hord⟩ := HC.out.good
    have HFZ : Hid (okz = true ↔ ¬ NZ (nat f) (pw len - 1)) := by
      rcases hez with ⟨h, _⟩ | ⟨_, h, _⟩
      · exact absurd rfl h
      · exact first_zig hord h
    have HSM : Hid (Sm len len (nat f)) := hrng.small
    have HOR : Hid (Ord len (nat f)) := hord
    have HRG : Hid (Rng len f) := hrng
    clear hez hrng hord
    rcases HE.out with ⟨h, _⟩ | ⟨_, ⟨rfl, hlen, T, hTT, hTr⟩ | ⟨rfl, _, hno⟩⟩
    · exact absurd rfl h
    · have hz : okz = false := by
        rcases okz with _ | _
        · rfl
        · exact absurd hTr.nz (HFZ.out.1 rfl)
      subst hz
      have hlI : (0 : Int) < (len : Int) := by omega
      have HGG : Hid (GdT T → (Ok (lss (nat f)) T ∧ st T = pw len - 1 ∧ len ≤ 10 ∧ ∀ p, p < len → lss (nat f) p p = false)) := fun _ => ⟨hTr.ok, hTr.st, h10, fun p hp => (HOR.out p hp).1⟩
      have HGT : Hid (GdT T) := (hTr.ok.good h10 hTr.st).1
      have HTR : Hid (TRep 0 w3 T (.agg #[.int .i64 k', .int .i64 x', .slice a' n' c'])) := TRep.low (Nat.zero_le _) _ _ (TRep.step HB23.out _ _ hTT)
      clear hTT hTr HE HFZ
      go_wp2_with fail
      refine (build_any (lss (nat f)) len T _ _ HTR.out (HT.out.step HB3.out) HGG.out).mono ?_
      rintro e w4 ⟨hres, hb4⟩
      have HB4 : Hid (Below w.heap.size w w4) := Below.then HB3.out hb4
      have K5 : Hid (Held w4 w.heap.size len a len cap f) := K4.out.step hb4
      clear hb4
      rcases hres with ⟨_, bb, _, rfl, hrow⟩ | ⟨h, _⟩
      · have HRW : Hid (Row w4 (some ⟨bb, 0, none⟩) len f) := fun p hp => by
          obtain ⟨b2, o2, e2, c2⟩ := hrow p hp
          refine ⟨b2, o2, e2, c2.trans ?_⟩
          show some (Value.int .i64 ((dnP (lss (nat f)) (pw len - 1) p : Nat) : Int)) = _
          rw [dn_is h10 HSM.out p hp]
          have := HRG.out p hp
          unfold nat
          congr 2
          omega
        have HBB : Hid (Below w4.heap.size w4 (w4.alloc (.cells #[.int .i64 (len : Int), .slice (some ⟨bb, 0, none⟩) len len] 24))) := (Below.refl _ _).alloc (Nat.le_refl _) _
        have K6 : Hid (Held (w4.alloc (.cells #[.int .i64 (len : Int), .slice (some ⟨bb, 0, none⟩) len len] 24)) w.heap.size len a len cap f) := K5.out.step HBB.out
        have k0 := K6.out.c0
        have k1 := K6.out.c1
        clear hrow
        go_wp2_with fail
        refine (sameOrder_any len len (some ⟨bb, 0, none⟩) a len len len cap f f _ hl hl (HRW.out.below HBB.out) K6.out.row).mono ?_
        rintro e w5 ⟨⟨q, rfl, hq⟩, hb5⟩
        obtain rfl : q = true := hq.2 ⟨rfl, rfl, fun _ _ => rfl⟩
        have HB5 : Hid (Below w.heap.size w w5) := Below.then (Below.then HB4.out HBB.out) hb5
        clear hb5 hq
        go_wp2_with fail
        go_ret
        exact ⟨rfl, HB5.out⟩
      · exact absurd HGT.out h
    · rcases hno with rfl | hno
      · clear HFZ HE
        rcases okz with _ | _
        · go_wp2_with fail
          go_ret
          exact ⟨rfl, HB3.out⟩
        · go_wp2_with fail
          go_ret
          exact ⟨rfl, HB3.out⟩
      · obtain rfl : okz = true := HFZ.out.2 hno
        clear HFZ HE
        go_wp2_with fail
        go_ret
        exact ⟨rfl, HB3.out⟩
  · have hne : (cz != 0) = true := by simpa using h0
    clear HE
    go_wp2_with fail
    go_ret
    exact ⟨by simp, HB3.out⟩
end Go.Proofs.YtjhpegjcknaioaaDoor
