/-
  What hasselaw.SeriesZigs answers: true. Conditions: a slice reads as a slice of numbers; the table of the least bits.
-/
import Derived.Test.YtjhpegjcknaioaaDoorZigL
import Derived.Test.YtjhpegjcknaioaaDoorSerB
namespace Go.Proofs.YtjhpegjcknaioaaDoor
set_option maxRecDepth 100000
open Go.RowKit

set_option maxHeartbeats 2000000 in
theorem seriesZigs_any (n : Int) (a : Option Addr) (len cap : Nat) (f : Nat → Int) (w : World) (hl : len ≤ maxLen) (hr : Row w a len f) (hT : Tab w) :
    Calls Tryd.prog 4 #[.agg #[.int .i64 n, .slice a len cap]] w fun e w' => e = .returned (.bool true) ∧ Below w.heap.size w w' := by
  have K0 : Held (w.alloc (.cells #[.int .i64 n, .slice a len cap] 24)) w.heap.size n a len cap f := Held.box hr
  have HB0 : Hid (Below w.heap.size w (w.alloc (.cells #[.int .i64 n, .slice a len cap] 24))) := (Below.refl _ _).alloc (Nat.le_refl _) _
  have HT : Hid (Tab w) := hT
  clear hr hT
  go_enter Tryd.func4, Tryd.ntmps4
  go_wp2_with fail
  refine (zig_any n a len cap f _ hl K0.row).mono ?_
  rintro e w1 ⟨⟨c, v, l, ok, hc, rfl, he⟩, hb⟩
  have K1 := K0.step hb
  have k0 := K1.c0
  have k1 := K1.c1
  have HB1 : Hid (Below w.heap.size w w1) := Below.then HB0.out hb
  clear hb K0 HB0
  rcases he with ⟨h0, rfl, rfl⟩ | ⟨rfl, hf, hp⟩
  · have hne2 : (c == 0) = false := by simpa using h0
    go_wp2_with fail
    refine (checkOrder_any n a len cap f _ hl K1.row).mono ?_
    rintro e w2 ⟨⟨c', rfl, hc'⟩, hb2⟩
    obtain rfl := Chk.unique hc' hc
    have HB2 : Hid (Below w.heap.size w w2) := Below.then HB1.out hb2
    clear hb2 HB1 K1 k0 k1 hc hc'
    go_wp2_with fail
    refine (seriesBegun_any _ (HT.out.step HB2.out)).mono ?_
    rintro e w3 ⟨rfl, hb3⟩
    have HB3 : Hid (Below w.heap.size w w3) := Below.then HB2.out hb3
    clear hb3 HB2
    go_wp2_with fail
    refine (numbersAre_any c' [] _ _ _ (by unfold maxLen; simp) (.inl ⟨h0, rfl, rfl⟩)).mono ?_
    rintro e w4 ⟨rfl, hb4⟩
    have HB4 : Hid (Below w.heap.size w w4) := Below.then HB3.out hb4
    clear hb4 HB3
    go_wp2_with fail
    go_ret
    exact ⟨rfl, HB4.out⟩
  · obtain ⟨rfl, h10, hrng, hord⟩ := hc.good
    have HP : Hid (NSl w1 v l) := hp
    have HFi : Hid (First len (zgQ (nat f)) l ok) := hf
    have HSM : Hid (Sm len len (nat f)) := fun k hk => by unfold nat; have := hrng k hk; omega
    have HO : Hid (Ord len (nat f)) := hord
    have HRR : Hid (∀ wx, Row wx a len f → Row wx a len (fun k => (nat f k : Nat))) := fun wx h k hk => by
      have h1 := h k hk
      have e : f k = (nat f k : Nat) := by unfold nat; have := hrng k hk; omega
      rw [e] at h1
      exact h1
    have hll : l.length ≤ maxLen := by
      unfold maxLen
      rcases hf with ⟨_, k, _, _, _, rfl⟩ | ⟨_, rfl, _⟩ <;> simp
    clear hp hf hrng hord
    go_wp2_with fail
    refine (checkOrder_any len a len cap f _ hl K1.row).mono ?_
    rintro e w2 ⟨⟨c', rfl, hc'⟩, hb2⟩
    obtain rfl := Chk.unique hc' hc
    have K2 := K1.step hb2
    have d0 := K2.c0
    have d1 := K2.c1
    have HP2 : Hid (NSl w2 v l) := HP.out.below hb2
    have HB2 : Hid (Below w.heap.size w w2) := Below.then HB1.out hb2
    clear hb2 HB1 K1 k0 k1 hc hc' HP
    go_wp2_with fail
    refine (zigOf_any a len cap (nat f) _ h10 HSM.out (HRR.out _ K2.row)).mono ?_
    rintro e w3 ⟨⟨v', l', ok', rfl, hf', hn'⟩, hb3⟩
    obtain ⟨rfl, rfl⟩ := First.one hf' HFi.out
    have HP3 : Hid (NSl w3 v l') := HP2.out.below hb3
    have HN3 : Hid (NSl w3 v' l') := hn'
    have HB3 : Hid (Below w.heap.size w w3) := Below.then HB2.out hb3
    clear hb3 HB2 K2 d0 d1 HP2 hf' hn'
    go_wp2_with fail
    refine (seriesBegun_any _ (HT.out.step HB3.out)).mono ?_
    rintro e w4 ⟨rfl, hb4⟩
    have HP4 : Hid (NSl w4 v l') := HP3.out.below hb4
    have HN4 : Hid (NSl w4 v' l') := HN3.out.below hb4
    have HB4 : Hid (Below w.heap.size w w4) := Below.then HB3.out hb4
    clear hb4 HB3 HP3 HN3
    go_wp2_with fail
    refine (numbersAre_any 0 l' _ _ _ hll (.inr ⟨rfl, HP4.out, HN4.out⟩)).mono ?_
    rintro e w5 ⟨rfl, hb5⟩
    have HB5 : Hid (Below w.heap.size w w5) := Below.then HB4.out hb5
    clear hb5 HB4
    go_wp2_with fail
    go_ret
    exact ⟨by simp, HB5.out⟩
end Go.Proofs.YtjhpegjcknaioaaDoor
