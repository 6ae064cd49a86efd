/-
  What the reference's Ideals and hasselaw.numbersAre answer; hasselaw.OrderIdeals returns true for every order. No condition but that a slice reads as a slice of numbers.
-/
import Derived.Test.YtnjmelbnamgjcabIdealsP
import Derived.Test.YtnjmelbnamgjcabKeptB
namespace Go.Proofs.Ytnjmelbnamgjcab
open Go.RowKit

set_option maxHeartbeats 2000000 in
theorem refIdeals_any (a : Option Addr) (len cap : Nat) (g : Nat → Nat) (w : World) (h10 : len ≤ 10) (hg : ∀ k, k < len → g k < 1024) (hr : Row w a len (fun k => (g k : Nat))) :
    Calls Try.prog 16 #[.agg #[.int .i64 (len : Int), .slice a len cap]] w fun e w' => (∃ v, e = .returned v ∧ NSl w' v (idls g len)) ∧ Below w.heap.size w w' := by
  have HG : Hid (∀ k, k < len → g k < 1024) := hg
  have HR : Hid (Row w a len (fun k => (g k : Nat))) := hr
  clear hr hg
  obtain ⟨I, HI⟩ : ∃ I, Hid (I = fun s => idlTo g s len) := ⟨_, rfl⟩
  have HIA : Hid (∀ s, idlTo g s len = I s) := fun s => by rw [HI.out]
  have HCV : Hid (idls g len = fil I (pw len)) := by rw [HI.out]; rfl
  have hpw := pw_le len h10
  obtain ⟨i0, hi, hz0, hz1, hz2⟩ := info_parts Try.info3
  go_enter Try.func16, Try.ntmps16
  go_wp2
  go_loopw [3, 4] (fun v i wx => ∃ s : Nat, s ≤ pw len ∧ i = .int .i64 s ∧ wx.ownsRow (w.heap.size + 1) 3 1 v (fil I s).length (natVals (fil I s)) ∧ Hid (Below (w.heap.size + 1) (w.alloc (.cells #[.int .i64 (len : Int), .slice a len cap] 24)) wx)) (fun _ i _ => pw len - (intOf i).toNat)
  case atStart => exact ⟨0, Nat.zero_le _, rfl, World.ownsRow_nil _ _ _ _, Below.refl _ _⟩
  case round =>
    obtain ⟨s, hs, rfl, hown, hB⟩ := hrel
    have hH := Held.kept HR.out hB.out
    have c0 := hH.c0
    have c1 := hH.c1
    by_cases hlt : s < pw len
    · rcases (Bool.eq_false_or_eq_true (I s)).symm with hb | hb
      · have HE : Hid (fil I (s + 1) = fil I s) := fil_no hb
        go_wp2_with (go_at_call 23; refine (bit_any len _ (by omega)).mono ?_; rintro e w' ⟨rfl, rfl⟩)
        refine (ideal_any a len cap g s _ h10 (by omega) HG.out hH.row).mono ?_
        rintro e w1 ⟨rfl, hb1⟩
        rw [HIA.out s, hb]
        have HB2 : Hid (Below (w.heap.size + 1) (w.alloc (.cells #[.int .i64 (len : Int), .slice a len cap] 24)) w1) := below_call hB.out hb1
        have hown2 := owns_below hown hb1
        clear hown hb1 hH c0 c1 hB
        go_wp2_with fail
        go_roundw
        case rel => exact ⟨s + 1, by omega, by go_num, by rw [HE.out]; exact hown2, HB2.out⟩
        case measure => simp [intOf]; omega
      · have HE : Hid (fil I (s + 1) = fil I s ++ [s]) := fil_yes hb
        have hlen := fil_len I s
        go_wp2_with (go_at_call 23; refine (bit_any len _ (by omega)).mono ?_; rintro e w' ⟨rfl, rfl⟩)
        refine (ideal_any a len cap g s _ h10 (by omega) HG.out hH.row).mono ?_
        rintro e w1 ⟨rfl, hb1⟩
        rw [HIA.out s, hb]
        have HB2 : Hid (Below (w.heap.size + 1) (w.alloc (.cells #[.int .i64 (len : Int), .slice a len cap] 24)) w1) := below_call hB.out hb1
        have hown2 := owns_below hown hb1
        have hsz : w.heap.size + 1 ≤ w1.heap.size := by have := HB2.out.size; simpa using this
        clear hown hb1 hH c0 c1 hB
        obtain ⟨L, HL⟩ : ∃ L, Hid (L = fil I s) := ⟨_, rfl⟩
        rw [← HL.out] at hown2 hlen
        go_wp2_with (at_builtin; refine wpList_append_own _ rfl _ _ 22 rfl (w.heap.size + 1) 3 i0 (.int .i64 0) 1 8 Try.underlying22 hi hz0 hz1 hz2 rfl (by decide) _ _ _ rfl (hown2.alloc _) ⟨w1.heap.size, 0, none⟩ 1 1 [.int .i64 (s : Nat)] rfl rfl ?c1 ?c2 ?c3 ?c4 ?c5 ?_)
        case c1 =>
          intro j u hj
          match j, hj with
          | 0, hj => simp at hj; subst hj; simp [Addr.add]
        case c2 => intro u hu; simp at hu; subst hu; rfl
        case c3 => unfold maxLen; omega
        case c4 => omega
        case c5 => simp; omega
        intro v' w2 hown' hgrow _
        have HB3 : Hid (Below (w.heap.size + 1) (w.alloc (.cells #[.int .i64 (len : Int), .slice a len cap] 24)) w2) := below_append HB2.out hown2 hgrow
        have HO3 : Hid (w2.ownsRow (w.heap.size + 1) 3 1 v' (fil I (s + 1)).length (natVals (fil I (s + 1)))) := by
          rw [HE.out, ← HL.out, natVals_append, List.length_append]; exact hown'
        clear hown' hgrow hown2 HB2 hlen hsz HL
        go_wp2_with fail
        go_roundw
        case rel => exact ⟨s + 1, by omega, by go_num, HO3.out, HB3.out⟩
        case measure => simp [intOf]; omega
    · have hsn : s = pw len := by omega
      have HF : Hid (NSl wr u3 (idls g len)) := by rw [HCV.out, ← hsn]; exact owns_nats hown
      have hle : ((pw len : Nat) : Int) ≤ (s : Int) := by omega
      clear hown hH hsn hlt
      go_wp2_with (go_at_call 23; refine (bit_any len _ (by omega)).mono ?_; rintro e w' ⟨rfl, rfl⟩)
      go_ret
      exact ⟨⟨_, rfl, HF.out⟩, out_below hB.out⟩

theorem numbersAre_any (c : Int) (l : List Nat) (v v' : Value) (w : World) (hl : l.length ≤ maxLen) (h1 : (c ≠ 0 ∧ v = .slice none 0 0 ∧ v' = .slice none 0 0) ∨ (c = 0 ∧ NSl w v l ∧ NSl w v' l)) :
    Calls Try.prog 17 #[v, .int .i64 c, .int .i64 c, v'] w fun e w' => e = .returned (.bool true) ∧ Below w.heap.size w w' := by
  rcases h1 with ⟨h0, rfl, rfl⟩ | ⟨rfl, ⟨a, ca, rfl, hr⟩, ⟨b, cb, rfl, hr'⟩⟩
  · have hne : (c != 0) = true := by simpa using h0
    go_enter Try.func17, Try.ntmps17
    go_wp2_with fail
    refine (same_any none none 0 0 0 0 (fun _ => 0) (fun _ => 0) _ (by unfold maxLen; omega) (by unfold maxLen; omega) (fun k hk => absurd hk (Nat.not_lt_zero _)) (fun k hk => absurd hk (Nat.not_lt_zero _))).mono ?_
    rintro e w1 ⟨⟨q, rfl, hq⟩, hB⟩
    obtain rfl : q = true := hq.2 ⟨rfl, fun _ _ => rfl⟩
    have HB : Hid (Below w.heap.size w w1) := hB
    clear hq hB
    go_wp2_with fail
    go_ret
    exact ⟨rfl, HB.out⟩
  · generalize l.length = m at *
    have HA : Hid (Row w a m (fun k => (nth l k : Nat))) := hr
    have HB' : Hid (Row w b m (fun k => (nth l k : Nat))) := hr'
    clear hr hr'
    go_enter Try.func17, Try.ntmps17
    go_wp2_with fail
    refine (same_any a b m ca m cb (fun k => (nth l k : Nat)) (fun k => (nth l k : Nat)) _ hl hl HA.out HB'.out).mono ?_
    rintro e w1 ⟨⟨q, rfl, hq⟩, hB⟩
    obtain rfl : q = true := hq.2 ⟨rfl, fun _ _ => rfl⟩
    have HB : Hid (Below w.heap.size w w1) := hB
    clear hq hB
    go_wp2_with fail
    go_ret
    exact ⟨rfl, HB.out⟩

theorem NSl.below {w w' : World} {v : Value} {l : List Nat} (h : NSl w v l) (hb : Below w.heap.size w w') : NSl w' v l := by
  obtain ⟨a, cap, rfl, hr⟩ := h
  exact ⟨a, cap, rfl, hr.below hb⟩
theorem idls_len (g : Nat → Nat) (n : Nat) (h : n ≤ 10) : (idls g n).length ≤ 1024 := Nat.le_trans (fil_len _ _) (pw_le n h)

theorem orderIdeals_any (n : Int) (a : Option Addr) (len cap : Nat) (f : Nat → Int) (w : World) (hl : len ≤ maxLen) (hr : Row w a len f) :
    Calls Try.prog 4 #[.agg #[.int .i64 n, .slice a len cap]] w fun e w' => e = .returned (.bool true) ∧ Below w.heap.size w w' := by
  have K0 : Held (w.alloc (.cells #[.int .i64 n, .slice a len cap] 24)) w.heap.size n a len cap f := Held.box hr
  have HB0 : Hid (Below w.heap.size w (w.alloc (.cells #[.int .i64 n, .slice a len cap] 24))) := (Below.refl _ _).alloc (Nat.le_refl _) _
  clear hr
  go_enter Try.func4, Try.ntmps4
  go_wp2_with fail
  refine (ideals_any n a len cap f _ hl K0.row).mono ?_
  rintro e w1 ⟨⟨c, v, hc, rfl, he⟩, hb⟩
  have K1 := K0.step hb
  have k0 := K1.c0
  have k1 := K1.c1
  have HB1 : Hid (Below w.heap.size w w1) := Below.then HB0.out hb
  clear hb K0 HB0
  rcases he with ⟨h0, rfl⟩ | ⟨rfl, hp⟩
  · have hne2 : (c == 0) = false := by simpa using h0
    go_wp2_with fail
    refine (checkOrder_any n a len cap f _ hl K1.row).mono ?_
    rintro e w2 ⟨⟨c', rfl, hc'⟩, hb2⟩
    obtain rfl := Chk.unique hc' hc
    have HB2 : Hid (Below w.heap.size w w2) := Below.then HB1.out hb2
    clear hb2 HB1 K1 k0 k1 hc hc'
    go_wp2_with fail
    refine (orderBegun_any _).mono ?_
    rintro e w3 ⟨rfl, hb3⟩
    have HB3 : Hid (Below w.heap.size w w3) := Below.then HB2.out hb3
    clear hb3 HB2
    go_wp2_with fail
    refine (numbersAre_any c' [] _ _ _ (by unfold maxLen; simp) (.inl ⟨h0, rfl, rfl⟩)).mono ?_
    rintro e w4 ⟨rfl, hb4⟩
    have HB4 : Hid (Below w.heap.size w w4) := Below.then HB3.out hb4
    clear hb4 HB3
    go_wp2_with fail
    go_ret
    exact ⟨rfl, HB4.out⟩
  · obtain ⟨rfl, h10, hrng, _⟩ := hc.good
    have HP : Hid (NSl w1 v (idls (nat f) len)) := hp
    clear hp
    go_wp2_with fail
    refine (checkOrder_any len a len cap f _ hl K1.row).mono ?_
    rintro e w2 ⟨⟨c', rfl, hc'⟩, hb2⟩
    obtain rfl := Chk.unique hc' hc
    have HB2 : Hid (Below w.heap.size w w2) := Below.then HB1.out hb2
    have HP2 : Hid (NSl w2 v (idls (nat f) len)) := HP.out.below hb2
    have K2 := K1.step hb2
    have m0 := K2.c0
    have m1 := K2.c1
    clear hb2 HB1 k0 k1 hc hc' K1 HP
    go_wp2_with fail
    refine (refIdeals_any a len cap (nat f) _ h10 (hrng.small2 h10) (hrng.row K2.row)).mono ?_
    rintro e w3 ⟨⟨v3, rfl, hv3⟩, hb3⟩
    have HB3 : Hid (Below w.heap.size w w3) := Below.then HB2.out hb3
    have HP3 : Hid (NSl w3 v (idls (nat f) len)) := HP2.out.below hb3
    have HQ3 : Hid (NSl w3 v3 (idls (nat f) len)) := hv3
    clear hb3 HB2 K2 HP2 hv3 m0 m1
    go_wp2_with fail
    refine (orderBegun_any _).mono ?_
    rintro e w4 ⟨rfl, hb4⟩
    have HB4 : Hid (Below w.heap.size w w4) := Below.then HB3.out hb4
    have HP4 : Hid (NSl w4 v (idls (nat f) len)) := HP3.out.below hb4
    have HQ4 : Hid (NSl w4 v3 (idls (nat f) len)) := HQ3.out.below hb4
    have HL : Hid ((idls (nat f) len).length ≤ maxLen) := Nat.le_trans (idls_len _ len h10) (by unfold maxLen; omega)
    clear hb4 HB3 HP3 HQ3
    go_wp2_with fail
    refine (numbersAre_any 0 (idls (nat f) len) _ _ _ HL.out (.inr ⟨rfl, HP4.out, HQ4.out⟩)).mono ?_
    rintro e w5 ⟨rfl, hb5⟩
    have HB5 : Hid (Below w.heap.size w w5) := Below.then HB4.out hb5
    clear hb5 HB4 HP4 HQ4 HL
    go_wp2_with fail
    go_ret
    exact ⟨rfl, HB5.out⟩
end Go.Proofs.Ytnjmelbnamgjcab
