/-
  What the reference's CostOf and BestPair, hasselaw's weighed and scalesBegun answer. Conditions: an order of at most five points.
-/
import Derived.Test.YtipgojoiakbaiaaWoT
import Derived.Test.YtipgojoiakbaiaaWoB
namespace Go.Proofs.Ytipgojoiakbaiaa
open Go.RowKit
set_option maxRecDepth 100000

set_option maxHeartbeats 2000000 in
theorem costOf_any (n : Nat) (a : Option Addr) (cap : Nat) (g : Nat → Nat) (w : World) (hg : WOk n g) (hr : Row w a n (fun k => (g k : Nat))) :
    Calls Try.prog 11 #[.agg #[.int .i64 (n : Nat), .slice a n cap]] w fun e w' => e = .returned (.int .i64 (cst n g : Nat)) ∧ Below w.heap.size w w' := by
  obtain ⟨W0, HW0⟩ : ∃ W0, Hid (W0 = w.alloc (.cells #[.int .i64 (n : Nat), .slice a n cap] 24)) := ⟨_, rfl⟩
  have HW : Below w.heap.size w (w.alloc (.cells #[.int .i64 (n : Nat), .slice a n cap] 24)) := (Below.refl _ _).alloc (Nat.le_refl _) _
  have HK : Hid (Held W0 w.heap.size n a n cap (fun k => (g k : Nat))) := by rw [HW0.out]; exact Held.box hr
  have HBW : Hid (Below w.heap.size w W0) := by rw [HW0.out]; exact HW
  have HG : Hid (WOk n g) := hg
  have hc10 := cst_ten hg
  obtain ⟨c, HC⟩ : ∃ c, Hid (cst n g = c) := ⟨_, rfl⟩
  rw [HC.out] at hc10 ⊢
  clear hr HW hg
  go_enter Try.func11, Try.ntmps11
  go_wp2_with fail
  rw [← HW0.out]
  clear HW0
  go_loopw [3] (fun x wx => ∃ k : Nat, k ≤ c ∧ x = .int .i64 k ∧ Hid (Below W0.heap.size W0 wx)) (fun x _ => c + 1 - (intOf x).toNat)
  case atStart => exact ⟨0, Nat.zero_le _, rfl, Below.refl _ _⟩
  case round =>
    obtain ⟨k, hk, rfl, hB⟩ := hrel
    have hH := HK.out.step hB.out
    have c0 := hH.c0
    have c1 := hH.c1
    go_wp2_with fail
    refine (told_any k a cap g _ (by omega) HG.out hH.row).mono ?_
    rintro e w2 ⟨⟨v, rfl, hv⟩, hb2⟩
    have HB2 : Hid (Below W0.heap.size W0 w2) := Below.then hB.out hb2
    have HV : Hid (v = true ↔ c ≤ k) := by rw [← HC.out]; exact hv
    clear hv hb2 hB hH c0 c1
    cases v
    · have hlt : k < c := by
        rcases Nat.lt_or_ge k c with h | h
        · exact h
        · exact absurd (HV.out.2 h) (by decide)
      go_wp2_with fail
      go_roundw
      case rel => exact ⟨k + 1, by omega, by go_num, HB2⟩
      case measure => simp [intOf]; omega
    · obtain rfl : k = c := by have := HV.out.1 rfl; omega
      have HB3 : Hid (Below w.heap.size w w2) := Below.then HBW.out HB2.out
      go_wp2_with fail
      go_ret
      exact ⟨rfl, HB3.out⟩

theorem best_first {n : Nat} {g : Nat → Nat} (h : WOk n g) {k p q : Nat} (hc : cst n g = k + 1) (hpq : p < q) (hq : q < n) (h1 : ∀ x y, x < p → x < y → y < n → ¬ TP n g k x y) (h2 : ∀ y, p < y → y < q → ¬ TP n g k p y) (h3 : TP n g k p q) : (nx n g).a = p ∧ (nx n g).b = q := by
  obtain ⟨a1, a2, a3, a4, a5⟩ := nx_some h (by omega)
  have hT : TP n g k (nx n g).a (nx n g).b := by
    rw [a4] at hc; unfold beg at hc
    exact ⟨a3, by omega, by omega⟩
  have hge : ¬ (p < (nx n g).a ∨ (p = (nx n g).a ∧ q < (nx n g).b)) := fun hl => by
    have := a5 p q hpq hq h3.1 hl
    have h4 := h3.2.1; have h5 := h3.2.2
    unfold beg at this
    omega
  rcases Nat.lt_or_ge (nx n g).a p with h4 | h4
  · exact absurd hT (h1 _ _ h4 a1 a2)
  · have e : (nx n g).a = p := by omega
    refine ⟨e, ?_⟩
    rw [e] at hT a1 hge
    rcases Nat.lt_or_ge (nx n g).b q with h5 | h5
    · exact absurd hT (h2 _ a1 h5)
    · omega

set_option maxHeartbeats 4000000 in
theorem bestPair_any (n : Nat) (a : Option Addr) (cap : Nat) (g : Nat → Nat) (w : World) (hg : WOk n g) (hr : Row w a n (fun k => (g k : Nat))) :
    Calls Try.prog 15 #[.agg #[.int .i64 (n : Nat), .slice a n cap]] w fun e w' => e = .returned (.tuple #[.int .i64 ((nx n g).a : Nat), .int .i64 ((nx n g).b : Nat), .bool (decide (0 < cst n g))]) ∧ Below w.heap.size w w' := by
  have K0 : Held (w.alloc (.cells #[.int .i64 (n : Nat), .slice a n cap] 24)) w.heap.size n a n cap (fun k => (g k : Nat)) := Held.box hr
  have HB0 : Hid (Below w.heap.size w (w.alloc (.cells #[.int .i64 (n : Nat), .slice a n cap] 24))) := (Below.refl _ _).alloc (Nat.le_refl _) _
  have HG : Hid (WOk n g) := hg
  have HG1 : Hid (∀ k, k < n → g k < 1024) := fun k _ => Nat.lt_trans (hg.small k) (by decide)
  have h10 : n ≤ 10 := by have := hg.n5; omega
  have hc10 := cst_ten hg
  by_cases hc0 : cst n g = 0
  · have HN : Hid ((nx n g).a = 0 ∧ (nx n g).b = 0) := by show _ ∧ _; rw [nx_none hg hc0]; exact ⟨rfl, rfl⟩
    rw [HN.out.1, HN.out.2, hc0]
    have HC0 : Hid (cst n g = 0) := hc0
    clear hr hg hc0 hc10
    go_enter Try.func15, Try.ntmps15
    go_wp2_with fail
    refine (costOf_any n a cap g _ HG.out K0.row).mono ?_
    rintro e w1 ⟨rfl, hb⟩
    rw [HC0.out]
    have K1 := K0.step hb
    have c0 := K1.c0
    have HB1 : Hid (Below w.heap.size w w1) := Below.then HB0.out hb
    clear hb HB0 K0 K1
    go_wp2_with fail
    go_loopw [6] (fun x wx => x = .int .i64 0 ∧ wx = w1) (fun _ _ => 0)
    case atStart => exact ⟨rfl, rfl⟩
    case round =>
      obtain ⟨rfl, rfl⟩ := hrel
      by_cases h0 : 0 < n
      · have h0i : (0 : Int) < (n : Int) := by omega
        go_wp2_with fail
        go_ret3
        exact ⟨rfl, HB1.out⟩
      · have h0i : (n : Int) ≤ 0 := by omega
        go_wp2_with fail
        go_ret3
        exact ⟨rfl, HB1.out⟩
  · obtain ⟨k, HKK⟩ : ∃ k, Hid (cst n g = k + 1) := ⟨cst n g - 1, show _ = _ by omega⟩
    obtain ⟨c, HC⟩ : ∃ c, Hid (cst n g = c) := ⟨_, rfl⟩
    have hck : c = k + 1 := by rw [← HC.out]; exact HKK.out
    have hci : (c : Int) - 1 = (k : Int) := by omega
    have hcp : (0 : Int) < (c : Int) := by omega
    have hc20 : k ≤ 20 := by rw [HKK.out] at hc10; omega
    have HDT : Hid (decide (0 < cst n g) = true) := decide_eq_true (by omega)
    rw [HDT.out]
    have HEX : Hid (∃ x y, x < y ∧ y < n ∧ TP n g k x y) := by
      obtain ⟨a1, a2, a3, a4, _⟩ := nx_some hg hc0
      have h5 := HKK.out
      rw [a4] at h5; unfold beg at h5
      exact ⟨_, _, a1, a2, a3, by omega, by omega⟩
    obtain ⟨xa, HXA⟩ : ∃ x, Hid ((nx n g).a = x) := ⟨_, rfl⟩
    obtain ⟨xb, HXB⟩ : ∃ x, Hid ((nx n g).b = x) := ⟨_, rfl⟩
    rw [HXA.out, HXB.out]
    clear hr hg hc0 hc10 hck
    go_enter Try.func15, Try.ntmps15
    go_wp2_with fail
    refine (costOf_any n a cap g _ HG.out K0.row).mono ?_
    rintro e w1 ⟨rfl, hb⟩
    rw [HC.out]
    have K1 := K0.step hb
    have HB1 : Hid (Below w.heap.size w w1) := Below.then HB0.out hb
    have HRW : Hid (∀ wx, Below w1.heap.size w1 wx → Row wx a n (fun k => (g k : Nat))) := fun wx h => (K1.step h).row
    have HC0 : Hid (∀ wx, Below w1.heap.size w1 wx → wx.cell? ⟨w.heap.size, 0, none⟩ = some (.int .i64 (n : Nat))) := fun wx h => (K1.step h).c0
    have HC1 : Hid (∀ wx, Below w1.heap.size w1 wx → wx.cell? ⟨w.heap.size, 1, none⟩ = some (.slice a n cap)) := fun wx h => (K1.step h).c1
    clear hb HB0 K0 K1
    go_wp2_with fail
    go_loopw [6] (fun x wx => ∃ p : Nat, p ≤ n ∧ x = .int .i64 p ∧ Hid (∀ x y, x < p → x < y → y < n → ¬ TP n g k x y) ∧ Hid (Below w1.heap.size w1 wx)) (fun x _ => n - (intOf x).toNat)
    case atStart => exact ⟨0, Nat.zero_le _, rfl, fun x _ hx => absurd hx (Nat.not_lt_zero _), Below.refl _ _⟩
    case round =>
      obtain ⟨p, hp, rfl, hok, hB⟩ := hrel
      have c0 := HC0.out _ hB.out
      by_cases hpn : p < n
      · have hpni : (p : Int) < (n : Int) := by omega
        have hdec : decide (0 < c) = true := decide_eq_true (by omega)
        go_wp2_with fail
        clear c0 hdec
        go_loopw [7] (fun x wx => ∃ q : Nat, p + 1 ≤ q ∧ q ≤ n ∧ x = .int .i64 q ∧ Hid (∀ y, p < y → y < q → ¬ TP n g k p y) ∧ Hid (Below w1.heap.size w1 wx)) (fun x _ => n - (intOf x).toNat)
        case atStart => exact ⟨p + 1, Nat.le_refl _, by omega, by go_num, fun y h1 h2 => absurd h1 (by omega), hB⟩
        case round =>
          clear hB
          obtain ⟨q, hpq, hq, rfl, hoq, hB⟩ := hrel
          have c0 := HC0.out _ hB.out
          have c1 := HC1.out _ hB.out
          by_cases hqn : q < n
          · have hqni : (q : Int) < (n : Int) := by omega
            have hne : p ≠ q := by omega
            cases hop : opn g p q
            · have HA : Hid (apB g p q = false) := (apB_opn g p q).trans hop
              have HO2 : Hid (∀ y, p < y → y < q + 1 → ¬ TP n g k p y) := fun y h1 h2 => by
                by_cases e : y = q
                · subst e; rintro ⟨h3, _⟩; rw [hop] at h3; cases h3
                · exact hoq.out y h1 (by omega)
              clear hop
              go_wp2_with fail
              refine (apart_as n a cap g p q false _ HA.out h10 HG1.out (HRW.out _ hB.out) hpn hqn hne).mono ?_
              rintro e w2 ⟨rfl, hb2⟩
              have HB2 : Hid (Below w1.heap.size w1 w2) := Below.then hB.out hb2
              clear hb2 hB c0 c1
              go_wp2_with fail
              go_roundw
              case rel => exact ⟨q + 1, by omega, by omega, by go_num, HO2, HB2⟩
              case measure => simp [intOf]; omega
            · have HA : Hid (apB g p q = true) := (apB_opn g p q).trans hop
              have HOP : Hid (opn g p q = true) := hop
              have HOQ : Hid (opn g q p = true) := by rw [opn_comm]; exact hop
              clear hop
              go_wp2_with fail
              refine (apart_as n a cap g p q true _ HA.out h10 HG1.out (HRW.out _ hB.out) hpn hqn hne).mono ?_
              rintro e w2 ⟨rfl, hb2⟩
              have HB2 : Hid (Below w1.heap.size w1 w2) := Below.then hB.out hb2
              have d0 := HC0.out _ HB2.out
              have d1 := HC1.out _ HB2.out
              clear hb2 hB c0 c1
              go_wp2_with fail
              refine (also_any n a cap g p q _ HG.out (HRW.out _ HB2.out) hpn hqn hne HOP.out).mono ?_
              rintro e w3 ⟨⟨a3, cap3, rfl, hr3, _⟩, hb3⟩
              have HB3 : Hid (Below w1.heap.size w1 w3) := Below.then HB2.out hb3
              have HR3 : Hid (Row w3 a3 n (fun k => (wth g p q k : Nat))) := hr3
              clear hb3 hr3 d0 d1
              go_wp2_with fail
              refine (told_any k a3 cap3 (wth g p q) _ hc20 (HG.out.wth hpn hqn hne HOP.out) HR3.out).mono ?_
              rintro e w4 ⟨⟨v4, rfl, hv4⟩, hb4⟩
              have HB4 : Hid (Below w1.heap.size w1 w4) := Below.then HB3.out hb4
              have HV4 : Hid (v4 = true ↔ cst n (wth g p q) ≤ k) := hv4
              have d0 := HC0.out _ HB4.out
              have d1 := HC1.out _ HB4.out
              clear hb4 hv4 HR3
              cases v4
              · have HO2 : Hid (∀ y, p < y → y < q + 1 → ¬ TP n g k p y) := fun y h1 h2 => by
                  by_cases e : y = q
                  · subst e; rintro ⟨_, h3, _⟩; exact absurd (HV4.out.2 h3) (by decide)
                  · exact hoq.out y h1 (by omega)
                go_wp2_with fail
                go_roundw
                case rel => exact ⟨q + 1, by omega, by omega, by go_num, HO2, HB4⟩
                case measure => simp [intOf]; omega
              · have H4 : Hid (cst n (wth g p q) ≤ k) := HV4.out.1 rfl
                go_wp2_with fail
                refine (also_any n a cap g q p _ HG.out (HRW.out _ HB4.out) hqn hpn (Ne.symm hne) HOQ.out).mono ?_
                rintro e w5 ⟨⟨a5, cap5, rfl, hr5, _⟩, hb5⟩
                have HB5 : Hid (Below w1.heap.size w1 w5) := Below.then HB4.out hb5
                have HR5 : Hid (Row w5 a5 n (fun k => (wth g q p k : Nat))) := hr5
                clear hb5 hr5 d0 d1
                go_wp2_with fail
                refine (told_any k a5 cap5 (wth g q p) _ hc20 (HG.out.wth hqn hpn (Ne.symm hne) HOQ.out) HR5.out).mono ?_
                rintro e w6 ⟨⟨v6, rfl, hv6⟩, hb6⟩
                have HB6 : Hid (Below w1.heap.size w1 w6) := Below.then HB5.out hb6
                have HV6 : Hid (v6 = true ↔ cst n (wth g q p) ≤ k) := hv6
                clear hb6 hv6 HR5
                cases v6
                · have HO2 : Hid (∀ y, p < y → y < q + 1 → ¬ TP n g k p y) := fun y h1 h2 => by
                    by_cases e : y = q
                    · subst e; rintro ⟨_, _, h3⟩; exact absurd (HV6.out.2 h3) (by decide)
                    · exact hoq.out y h1 (by omega)
                  go_wp2_with fail
                  go_roundw
                  case rel => exact ⟨q + 1, by omega, by omega, by go_num, HO2, HB6⟩
                  case measure => simp [intOf]; omega
                · have HF := best_first HG.out HKK.out (by omega) hqn hok.out hoq.out ⟨HOP.out, H4.out, HV6.out.1 rfl⟩
                  rw [HXA.out, HXB.out] at HF
                  have HFa : Hid (xa = p) := HF.1
                  have HFb : Hid (xb = q) := HF.2
                  clear HF
                  have HB9 : Hid (Below w.heap.size w w6) := Below.then HB1.out HB6.out
                  go_wp2_with fail
                  go_ret3
                  exact ⟨by rw [HFa.out, HFb.out]; rfl, HB9.out⟩
          · obtain rfl : q = n := by omega
            have HO2 : Hid (∀ x y, x < p + 1 → x < y → y < q → ¬ TP q g k x y) := fun x y h1 h2 h3 => by
              by_cases e : x = p
              · subst e; exact hoq.out y h2 h3
              · exact hok.out x y (by omega) h2 h3
            go_wp2_with fail
            go_roundw
            case rel => exact ⟨p + 1, by omega, by go_num, HO2, hB⟩
            case measure => simp [intOf]; omega
      · obtain rfl : p = n := by omega
        exfalso
        obtain ⟨x, y, h1, h2, h3⟩ := HEX.out
        exact hok.out x y (by omega) h1 h2 h3

set_option maxHeartbeats 2000000 in
theorem weighed_any (n : Int) (a : Option Addr) (len cap : Nat) (f : Nat → Int) (w : World) (hl : len ≤ maxLen) (hr : Row w a len f) :
    Calls Try.prog 10 #[.agg #[.int .i64 n, .slice a len cap]] w fun e w' => (∃ c, e = .returned (.int .i64 c) ∧ WCk n len f c) ∧ Below w.heap.size w w' := by
  have K0 : Held (w.alloc (.cells #[.int .i64 n, .slice a len cap] 24)) w.heap.size n a len cap f := Held.box hr
  have HB0 : Hid (Below w.heap.size w (w.alloc (.cells #[.int .i64 n, .slice a len cap] 24))) := (Below.refl _ _).alloc (Nat.le_refl _) _
  clear hr
  go_enter Try.func10, Try.ntmps10
  go_wp2_with fail
  refine (checkOrder_any n a len cap f _ hl K0.row).mono ?_
  rintro e w1 ⟨⟨c, rfl, hc⟩, hb⟩
  have K1 := K0.step hb
  have k0 := K1.c0
  have HB1 : Hid (Below w.heap.size w w1) := Below.then HB0.out hb
  have HC : Hid (Chk n len f c) := hc
  clear hb K0 HB0 hc K1
  by_cases h0 : c = 0
  · subst h0
    obtain ⟨rfl, _, _, _⟩ := HC.out.good
    by_cases h5 : 5 < len
    · have h5i : (5 : Int) < (len : Int) := by omega
      go_wp2_with fail
      go_ret
      exact ⟨⟨2, rfl, .inr ⟨HC.out, .inl ⟨h5, rfl⟩⟩⟩, HB1.out⟩
    · have h5i : (len : Int) ≤ 5 := by omega
      go_wp2_with fail
      go_ret
      exact ⟨⟨0, rfl, .inr ⟨HC.out, .inr ⟨by omega, rfl⟩⟩⟩, HB1.out⟩
  · have hne : (c == 0) = false := by simpa using h0
    go_wp2_with fail
    go_ret
    exact ⟨⟨c, rfl, .inl ⟨h0, HC.out⟩⟩, HB1.out⟩
end Go.Proofs.Ytipgojoiakbaiaa
