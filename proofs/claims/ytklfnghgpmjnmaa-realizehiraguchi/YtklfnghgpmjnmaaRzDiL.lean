/-
  What hasselaw.RealizeDimension answers: true. No condition but that a slice reads as a slice of numbers.
-/
import Derived.Test.YtklfnghgpmjnmaaApM
import Derived.Test.YtklfnghgpmjnmaaRzQ
import Derived.Test.YtklfnghgpmjnmaaRzH
namespace Go.Proofs.Ytklfnghgpmjnmaa
open Go.RowKit
set_option maxRecDepth 100000

theorem rz_one {g : Nat → Nat} {n : Nat} (hs : Srd n (ltU g n)) : RzS (· < n) (ltU g n) 1 ↔ ∀ p q, apt (ltU g n) n p q = false := by
  refine ⟨fun ⟨R, _, h⟩ p q => ?_, fun h => ?_⟩
  · cases e : apt (ltU g n) n p q
    · rfl
    · obtain ⟨hp, hq, hne, h1, h2⟩ := apt_iff.1 e
      obtain ⟨i, hi, e1⟩ := h p q hp hq hne h1
      obtain ⟨j, hj, e2⟩ := h q p hq hp (fun e => hne e.symm) h2
      obtain rfl : i = 0 := by omega
      obtain rfl : j = 0 := by omega
      omega
  · refine hs.chains (fun _ => 0) (fun _ _ => by omega) fun p q hp hq hne _ => ?_
    have h1 := h p q
    cases e1 : ltU g n p q
    · cases e2 : ltU g n q p
      · rw [apt_iff.2 ⟨hp, hq, hne, e1, e2⟩] at h1; cases h1
      · exact .inr rfl
    · exact .inl rfl
theorem dim_line {g : Nat → Nat} {n k : Nat} (hs : Srd n (ltU g n)) (h : Dim g n k) (hl : ∀ p q, apt (ltU g n) n p q = false) : k = 1 := by
  have := h.2.2 1 (by decide) ((rz_one hs).2 hl)
  have := h.1
  omega
theorem dim_two {g : Nat → Nat} {n k : Nat} (hs : Srd n (ltU g n)) (h : Dim g n k) (hl : ¬ ∀ p q, apt (ltU g n) n p q = false) (h2 : RzS (· < n) (ltU g n) 2) : k = 2 := by
  have h3 := h.2.2 2 (by decide) h2
  have h4 := h.1
  by_cases e : k = 1
  · subst e; exact absurd ((rz_one hs).1 h.2.1) hl
  · omega
theorem dim_three {g : Nat → Nat} {n k : Nat} (h7 : n ≤ 7) (hs : Srd n (ltU g n)) (h : Dim g n k) (h2 : ¬ RzS (· < n) (ltU g n) 2) : k = 3 := by
  have h3 := h.2.2 3 (by decide) (hs.hira h7).1
  by_cases e : k ≤ 2
  · exact absurd (h.2.1.more h.1 e) h2
  · omega
theorem Row.nat {w : World} {a : Option Addr} {len : Nat} {f : Nat → Int} (h : Row w a len f) (hf : ∀ k, k < len → 0 ≤ f k) : Row w a len (fun k => (nat f k : Nat)) := fun k hk => by
  obtain ⟨b, off, e, hc⟩ := h k hk
  refine ⟨b, off, e, hc.trans ?_⟩
  have : f k = ((Go.Proofs.Ytklfnghgpmjnmaa.nat f k : Nat) : Int) := by unfold Go.Proofs.Ytklfnghgpmjnmaa.nat; have := hf k hk; omega
  show _ = some (Value.int .i64 ((Go.Proofs.Ytklfnghgpmjnmaa.nat f k : Nat) : Int))
  rw [← this]
/-- What is known of an order in which nothing is wrong. -/
structure Sml (len : Nat) (f : Nat → Int) : Prop where
  h7 : len ≤ 7
  pos : ∀ k, k < len → 0 ≤ f k
  sm : Sm len len (nat f)
  lt : ∀ k, k < len → nat f k < 1024
  srd : Srd len (ltU (nat f) len)
  ord : Ord len (nat f)
theorem SCk.sml {n : Int} {len : Nat} {f : Nat → Int} (h : SCk n len f 0) : n = (len : Nat) ∧ Sml len f := by
  obtain ⟨e, h7, hck⟩ := h.good
  obtain ⟨_, h10, hrng, hord⟩ := hck.good
  have hsm : Sm len len (nat f) := fun k hk => by have := hrng k hk; show (f k).toNat < pw len; omega
  exact ⟨e, h7, fun k hk => (hrng k hk).1, hsm, fun k hk => Nat.lt_of_lt_of_le (hsm k hk) (pw_le len h10), ltU_srd h10 hsm hord, hord⟩
theorem Cov.said {len : Nat} {f : Nat → Int} (h : Sml len f) {l : List Nat} (hc : Cov (nat f) len l) (hl : 0 < l.length) (h10 : l.length ≤ 10) {T : Nat → Option Addr × Nat × Nat} (hT : ∀ i, i < l.length → (T i).2.1 = len) :
    Says (len : Nat) len f l.length T (fun i j => ((nP (nat f) len (ix l i) j : Nat) : Int)) := by
  have := h.h7
  refine ⟨.inr ⟨len, rfl, by omega, hl, h10, .inr ⟨rfl, fun i hi => ⟨hT i hi, nP_once (hc.1 _ (ix_mem hi))⟩⟩⟩, rfl, fun k hk => ?_⟩
  have hk : k < len := hk
  have e := hc.says h.h7 h.sm h.ord hl k hk
  show ((acc _ len _ k : Nat) : Int) = f k
  rw [e]
  unfold Go.Proofs.Ytklfnghgpmjnmaa.nat
  have := h.pos k hk
  omega
set_option maxHeartbeats 4000000 in
theorem realizeDimension_any (n : Int) (a : Option Addr) (len cap : Nat) (f : Nat → Int) (w : World) (hl : len ≤ maxLen) (hr : Row w a len f) :
    Calls Try.prog 4 #[.agg #[.int .i64 n, .slice a len cap]] w fun e w' => e = .returned (.bool true) ∧ Below w.heap.size w w' := by
  obtain ⟨W0, HW0⟩ : ∃ W0, Hid (W0 = w.alloc (.cells #[.int .i64 n, .slice a len cap] 25)) := ⟨_, rfl⟩
  have HBW : Hid (Below w.heap.size w W0) := by rw [HW0.out]; exact (Below.refl _ _).alloc (Nat.le_refl _) _
  have HK0 : Hid (Held W0 w.heap.size n a len cap f) := by rw [HW0.out]; exact Held.box hr
  have HK : Hid (∀ w', Below W0.heap.size W0 w' → Held w' w.heap.size n a len cap f) := fun w' hb => HK0.out.step hb
  clear hr
  go_enter Try.func4, Try.ntmps4
  go_wp2_with fail
  rw [← HW0.out]
  have c0 := HK0.out.c0
  have c1 := HK0.out.c1
  go_wp2_with fail
  refine (dim_any n a len cap f _ hl HK0.out.row).mono ?_
  rintro e w1 ⟨⟨c, hc, hv⟩, hb1⟩
  have HB1 : Hid (Below W0.heap.size W0 w1) := hb1
  have HC : Hid (SCk n len f c) := hc
  clear hb1 c0 c1 HW0 HK0 hc
  have c0 := (HK.out _ HB1.out).c0
  have c1 := (HK.out _ HB1.out).c1
  by_cases e0 : c = 0
  · subst e0
    obtain ⟨rfl, hsml⟩ := HC.out.sml
    have HM : Hid (Sml len f) := hsml
    clear hsml
    rcases hv with ⟨h, _⟩ | ⟨_, l, al, cl, T, hd, hcov, rfl, hrr, hT⟩
    · exact absurd rfl h
    have HD : Hid (Dim (nat f) len l.length) := hd
    have HRR : Hid (RR w1 al l.length T (fun i j => ((nP (nat f) len (ix l i) j : Nat) : Int))) := hrr
    have HL3 : Hid (l.length ≤ 3) := hd.2.2 3 (by decide) (HM.out.srd.hira HM.out.h7).1
    have HSY : Hid (Says (len : Nat) len f l.length T (fun i j => ((nP (nat f) len (ix l i) j : Nat) : Int))) := hcov.said HM.out hd.1 (by have := HL3.out; omega) hT
    clear hd hcov hrr hT
    go_wp2_with fail
    refine (checkSmall_any (len : Nat) a len cap f _ hl (HK.out _ HB1.out).row).mono ?_
    rintro e w2 ⟨⟨c', rfl, hc'⟩, hb2⟩
    obtain rfl := hc'.one HC.out
    have HB2 : Hid (Below w1.heap.size w1 w2) := hb2
    clear hb2 hc' c0 c1
    go_wp2_with fail
    refine (realizeBegun_any _).mono ?_
    rintro e w3 ⟨rfl, hb3⟩
    have HB3 : Hid (Below w1.heap.size w1 w3) := Below.then HB2.out hb3
    clear hb3 HB2
    have c0 := (HK.out _ (Below.then HB1.out HB3.out)).c0
    have c1 := (HK.out _ (Below.then HB1.out HB3.out)).c1
    go_wp2_with fail
    refine (hasTurned_any len a cap (nat f) _ (Nat.le_trans HM.out.h7 (by decide)) HM.out.lt ((HK.out _ (Below.then HB1.out HB3.out)).row.nat HM.out.pos) HM.out.srd).mono ?_
    rintro e w4 ⟨⟨v, rfl, hv⟩, hb4⟩
    have HB4 : Hid (Below w1.heap.size w1 w4) := Below.then HB3.out hb4
    have HV : Hid (v = true ↔ RzS (· < len) (ltU (nat f) len) 2) := hv
    clear hb4 HB3 hv c0 c1
    have c0 := (HK.out _ (Below.then HB1.out HB4.out)).c0
    have c1 := (HK.out _ (Below.then HB1.out HB4.out)).c1
    have HFIN : Hid (∀ (x : Bool) (w5 : World), (x = true ↔ ∀ p q, apt (ltU (nat f) len) len p q = false) → ((l.length : Nat) : Int) = if x = true then 1 else if v = true then 2 else 3) := fun x _ hx => by
      by_cases ex : x = true
      · rw [if_pos ex, dim_line HM.out.srd HD.out (hx.1 ex)]; rfl
      · rw [if_neg ex]
        by_cases ev : v = true
        · rw [if_pos ev, dim_two HM.out.srd HD.out (fun h => ex (hx.2 h)) (HV.out.1 ev)]; rfl
        · rw [if_neg ev, dim_three HM.out.h7 HM.out.srd HD.out (fun h => ev (HV.out.2 h))]; rfl
    clear HD
    obtain ⟨Ln, HLn⟩ : ∃ Ln : Nat, Hid (Ln = l.length) := ⟨_, rfl⟩
    rw [← HLn.out] at HFIN HSY HRR HL3 ⊢
    have hL3 := HL3.out
    cases v
    all_goals
      go_wp2_with fail
      refine (isLine_any len a cap (nat f) _ (Nat.le_trans HM.out.h7 (by decide)) HM.out.lt ((HK.out _ (Below.then HB1.out HB4.out)).row.nat HM.out.pos)).mono ?_
      rintro e w5 ⟨⟨x, rfl, hx⟩, hb5⟩
      have HB5 : Hid (Below w1.heap.size w1 w5) := Below.then HB4.out hb5
      have hN := HFIN.out x w5 hx
      clear hb5 hx c0 c1 HFIN
      have c0 := (HK.out _ (Below.then HB1.out HB5.out)).c0
      have c1 := (HK.out _ (Below.then HB1.out HB5.out)).c1
      cases x
      all_goals
        simp only [if_true, if_false, Bool.false_eq_true] at hN
        rw [hN]
        go_wp2_with fail
        refine (said_any (len : Nat) a len cap f al Ln cl T _ _ hl (HK.out _ (Below.then HB1.out HB5.out)).row (by unfold maxLen; omega) (HRR.out.below HB5.out)).mono ?_
        rintro e w6 ⟨⟨y, rfl, hy⟩, hb6⟩
        obtain rfl : y = true := hy.2 HSY.out
        have HB6 : Hid (Below w.heap.size w w6) := Below.then HBW.out (Below.then HB1.out (Below.then HB5.out hb6))
        clear hb6 hy
        go_wp2_with fail
        go_ret
        exact ⟨rfl, HB6.out⟩
  · rcases hv with ⟨_, rfl⟩ | ⟨h, _⟩
    · have h0 : (c != 0) = true := by simpa using e0
      have h1 : (c != c) = false := by simp
      have h2 : (c == c) = true := by simp
      go_wp2_with fail
      refine (checkSmall_any n a len cap f _ hl (HK.out _ HB1.out).row).mono ?_
      rintro e w2 ⟨⟨c', rfl, hc'⟩, hb2⟩
      obtain rfl := hc'.one HC.out
      have HB2 : Hid (Below w1.heap.size w1 w2) := hb2
      clear hb2 hc' c0 c1
      go_wp2_with fail
      refine (realizeBegun_any _).mono ?_
      rintro e w3 ⟨rfl, hb3⟩
      have HB3 : Hid (Below w1.heap.size w1 w3) := Below.then HB2.out hb3
      clear hb3 HB2
      go_wp2_with fail
      refine (realizeBegun_any _).mono ?_
      rintro e w4 ⟨rfl, hb4⟩
      have HB4 : Hid (Below w.heap.size w w4) := Below.then HBW.out (Below.then HB1.out (Below.then HB3.out hb4))
      clear hb4 HB3
      go_wp2_with fail
      go_ret
      exact ⟨rfl, HB4.out⟩
    · exact absurd h e0
end Go.Proofs.Ytklfnghgpmjnmaa
