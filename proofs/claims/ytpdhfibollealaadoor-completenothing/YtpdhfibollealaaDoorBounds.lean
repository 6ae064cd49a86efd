/-
  What complete.Lower, Upper and cut answer. Conditions: none of Lower and Upper but that a slice reads as a slice of numbers; of cut an order and its dual.
-/
import Derived.Test.YtpdhfibollealaaDoorLower
import Derived.Test.YtpdhfibollealaaDoorCutO
namespace Go.Proofs.YtpdhfibollealaaDoor
open Go.RowKit

/-- What the errno must be for an order and a set. -/
def SCk (n : Int) (len : Nat) (f : Nat → Int) (s : Int) (c : Int) : Prop :=
  (c ≠ 0 ∧ Chk n len f c) ∨ (Chk n len f 0 ∧ ((c = 3 ∧ sts s len = false) ∨ (c = 0 ∧ sts s len = true)))
theorem SCk.unique {n : Int} {len : Nat} {f : Nat → Int} {s : Int} {c c' : Int} (h : SCk n len f s c) (h' : SCk n len f s c') : c = c' := by
  rcases h with ⟨h0, h⟩ | ⟨h, k⟩
  · rcases h' with ⟨_, h'⟩ | ⟨h', _⟩
    · exact h.unique h'
    · exact absurd (h.unique h') h0
  · rcases h' with ⟨h0, h'⟩ | ⟨_, k'⟩
    · exact absurd (h'.unique h) h0
    · rcases k with ⟨rfl, k⟩ | ⟨rfl, k⟩ <;> rcases k' with ⟨rfl, k'⟩ | ⟨rfl, k'⟩ <;> first | rfl | (rw [k] at k'; cases k')
/-- What a call answers that hands back a number and an errno. -/
def NumPost (c : Int) (x : Nat) (e : Ending) : Prop := ∃ v : Int, e = .returned (.tuple #[.int .i64 v, .int .i64 c]) ∧ ((c ≠ 0 ∧ v = 0) ∨ (c = 0 ∧ v = (x : Nat)))
theorem sts_nat {s : Int} {n : Nat} (h : sts s n = true) : ∃ k : Nat, s = k ∧ k < pw n := by
  simp only [sts, decide_eq_true_eq] at h
  exact ⟨s.toNat, by omega, by omega⟩

set_option maxHeartbeats 1000000 in
theorem lowerX_any (n : Int) (a : Option Addr) (len cap : Nat) (f : Nat → Int) (s : Int) (w : World) (hl : len ≤ maxLen) (hr : Row w a len f) :
    Calls Tryd.prog 11 #[.agg #[.int .i64 n, .slice a len cap], .int .i64 s] w fun e w' => (∃ c, SCk n len f s c ∧ NumPost c (low (nat f) len s.toNat) e) ∧ Below w.heap.size w w' := by
  have K0 : Held (w.alloc (.cells #[.int .i64 n, .slice a len cap] 24)) w.heap.size n a len cap f := Held.box hr
  have HB0 : Hid (Below w.heap.size w (w.alloc (.cells #[.int .i64 n, .slice a len cap] 24))) := (Below.refl _ _).alloc (Nat.le_refl _) _
  clear hr
  go_enter Tryd.func11, Tryd.ntmps11
  go_wp2_with fail
  refine (check_any n a len cap f _ hl K0.row).mono ?_
  rintro e w1 ⟨⟨c, rfl, hc⟩, hb⟩
  have K1 := K0.step hb
  have k0 := K1.c0
  have k1 := K1.c1
  have HB1 : Hid (Below w.heap.size w w1) := Below.then HB0.out hb
  clear hb K0 HB0
  by_cases h0 : c = 0
  · subst h0
    obtain ⟨rfl, h10, hrng, _⟩ := hc.good
    have HC : Hid (Chk (len : Int) len f 0) := hc
    have HK : Hid (Held w1 w.heap.size (len : Int) a len cap f) := K1
    clear hc K1
    rcases (Bool.eq_false_or_eq_true (sts s len)).symm with hs | hs
    · go_wp2_with (go_at_call 22; refine (isSet_any s len _ h10).mono ?_; rintro e w' ⟨rfl, rfl⟩; rw [hs])
      go_ret2
      exact ⟨⟨3, .inr ⟨HC.out, .inl ⟨rfl, hs⟩⟩, _, rfl, .inl ⟨by decide, rfl⟩⟩, HB1.out⟩
    · obtain ⟨t, rfl, ht⟩ := sts_nat hs
      have HS : Hid (sts ((t : Nat) : Int) len = true) := hs
      have ht2 : t < 1024 := Nat.lt_of_lt_of_le ht (pw_le len h10)
      go_wp2_with (go_at_call 22; refine (isSet_any t len _ h10).mono ?_; rintro e w' ⟨rfl, rfl⟩; rw [HS.out])
      refine (lower_any a len cap (nat f) t _ h10 (hrng.small2 h10) (hrng.row HK.out.row) ht2).mono ?_
      rintro e w2 ⟨rfl, hb2⟩
      have HB2 : Hid (Below w.heap.size w w2) := Below.then HB1.out hb2
      clear hb2 HB1
      go_wp2_with fail
      go_ret2
      exact ⟨⟨0, .inr ⟨HC.out, .inr ⟨rfl, HS.out⟩⟩, _, rfl, .inr ⟨rfl, rfl⟩⟩, HB2.out⟩
  · have hne : (c != 0) = true := by simpa using h0
    have HC : Hid (Chk n len f c) := hc
    clear hc
    go_wp2_with fail
    go_ret2
    exact ⟨⟨c, .inl ⟨h0, HC.out⟩, _, rfl, .inl ⟨h0, rfl⟩⟩, HB1.out⟩

set_option maxHeartbeats 1000000 in
theorem upperX_any (n : Int) (a : Option Addr) (len cap : Nat) (f : Nat → Int) (s : Int) (w : World) (hl : len ≤ maxLen) (hr : Row w a len f) :
    Calls Tryd.prog 9 #[.agg #[.int .i64 n, .slice a len cap], .int .i64 s] w fun e w' => (∃ c, SCk n len f s c ∧ NumPost c (low (trn (nat f) len) len s.toNat) e) ∧ Below w.heap.size w w' := by
  have K0 : Held (w.alloc (.cells #[.int .i64 n, .slice a len cap] 24)) w.heap.size n a len cap f := Held.box hr
  have HB0 : Hid (Below w.heap.size w (w.alloc (.cells #[.int .i64 n, .slice a len cap] 24))) := (Below.refl _ _).alloc (Nat.le_refl _) _
  clear hr
  go_enter Tryd.func9, Tryd.ntmps9
  go_wp2_with fail
  refine (dual_any n a len cap f _ hl K0.row).mono ?_
  rintro e w1 ⟨⟨c, x, hc, rfl, hx⟩, hb⟩
  have HB1 : Hid (Below w.heap.size w w1) := Below.then HB0.out hb
  clear hb K0 HB0
  rcases hx with ⟨h0, rfl⟩ | ⟨rfl, a', cap', rfl, hr'⟩
  · have hne : (c != 0) = true := by simpa using h0
    have HC : Hid (Chk n len f c) := hc
    clear hc
    unfold noOrder
    go_wp2_with fail
    go_ret2
    exact ⟨⟨c, .inl ⟨h0, HC.out⟩, _, rfl, .inl ⟨h0, rfl⟩⟩, (HB1.out.alloc HB1.out.size _)⟩
  · obtain ⟨rfl, h10, hrng, ho⟩ := hc.good
    have HC : Hid (Chk (len : Int) len f 0) := hc
    have HD : Hid (Chk (len : Int) len (fun k => ((trn (nat f) len k : Nat) : Int)) 0) := trn_chk h10 hrng.small ho
    have HR : Hid (Row w1 a' len (fun k => ((trn (nat f) len k : Nat) : Int))) := hr'
    clear hc hr' ho hrng
    go_wp2_with fail
    refine (lowerX_any len a' len cap' (fun k => ((trn (nat f) len k : Nat) : Int)) s _ hl (HR.out.below ((Below.refl _ _).alloc (Nat.le_refl _) _))).mono ?_
    rintro e w2 ⟨⟨c', hc', v, rfl, hv⟩, hb2⟩
    have HS : Hid (SCk len len f s c') := by
      rcases hc' with ⟨h0, h⟩ | ⟨_, h⟩
      · exact absurd (h.unique HD.out) h0
      · exact .inr ⟨HC.out, h⟩
    have HV : Hid ((c' ≠ 0 ∧ v = 0) ∨ (c' = 0 ∧ v = ((low (trn (nat f) len) len s.toNat : Nat) : Int))) := by
      rw [show nat (fun k => ((trn (nat f) len k : Nat) : Int)) = trn (nat f) len from by funext k; simp [nat]] at hv
      exact hv
    have HB2 : Hid (Below w.heap.size w w2) := Below.then (HB1.out.alloc HB1.out.size _) hb2
    clear hc' hv hb2 HB1
    go_wp2_with fail
    go_ret2
    exact ⟨⟨c', HS.out, v, rfl, HV.out⟩, HB2.out⟩
end Go.Proofs.YtpdhfibollealaaDoor
