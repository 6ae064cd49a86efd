/-
  What level.Levels and level.Heights answer; what hasselaw.numbersAre answers; that hasselaw.levelBegun answers true. No condition but that a slice reads as a slice of numbers.
-/
import Derived.Test.YtomoodpgmkjacaaPeel
import Derived.Test.YtomoodpgmkjacaaRefLevels
namespace Go.Proofs.Ytomoodpgmkjacaa
open Go.RowKit

theorem numbersAre_any (c : Int) (l : List Nat) (v v' : Value) (w : World) (hl : l.length ≤ maxLen) (h1 : (c ≠ 0 ∧ v = .slice none 0 0 ∧ v' = .slice none 0 0) ∨ (c = 0 ∧ NSl w v l ∧ NSl w v' l)) :
    Calls Try.prog 16 #[v, .int .i64 c, .int .i64 c, v'] w fun e w' => e = .returned (.bool true) ∧ Below w.heap.size w w' := by
  rcases h1 with ⟨h0, rfl, rfl⟩ | ⟨rfl, ⟨a, ca, rfl, hr⟩, ⟨b, cb, rfl, hr'⟩⟩
  · have hne : (c != 0) = true := by simpa using h0
    go_enter Try.func16, Try.ntmps16
    go_wp2_with fail
    refine (same_any none none 0 0 0 0 (fun _ => 0) (fun _ => 0) _ (by unfold maxLen; omega) (by unfold maxLen; omega) (fun k hk => absurd hk (Nat.not_lt_zero _)) (fun k hk => absurd hk (Nat.not_lt_zero _))).mono ?_
    rintro e w1 ⟨⟨q, rfl, hq⟩, hB⟩
    obtain rfl : q = true := hq.2 ⟨rfl, fun _ _ => rfl⟩
    have HB : Hid (Below w.heap.size w w1) := hB
    clear hq hB
    go_wp2_with fail
    go_ret
    exact ⟨rfl, HB.out⟩
  · generalize l.length = m at *
    have HA : Hid (Row w a m (fun k => (nth l k : Nat))) := hr
    have HB' : Hid (Row w b m (fun k => (nth l k : Nat))) := hr'
    clear hr hr'
    go_enter Try.func16, Try.ntmps16
    go_wp2_with fail
    refine (same_any a b m ca m cb (fun k => (nth l k : Nat)) (fun k => (nth l k : Nat)) _ hl hl HA.out HB'.out).mono ?_
    rintro e w1 ⟨⟨q, rfl, hq⟩, hB⟩
    obtain rfl : q = true := hq.2 ⟨rfl, fun _ _ => rfl⟩
    have HB : Hid (Below w.heap.size w w1) := hB
    clear hq hB
    go_wp2_with fail
    go_ret
    exact ⟨rfl, HB.out⟩

theorem NSl.below {w w' : World} {v : Value} {l : List Nat} (h : NSl w v l) (hb : Below w.heap.size w w') : NSl w' v l := by
  obtain ⟨a, cap, rfl, hr⟩ := h
  exact ⟨a, cap, rfl, hr.below hb⟩
/-- What comes with a code: a list, or nothing. -/
def ListPost (L : (Nat → Nat) → Nat → List Nat) (n : Int) (len : Nat) (f : Nat → Int) (e : Ending) (w' : World) : Prop :=
  ∃ (c : Int) (v : Value), Chk n len f c ∧ e = .returned (.tuple #[v, .int .i64 c]) ∧ ((c ≠ 0 ∧ v = .slice none 0 0) ∨ (c = 0 ∧ NSl w' v (L (nat f) len)))

theorem levels_any (n : Int) (a : Option Addr) (len cap : Nat) (f : Nat → Int) (w : World) (hl : len ≤ maxLen) (hr : Row w a len f) :
    Calls Try.prog 41 #[.agg #[.int .i64 n, .slice a len cap]] w fun e w' => ListPost levs n len f e w' ∧ Below w.heap.size w w' := by
  have K0 : Held (w.alloc (.cells #[.int .i64 n, .slice a len cap] 29)) w.heap.size n a len cap f := Held.box hr
  have HB0 : Hid (Below w.heap.size w (w.alloc (.cells #[.int .i64 n, .slice a len cap] 29))) := (Below.refl _ _).alloc (Nat.le_refl _) _
  clear hr
  go_enter Try.func41, Try.ntmps41
  go_wp2_with fail
  refine (check_any n a len cap f _ hl K0.row).mono ?_
  rintro e w1 ⟨⟨c, rfl, hc⟩, hb⟩
  have K1 := K0.step hb
  have HB1 : Hid (Below w.heap.size w w1) := Below.then HB0.out hb
  clear hb K0 HB0
  by_cases h0 : c = 0
  · subst h0
    obtain ⟨rfl, h10, hrng, hord⟩ := hc.good
    have HC : Hid (Chk (len : Int) len f 0) := hc
    have k0 := K1.c0
    have k1 := K1.c1
    go_wp2_with fail
    refine (peel_any len a cap (nat f) _ h10 hrng.small hord (hrng.row K1.row)).mono ?_
    rintro e w2 ⟨⟨v, rfl, hv⟩, hb2⟩
    have HV : Hid (NSl w2 v (levs (nat f) len)) := hv
    have HB2 : Hid (Below w.heap.size w w2) := Below.then HB1.out hb2
    clear hb2 HB1 K1 k0 k1 hc hv
    go_wp2_with fail
    go_ret2
    exact ⟨⟨0, _, HC.out, rfl, .inr ⟨rfl, HV.out⟩⟩, HB2.out⟩
  · have hne : (c != 0) = true := by simpa using h0
    have HC : Hid (Chk n len f c) := hc
    clear hc
    go_wp2_with fail
    go_ret2
    exact ⟨⟨c, _, HC.out, rfl, .inl ⟨h0, rfl⟩⟩, HB1.out⟩
end Go.Proofs.Ytomoodpgmkjacaa
