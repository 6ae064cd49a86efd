/-
  What match.Best and the reference's Deficit answer. No condition but that a slice reads as a slice of numbers.
-/
import Derived.Test.YtadocffdneiaaaaDoorMKoenM
namespace Go.Proofs.YtadocffdneiaaaaDoor
open Go.RowKit

theorem dfc_small (t : Nat → Nat) (l k : Nat) : maxTo (lk1 t l) k ≤ 10 := (maxTo_le_iff _ _ _).2 fun s _ => by
  have := pc_le s
  unfold lk1; omega

theorem wrap_i64_int (n : Int) (h0 : -1000000 ≤ n) (h1 : n ≤ 1000000) : IntKind.i64.wrap n = n := by
  simp [IntKind.wrap, IntKind.bits, IntKind.signed]; omega

/-- What comes with a code: of each on the left who goes with it, or nothing. -/
def BestPost (L R : Int) (len : Nat) (f : Nat → Int) (e : Ending) (w' : World) : Prop :=
  ∃ (c : Int) (v : Value), GChk L R len f c ∧ e = .returned (.tuple #[v, .int .i64 c]) ∧ ((c ≠ 0 ∧ v = .slice none 0 0) ∨ (c = 0 ∧ ∃ b G, v = .slice (some ⟨b, 0, none⟩) len len ∧ Row w' (some ⟨b, 0, none⟩) len G ∧ Mates (nat f) len R.toNat G))
theorem best2_any (L R : Int) (a : Option Addr) (len cap : Nat) (f : Nat → Int) (w : World) (hl : len ≤ maxLen) (hr : Row w a len f) :
    Calls Tryd.prog 16 #[.agg #[.int .i64 L, .int .i64 R, .slice a len cap]] w fun e w' => BestPost L R len f e w' ∧ Below w.heap.size w w' := by
  have K0 : GHeld (w.alloc (.cells #[.int .i64 L, .int .i64 R, .slice a len cap] 43)) w.heap.size L R a len cap f := GHeld.box hr
  have HB0 : Hid (Below w.heap.size w (w.alloc (.cells #[.int .i64 L, .int .i64 R, .slice a len cap] 43))) := (Below.refl _ _).alloc (Nat.le_refl _) _
  clear hr
  go_enter Tryd.func16, Tryd.ntmps16
  go_wp2_with fail
  refine (mcheck_any L R a len cap f _ hl K0.row).mono ?_
  rintro e w1 ⟨⟨c, rfl, hc⟩, hb⟩
  have K1 := K0.step hb
  have HB1 : Hid (Below w.heap.size w w1) := Below.then HB0.out hb
  clear hb K0 HB0
  by_cases h0 : c = 0
  · subst h0
    obtain ⟨r, rfl, rfl, h10, hr10, hrng⟩ := hc.good
    have HC : Hid (GChk (len : Int) (r : Int) len f 0) := hc
    have k0 := K1.c0
    have k1 := K1.c1
    have k2 := K1.c2
    go_wp2_with fail
    refine (best_any len r a cap (nat f) _ h10 hr10 hrng.small (hrng.row K1.row)).mono ?_
    rintro e w2 ⟨⟨b, G, rfl, hrow, hm⟩, hb2⟩
    have HRW : Hid (Row w2 (some ⟨b, 0, none⟩) len G) := hrow
    have HM : Hid (Mates (nat f) len ((r : Int)).toNat G) := by rw [Int.toNat_natCast]; exact hm
    have HB2 : Hid (Below w.heap.size w w2) := Below.then HB1.out hb2
    clear hb2 HB1 K1 k0 k1 k2 hc hrow hm
    go_wp2_with fail
    go_ret2
    exact ⟨⟨0, _, HC.out, rfl, .inr ⟨rfl, b, G, rfl, HRW.out, HM.out⟩⟩, HB2.out⟩
  · have hne : (c != 0) = true := by simpa using h0
    have HC : Hid (GChk L R len f c) := hc
    clear hc
    go_wp2_with fail
    go_ret2
    exact ⟨⟨c, _, HC.out, rfl, .inl ⟨h0, rfl⟩⟩, HB1.out⟩
end Go.Proofs.YtadocffdneiaaaaDoor
