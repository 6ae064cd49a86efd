/-
  What space.Opens answers, whatever it is handed: the document's X1. No condition but that a slice reads as a slice of numbers.
-/
import Derived.Test.YtggngpnenbjidaaDoorPieQ
namespace Go.Proofs.YtggngpnenbjidaaDoor
open Go.RowKit

theorem nat_cast (x : Nat → Nat) : nat (fun k => ((x k : Nat) : Int)) = x := by funext k; simp [nat]
theorem chk_dual {n : Int} {len : Nat} {f : Nat → Int} (h : Chk n len f 0) : Chk (len : Int) len (fun k => ((trn (nat f) len k : Nat) : Int)) 0 := by
  obtain ⟨_, h10, hrng, hord⟩ := h.good
  refine .inr ⟨len, rfl, h10, .inr ⟨rfl, .inr ⟨fun k _ => ⟨Int.natCast_nonneg _, Int.ofNat_lt.2 (trn_lt (nat f) len k)⟩, .inr ⟨rfl, ?_⟩⟩⟩⟩
  rw [nat_cast]
  exact trn_ord h10 hrng.small hord
/-- The open sets of an order. -/
def opn (g : Nat → Nat) (n : Nat) : List Nat := idls (trn g n) n
def OpnPost (K : Nat) (n : Int) (len : Nat) (f : Nat → Int) (e : Ending) (w' : World) : Prop :=
  ∃ (c : Int) (v : Value), e = .returned (.tuple #[v, .int .i64 c]) ∧ Chk n len f c ∧ ((c ≠ 0 ∧ v = .slice none 0 0) ∨ (c = 0 ∧ NSl w' v (opn (nat f) len) ∧ NewV K v))

set_option maxHeartbeats 2000000 in
theorem opens_any (n : Int) (a : Option Addr) (len cap : Nat) (f : Nat → Int) (w : World) (hl : len ≤ maxLen) (hr : Row w a len f) :
    Calls Tryd.prog 9 #[.agg #[.int .i64 n, .slice a len cap]] w fun e w' => OpnPost w.heap.size n len f e w' ∧ Below w.heap.size w w' := by
  have HB0 : Hid (Below w.heap.size w (w.alloc (.cells #[.int .i64 n, .slice a len cap] 24))) := (Below.refl _ _).alloc (Nat.le_refl _) _
  have K0 : Hid (Held (w.alloc (.cells #[.int .i64 n, .slice a len cap] 24)) w.heap.size n a len cap f) := Held.box hr
  clear hr
  have k0 := K0.out.c0
  have k1 := K0.out.c1
  go_enter Tryd.func9, Tryd.ntmps9
  go_wp2_with fail
  refine (dual_any n a len cap f _ hl K0.out.row).mono ?_
  rintro e w1 ⟨⟨c, x, hc, rfl, hx⟩, hb1⟩
  have HB1 : Hid (Below w.heap.size w w1) := Below.then HB0.out hb1
  have HC : Hid (Chk n len f c) := hc
  clear hb1 HB0 K0 k0 k1
  rcases hx with ⟨h0, rfl⟩ | ⟨rfl, a', cap', rfl, hrow⟩
  · have hne : (c != 0) = true := by simpa using h0
    have H0 : Hid (c ≠ 0) := h0
    clear hc h0
    unfold noOrder
    go_wp2_with fail
    go_ret2
    exact ⟨⟨_, _, rfl, HC.out, .inl ⟨H0.out, rfl⟩⟩, (Below.then HB1.out ((Below.refl _ _).alloc (Nat.le_refl _) _))⟩
  · have hbx : Below w1.heap.size w1 (w1.alloc (.cells #[.int .i64 (len : Int), .slice a' len cap'] 24)) := (Below.refl _ _).alloc (Nat.le_refl _) _
    have HB2 : Hid (Below w.heap.size w (w1.alloc (.cells #[.int .i64 (len : Int), .slice a' len cap'] 24))) := Below.then HB1.out hbx
    have HD2 : Hid (Row (w1.alloc (.cells #[.int .i64 (len : Int), .slice a' len cap'] 24)) a' len (fun k => (trn (nat f) len k : Nat))) := hrow.below hbx
    clear hc hbx hrow
    go_wp2_with fail
    refine (ideals_any len a' len cap' _ _ hl HD2.out).mono ?_
    rintro e w3 ⟨⟨c, v, hc, rfl, hv⟩, hb3⟩
    obtain rfl : c = 0 := hc.unique (chk_dual HC.out)
    have HB3 : Hid (Below w.heap.size w w3) := Below.then HB2.out hb3
    have HF : Hid (OpnPost w.heap.size n len f (.returned (.tuple #[v, .int .i64 0])) w3) := by
      rcases hv with ⟨h, _⟩ | ⟨_, h1, h2⟩
      · exact absurd rfl h
      · rw [nat_cast] at h1
        exact ⟨0, v, rfl, HC.out, .inr ⟨rfl, h1, fun j hj => Nat.le_trans HB2.out.size (h2 j hj)⟩⟩
    clear hc hv hb3
    go_wp2_with fail
    go_ret2
    exact ⟨HF.out, HB3.out⟩
end Go.Proofs.YtggngpnenbjidaaDoor
