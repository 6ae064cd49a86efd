/-
  A lattice whose tables lie there is one by Check; the lattice of two elements. No condition.
-/
import Derived.Test.YtfajgahofkcndaaDoorPair
import Derived.Test.YtfajgahofkcndaaDoorLChk
namespace Go.Proofs.YtfajgahofkcndaaDoor
open Go.RowKit

/-- A table as it comes in. -/
theorem Tb.rr {w : World} {b off n : Nat} {R : Nat → Nat × Nat × Nat} {m : Nat → Nat → Nat} (h : Tb w b off n R m) (hn : n ≤ maxLen) : RR w (some ⟨b, off, none⟩) n (fun x => (some ⟨(R x).1, (R x).2.1, none⟩, n, (R x).2.2)) (fun x y => (m x y : Nat)) :=
  fun k hk => ⟨b, off, rfl, (h k hk).1, hn, h.row hk⟩
theorem nat2_cast (m : Nat → Nat → Nat) : nat2 (fun x y => (m x y : Nat)) = m := by funext x y; simp [nat2]
theorem LCk.of {n : Nat} {SA SB : Nat → Option Addr × Nat × Nat} {m j : Nat → Nat → Nat} (h1 : 1 ≤ n) (h40 : n ≤ 40) (ha : ∀ x, x < n → (SA x).2.1 = n) (hb : ∀ x, x < n → (SB x).2.1 = n) (hL : Lat n m j) : LCk n n SA (fun x y => (m x y : Nat)) n SB (fun x y => (j x y : Nat)) 0 := by
  refine .inr ⟨⟨by omega, by omega⟩, .inr ⟨⟨⟨rfl, fun k hk => by rw [ha k hk]⟩, rfl, fun k hk => by rw [hb k hk]⟩, .inr ⟨⟨fun x hx y hy => ?_, fun x hx y hy => ?_⟩, .inr ⟨rfl, ?_, ?_⟩⟩⟩⟩
  · have := hL.im x y hx (by rw [ha x hx] at hy; exact hy); show 0 ≤ ((m x y : Nat) : Int) ∧ ((m x y : Nat) : Int) < (n : Int); omega
  · have := hL.ij x y hx (by rw [hb x hx] at hy; exact hy); show 0 ≤ ((j x y : Nat) : Int) ∧ ((j x y : Nat) : Int) < (n : Int); omega
  · rw [nat2_cast, nat2_cast]; exact hL.lm
  · rw [nat2_cast, nat2_cast]; exact hL.lj
theorem lat2 : Lat 2 (fun x y => min x y) (fun x y => max x y) := by
  refine ⟨fun x y hx hy => by omega, fun x y hx hy => by omega, lws_iff.2 fun x y z hx hy hz => ?_, lws_iff.2 fun x y z hx hy hz => ?_⟩ <;> refine ⟨by omega, by omega, by omega, by omega⟩
end Go.Proofs.YtfajgahofkcndaaDoor
