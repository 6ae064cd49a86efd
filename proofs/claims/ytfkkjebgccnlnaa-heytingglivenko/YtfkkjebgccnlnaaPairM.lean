/-
  What hasselaw.pair answers: the lattice of two elements. No condition.
  A lattice whose tables lie there is one by Check; the lattice of two elements. No condition.
-/
import Derived.Test.YtfkkjebgccnlnaaIrr
import Derived.Test.YtfkkjebgccnlnaaLChk
namespace Go.Proofs.Ytfkkjebgccnlnaa
set_option maxRecDepth 100000
open Go.RowKit

theorem Tb.row {w : World} {b off n : Nat} {R : Nat → Nat × Nat × Nat} {m : Nat → Nat → Nat} (h : Tb w b off n R m) {x : Nat} (hx : x < n) : Row w (some ⟨(R x).1, (R x).2.1, none⟩) n (fun y => (m x y : Nat)) :=
  fun y hy => ⟨_, _, rfl, (h x hx).2 y hy⟩

/-- The lattice of two elements lies there. -/
def PairIs (x : Value) (w : World) : Prop := ∃ b b' R R', x = .agg #[.int .i64 2, .slice (some ⟨b, 0, none⟩) 2 2, .slice (some ⟨b', 0, none⟩) 2 2] ∧ Tb w b 0 2 R (fun x y => min x y) ∧ Tb w b' 0 2 R' (fun x y => max x y)
def pairW (w : World) : World :=
  ((((((w.alloc (.cells #[.int .i64 2, .slice (some ⟨w.heap.size + 1 + 1 + 1, 0, none⟩) 2 2, .slice (some ⟨w.heap.size + 1 + 1 + 1 + 1 + 1 + 1, 0, none⟩) 2 2] 24)).alloc (.cells #[.int .i64 0, .int .i64 0] 3)).alloc (.cells #[.int .i64 0, .int .i64 1] 3)).alloc
    (.cells #[.slice (some ⟨w.heap.size + 1, 0, none⟩) 2 2, .slice (some ⟨w.heap.size + 1 + 1, 0, none⟩) 2 2] 37)).alloc (.cells #[.int .i64 0, .int .i64 1] 3)).alloc (.cells #[.int .i64 1, .int .i64 1] 3)).alloc
    (.cells #[.slice (some ⟨w.heap.size + 1 + 1 + 1 + 1, 0, none⟩) 2 2, .slice (some ⟨w.heap.size + 1 + 1 + 1 + 1 + 1, 0, none⟩) 2 2] 37)
set_option maxHeartbeats 2000000 in
theorem pair_any (w : World) : Calls Try.prog 6 #[] w fun e w' => (∃ x, e = .returned x ∧ PairIs x w') ∧ Below w.heap.size w w' := by
  have HB : Hid (Below w.heap.size w (pairW w)) := by
    unfold pairW
    refine ((((((((Below.refl _ _).alloc (Nat.le_refl _) _).alloc ?_ _).alloc ?_ _).alloc ?_ _).alloc ?_ _).alloc ?_ _).alloc ?_ _) <;> simp <;> omega
  have HP : Hid (PairIs (.agg #[.int .i64 2, .slice (some ⟨w.heap.size + 1 + 1 + 1, 0, none⟩) 2 2, .slice (some ⟨w.heap.size + 1 + 1 + 1 + 1 + 1 + 1, 0, none⟩) 2 2]) (pairW w)) := by
    refine ⟨_, _, fun x => if x = 0 then (w.heap.size + 1, 0, 2) else (w.heap.size + 1 + 1, 0, 2), fun x => if x = 0 then (w.heap.size + 1 + 1 + 1 + 1, 0, 2) else (w.heap.size + 1 + 1 + 1 + 1 + 1, 0, 2), rfl, fun x hx => ?_, fun x hx => ?_⟩
    · rcases (by omega : x = 0 ∨ x = 1) with rfl | rfl
      · refine ⟨by simp [pairW, go_sem], fun y hy => ?_⟩
        rcases (by omega : y = 0 ∨ y = 1) with rfl | rfl <;> simp [pairW, go_sem]
      · refine ⟨by simp [pairW, go_sem], fun y hy => ?_⟩
        rcases (by omega : y = 0 ∨ y = 1) with rfl | rfl <;> simp [pairW, go_sem]
    · rcases (by omega : x = 0 ∨ x = 1) with rfl | rfl
      · refine ⟨by simp [pairW, go_sem], fun y hy => ?_⟩
        rcases (by omega : y = 0 ∨ y = 1) with rfl | rfl <;> simp [pairW, go_sem]
      · refine ⟨by simp [pairW, go_sem], fun y hy => ?_⟩
        rcases (by omega : y = 0 ∨ y = 1) with rfl | rfl <;> simp [pairW, go_sem]
  go_enter Try.func6, Try.ntmps6
  go_wp2_with fail
  exact bodyPost_ret (v := .agg #[.int .i64 2, .slice (some ⟨w.heap.size + 1 + 1 + 1, 0, none⟩) 2 2, .slice (some ⟨w.heap.size + 1 + 1 + 1 + 1 + 1 + 1, 0, none⟩) 2 2]) (by simp [results, Try.results6, go_sem]) rfl ⟨⟨_, rfl, HP.out⟩, HB.out⟩
end Go.Proofs.Ytfkkjebgccnlnaa
namespace Go.Proofs.Ytfkkjebgccnlnaa
set_option maxRecDepth 100000
open Go.RowKit

/-- A table as it comes in. -/
theorem Tb.rr {w : World} {b off n : Nat} {R : Nat → Nat × Nat × Nat} {m : Nat → Nat → Nat} (h : Tb w b off n R m) (hn : n ≤ maxLen) : RR w (some ⟨b, off, none⟩) n (fun x => (some ⟨(R x).1, (R x).2.1, none⟩, n, (R x).2.2)) (fun x y => (m x y : Nat)) :=
  fun k hk => ⟨b, off, rfl, (h k hk).1, hn, h.row hk⟩
theorem nat2_cast (m : Nat → Nat → Nat) : nat2 (fun x y => (m x y : Nat)) = m := by funext x y; simp [nat2]
theorem LCk.of {n : Nat} {SA SB : Nat → Option Addr × Nat × Nat} {m j : Nat → Nat → Nat} (h1 : 1 ≤ n) (h40 : n ≤ 40) (ha : ∀ x, x < n → (SA x).2.1 = n) (hb : ∀ x, x < n → (SB x).2.1 = n) (hL : Lat n m j) : LCk n n SA (fun x y => (m x y : Nat)) n SB (fun x y => (j x y : Nat)) 0 := by
  refine .inr ⟨⟨by omega, by omega⟩, .inr ⟨⟨⟨rfl, fun k hk => by rw [ha k hk]⟩, rfl, fun k hk => by rw [hb k hk]⟩, .inr ⟨⟨fun x hx y hy => ?_, fun x hx y hy => ?_⟩, .inr ⟨rfl, ?_, ?_⟩⟩⟩⟩
  · have := hL.im x y hx (by rw [ha x hx] at hy; exact hy); show 0 ≤ ((m x y : Nat) : Int) ∧ ((m x y : Nat) : Int) < (n : Int); omega
  · have := hL.ij x y hx (by rw [hb x hx] at hy; exact hy); show 0 ≤ ((j x y : Nat) : Int) ∧ ((j x y : Nat) : Int) < (n : Int); omega
  · rw [nat2_cast, nat2_cast]; exact hL.lm
  · rw [nat2_cast, nat2_cast]; exact hL.lj
theorem lat2 : Lat 2 (fun x y => min x y) (fun x y => max x y) := by
  refine ⟨fun x y hx hy => by omega, fun x y hx hy => by omega, lws_iff.2 fun x y z hx hy hz => ?_, lws_iff.2 fun x y z hx hy hz => ?_⟩ <;> refine ⟨by omega, by omega, by omega, by omega⟩
end Go.Proofs.Ytfkkjebgccnlnaa
