/-
  What fix.inOrder and its closure answer. Conditions: an order of at most ten points lies in the closure's box.
-/
import Derived.Test.YtfajgahofkcndaaDoorGoOn
import Derived.Test.YtfajgahofkcndaaDoorHigh
namespace Go.Proofs.YtfajgahofkcndaaDoor
open Go.RowKit

/-- Up to: the same or below. -/
def upB (g : Nat → Nat) (x y : Nat) : Bool := (up g y).testBit x
theorem upB_eq (g : Nat → Nat) (x y : Nat) : upB g x y = ((g y).testBit x || decide (y = x)) := by
  unfold upB up
  rw [Nat.testBit_or]
  congr 1
  unfold pw
  rw [Nat.testBit_two_pow]

theorem inOrder_any (n : Int) (a : Option Addr) (la ca : Nat) (w : World) :
    Calls Tryd.prog 28 #[.agg #[.int .i64 n, .slice a la ca]] w fun e w' => e = .returned (.func (.func 40) #[] #[.pointer (some ⟨w.heap.size, 0, none⟩)]) ∧ w' = w.alloc (.cells #[.int .i64 n, .slice a la ca] 24) := by
  go_enter Tryd.func28, Tryd.ntmps28
  go_wp2
  go_ret
  exact ⟨rfl, rfl⟩
theorem ent_inOrder1 : Ent 40 := fun _ _ => rfl
set_option maxHeartbeats 1000000 in
theorem inOrder1_any (n b : Nat) (a : Option Addr) (ca : Nat) (g : Nat → Nat) (w : World) (h10 : n ≤ 10) (hg : ∀ k, k < n → g k < 1024) (c0 : w.cell? ⟨b, 0, none⟩ = some (.int .i64 (n : Nat))) (c1 : w.cell? ⟨b, 1, none⟩ = some (.slice a n ca)) (hr : Row w a n (fun k => (g k : Nat))) :
    Clo2 n 40 #[.pointer (some ⟨b, 0, none⟩)] (upB g) w := fun x y hx hy W hW => by
  show Calls Tryd.prog 40 #[.int .i64 (x : Nat), .int .i64 (y : Nat), .pointer (some ⟨b, 0, none⟩)] W _
  have d0 := cell_step hW c0
  have d1 := cell_step hW c1
  have HR : Hid (Row W a n (fun k => (g k : Nat))) := hr.below hW
  have hs : up g y < 1024 := by
    unfold up
    have h1 := hg y hy
    have h2 : pw y < 1024 := by
      have : pw y < 2 ^ 10 := Nat.pow_lt_pow_right (by decide) (by omega)
      omega
    exact Nat.or_lt_two_pow (n := 10) h1 h2
  have HG : Hid (∀ k, k < n → g k < 1024) := hg
  clear c0 c1 hr hW hg
  go_enter Tryd.func40, Tryd.ntmps40
  go_wp2_with fail
  refine (upTo_any (n : Nat) a n ca g y _ h10 HG.out HR.out hy).mono ?_
  rintro e w1 ⟨rfl, hb1⟩
  have HB1 : Hid (Below W.heap.size W w1) := hb1
  clear hb1 d0 d1 HR
  go_wp2_with fail
  refine (has_any (up g y) x _ (by omega) (by omega)).mono ?_
  rintro e w2 ⟨rfl, rfl⟩
  go_wp2_with fail
  go_ret
  exact ⟨rfl, HB1.out⟩
end Go.Proofs.YtfajgahofkcndaaDoor
