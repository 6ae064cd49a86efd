/-
  What sets.First answers: the least point of a set that has one. Conditions: a set below 1024; the library's table lies in its variable.
-/
import Derived.Test.YtadocffdneiaaaaDoorMSize
import Derived.Shelf.Spec.TrailingZeros
namespace Go.Proofs.YtadocffdneiaaaaDoor
open Go.RowKit

/-- The table in its variable. -/
def Tab (w : World) : Prop := ∀ j, j < 64 → w.cell? ⟨1, j, none⟩ = some (.int .u8 (Lib.deBruijn64tab.getD j 0))
theorem Tab.step {w w' : World} (h : Tab w) (hb : Below w.heap.size w w') : Tab w' := fun j hj => (hb.cell (World.block_lt_of_cell? _ _ (h j hj))).trans (h j hj)
/-- The least point of a set. -/
def lo (s : Nat) : Nat := Lib.ctz 64 s
set_option maxHeartbeats 1000000 in
theorem tz64_core (x k idx : Nat) (w : World) (hx0 : ((x : Int) == 0) = false)
    (key : IntKind.u64.wrap (bits BinOp.and IntKind.u64 (x : Int) (IntKind.u64.wrap (-(x : Int))) * 285870213051353865) / 288230376151711744 = (idx : Int))
    (hi : idx < 64) (hk : k < 64) (hcell : w.cell? ⟨1, idx, none⟩ = some (.int .u8 k)) :
    Calls Tryd.prog 38 #[.int .u64 x] w fun e w' => e = .returned (.int .i64 k) ∧ w = w' := by
  go_enter Tryd.func38, Tryd.ntmps38
  go_wp2_with (simp only [key])
  go_ret
  exact ⟨rfl, rfl⟩
theorem tz64_any (s : Nat) (w : World) (hs : s < 1024) (h0 : s ≠ 0) (hT : Tab w) :
    Calls Tryd.prog 38 #[.int .u64 s] w fun e w' => e = .returned (.int .i64 (lo s : Nat)) ∧ w = w' := by
  have hs64 : s < 18446744073709551616 := Nat.lt_trans hs (by decide)
  obtain ⟨hlow, hk⟩ := Lib.lowest_bit 64 s h0 hs64
  obtain ⟨hi, htab⟩ := Lib.deBruijn64_at _ hk
  have hcell := hT _ hi
  rw [htab] at hcell
  exact tz64_core s _ _ w (by simpa using h0) (tz64_key s _ hs64 h0 hlow) hi hk hcell
theorem tz_any (s : Nat) (w : World) (hs : s < 1024) (h0 : s ≠ 0) (hT : Tab w) :
    Calls Tryd.prog 35 #[.int .u64 s] w fun e w' => e = .returned (.int .i64 (lo s : Nat)) ∧ w = w' := by
  go_enter Tryd.func35, Tryd.ntmps35
  go_wp2_with (go_at_call 38; refine (tz64_any s _ hs h0 hT).mono ?_; rintro e w' ⟨rfl, rfl⟩)
  go_ret
  exact ⟨rfl, rfl⟩
theorem first_any (s : Nat) (w : World) (hs : s < 1024) (h0 : s ≠ 0) (hT : Tab w) :
    Calls Tryd.prog 27 #[.int .i64 s] w fun e w' => e = .returned (.int .i64 (lo s : Nat)) ∧ w = w' := by
  go_enter Tryd.func27, Tryd.ntmps27
  go_wp2_with (go_at_call 35; refine (tz_any s _ hs h0 hT).mono ?_; rintro e w' ⟨rfl, rfl⟩)
  go_ret
  exact ⟨rfl, rfl⟩
end Go.Proofs.YtadocffdneiaaaaDoor
