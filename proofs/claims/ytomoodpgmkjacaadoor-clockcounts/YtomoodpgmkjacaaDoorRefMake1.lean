/-
  What the reference's closure in Make answers: what the matrix holds. Conditions: as the theorem says.
-/
import Derived.Test.YtomoodpgmkjacaaDoorMakesM
namespace Go.Proofs.YtomoodpgmkjacaaDoor
open Go.RowKit

set_option maxHeartbeats 1000000 in
theorem make1_any (x y : Nat) (X B : Nat) (r : Nat → Nat) (n : Nat) (T : Nat → Nat → Bool) (w : World) (hx : x < n) (hy : y < n) (hM : Mat w X B r n n T) :
    Calls Tryd.prog 35 #[.int .i64 x, .int .i64 y, .pointer (some ⟨X, 0, none⟩)] w fun e w' => e = .returned (.bool (T x y)) ∧ Below w.heap.size w w' := by
  have m0 := hM.box
  have m1 := hM.rows x hx
  have m2 := (hM.cells x y hx hy).1
  have hx' : (x : Int) < (n : Int) := by omega
  have hy' : (y : Int) < (n : Int) := by omega
  generalize T x y = t at *
  generalize r x = rx at *
  clear hM
  go_enter Tryd.func35, Tryd.ntmps35
  go_wp2_with fail
  go_ret
  exact ⟨rfl, Below.refl _ _⟩
end Go.Proofs.YtomoodpgmkjacaaDoor
