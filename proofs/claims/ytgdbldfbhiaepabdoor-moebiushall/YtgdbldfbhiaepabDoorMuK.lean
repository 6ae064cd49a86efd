/-
  What Mu answers of two points of an order, and what is said of an order by its sets. No condition.
-/
import Derived.Test.YtgdbldfbhiaepabDoorMuP
namespace Go.Proofs.YtgdbldfbhiaepabDoor
open Go.RowKit

theorem MuPost.ok {n : Int} {len : Nat} {f : Nat → Int} {x y : Nat} {e : Ending} (h : MuPost n len f x y e) (hc : MuCk n len f x y 0) : e = .returned (.tuple #[.int .i64 (wz (muO (nat f) len x y)), .int .i64 0]) := by
  obtain ⟨c, v, hc1, rfl, hv⟩ := h
  obtain rfl := hc1.unique hc
  rcases hv with ⟨h, _⟩ | ⟨_, x', y', hx, hy, _, _, rfl⟩
  · exact absurd rfl h
  · obtain rfl : x = x' := by omega
    obtain rfl : y = y' := by omega
    rfl
theorem pnt_in {x n : Nat} (h : x < n) : pnt (x : Int) (n : Int) = true := by unfold pnt; simp; omega
theorem nat_cast (g : Nat → Nat) : nat (fun k => ((g k : Nat) : Int)) = g := by funext k; simp [nat]
theorem chk_of {n : Nat} {g : Nat → Nat} (h10 : n ≤ 10) (hg : ∀ k, k < n → g k < pw n) (ho : Ord n g) : Chk (n : Int) n (fun k => ((g k : Nat) : Int)) 0 :=
  .inr ⟨n, rfl, h10, .inr ⟨rfl, .inr ⟨fun k hk => ⟨Int.natCast_nonneg _, Int.ofNat_lt.2 (hg k hk)⟩, .inr ⟨rfl, by rw [nat_cast]; exact ho⟩⟩⟩⟩
end Go.Proofs.YtgdbldfbhiaepabDoor
