/-
  For every number, rules and set that are handed in, hasselaw.ImplyCloses returns true, and writes nothing that was there. Conditions: the table of the least bits.
-/
import Derived.Test.YtgjdpgjaaaeglaaDoorImpQ
namespace Go.Proofs.YtgjdpgjaaaeglaaDoor
open Go.RowKit

theorem RIs.bound {n len : Nat} {p : Nat → Int × Int} (h10 : n ≤ 10) (h : RIs n len p) : ∀ k, k < len → ((rls p len).getD k (0, 0)).1 < 1024 ∧ ((rls p len).getD k (0, 0)).2 < 1024 := fun k hk => by
  have := h.rin _ (getD_mem (0, 0) (by rw [rls_len]; exact hk))
  exact ⟨set_1024 h10 this.1, set_1024 h10 this.2⟩
theorem RIs.row' {n len : Nat} {p : Nat → Int × Int} {w : World} {a : Option Addr} (h : RIs n len p) (hr : PRow w a len p) : PRow w a len (pairAt (rls p len)) := by
  have := h.row hr
  rw [rls_len] at this; exact this

end Go.Proofs.YtgjdpgjaaaeglaaDoor
