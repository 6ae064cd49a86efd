/-
  How arguments that come in are read: an order, a slice of numbers. No condition.
  How a list of lists that was handed in reads. No condition.
-/
import Derived.Test.YtklfnghgpmjnmaaOrdered
import Derived.ProofKit
import Derived.OpenShut
import Derived.ChangeOld
import Derived.Below
import Derived.Lib.SmallJoins
import Derived.Test.YtklfnghgpmjnmaaRowsM
namespace Go.Proofs.Ytklfnghgpmjnmaa
open Go.ChangeShapes Go.WideShapes Go.ChangeAt Go.RowKit Go.Joins

theorem own : ownKnob Try.prog.godebug = none := by kernel_rfl
theorem laidOut : laidOutB Try.prog = true := by kernel_rfl
theorem cells25 : Try.prog.cellsOf 25 = 2 := by kernel_rfl
theorem cells3 : Try.prog.cellsOf 3 = 1 := by kernel_rfl

/-- A slice of numbers that came in is a row. -/
theorem row_of_trod {H : Type} {enc : TypeId × Value → H} {w : World} {base : Nat} {spare : Nat → Bool} {held : Bool} {fuel : Nat} {v : Value} {x : DataW H × List MemPlace}
    (h : DataW.trod enc Try.prog w base spare held fuel 23 [v] = some x) : ∃ a len cap f, v = .slice a len cap ∧ len ≤ maxLen ∧ Row w a len f := by
  rcases open_ints Try.underlying23 Try.underlying3 cells3 h with ⟨hcs, _⟩ | ⟨a, len, cap, zs, hcs, _, hl, hm, hz, _, hcell, _⟩
  · simp at hcs
    exact ⟨none, 0, 0, fun _ => 0, hcs, by unfold maxLen; omega, fun k hk => absurd hk (Nat.not_lt_zero _)⟩
  · simp at hcs
    refine ⟨some a, len, cap, fun k => zs.getD k 0, hcs, by omega, fun k hk => ?_⟩
    have hlen : len ≤ zs.length := by rw [hz]; split <;> omega
    have hc := hcell k (by omega)
    obtain ⟨b, off, spot⟩ := a
    have hspot : spot = none := by simpa [Addr.add] using World.cell?_spot (hcell 0 (by omega))
    subst hspot
    refine ⟨b, off, rfl, ?_⟩
    by_cases e : k = 0
    · subst e; simpa [Addr.add] using hc
    · simpa [Addr.add, e] using hc

end Go.Proofs.Ytklfnghgpmjnmaa
namespace Go.Proofs.Ytklfnghgpmjnmaa
open Go.ChangeShapes Go.WideShapes Go.ChangeAt Go.RowKit Go.Joins

theorem cellsLI : Try.prog.cellsOf 23 = 1 := by kernel_rfl
theorem addr_flat (b off j : Nat) : Addr.add ⟨b, off, none⟩ j = ⟨b, off + j, none⟩ := by
  cases j <;> simp [Addr.add]
theorem rr_of_trod {H : Type} {enc : TypeId × Value → H} {w : World} {base : Nat} {spare : Nat → Bool} {held : Bool} {fuel : Nat} {v : Value} {x : DataW H × List MemPlace}
    (h : DataW.trod enc Try.prog w base spare held fuel 22 [v] = some x) : ∃ a len cap S F, v = .slice a len cap ∧ len ≤ maxLen ∧ RR w a len S F := by
  rcases DataW.trod_slice Try.underlying22 h with ⟨hcs, _⟩ | ⟨a, len, cap, elems, rest, n, _, hcs, _, _, hl, hm, hlen, hel, _, _⟩
  · simp at hcs
    exact ⟨none, 0, 0, fun _ => (none, 0, 0), fun _ _ => 0, hcs, by unfold maxLen; omega, fun k hk => absurd hk (Nat.not_lt_zero _)⟩
  · simp at hcs
    have key : ∀ k, k < len → ∃ (s : Option Addr × Nat × Nat) (f : Nat → Int), w.cell? (a.add k) = some (.slice s.1 s.2.1 s.2.2) ∧ s.2.1 ≤ maxLen ∧ Row w s.1 s.2.1 f := fun k hk => by
      have h1 := hel k hk
      rw [cellsLI, Nat.mul_one, List.getElem?_eq_getElem (by omega), Option.bind_eq_some_iff] at h1
      obtain ⟨cs, h2, h3⟩ := h1
      have hq := World.cells?_some h2
      match cs, hq, h3 with
      | [c0], hq, h3 =>
        obtain ⟨a', len', cap', f, rfl, hl', hr'⟩ := row_of_trod h3
        refine ⟨(a', len', cap'), f, ?_, hl', hr'⟩
        have := hq.2.2 0 (by omega)
        simpa [Addr.add] using this
    by_cases h0 : len = 0
    · subst h0
      exact ⟨some a, 0, cap, fun _ => (none, 0, 0), fun _ _ => 0, hcs, by omega, fun k hk => absurd hk (Nat.not_lt_zero _)⟩
    obtain ⟨b, off, spot⟩ := a
    have hspot : spot = none := by
      obtain ⟨s, f, k1, _⟩ := key 0 (by omega)
      simpa [Addr.add] using World.cell?_spot k1
    subst hspot
    have key2 : ∀ k, ∃ q : (Option Addr × Nat × Nat) × (Nat → Int), k < len → w.cell? ⟨b, off + k, none⟩ = some (.slice q.1.1 q.1.2.1 q.1.2.2) ∧ q.1.2.1 ≤ maxLen ∧ Row w q.1.1 q.1.2.1 q.2 := fun k => by
      by_cases hk : k < len
      · obtain ⟨s, f, h1, h2, h3⟩ := key k hk
        rw [addr_flat] at h1
        exact ⟨(s, f), fun _ => ⟨h1, h2, h3⟩⟩
      · exact ⟨((none, 0, 0), fun _ => 0), fun h => absurd h hk⟩
    obtain ⟨p, hp⟩ := Classical.axiomOfChoice key2
    exact ⟨some ⟨b, off, none⟩, len, cap, fun k => (p k).1, fun k => (p k).2, hcs, by omega, fun k hk => ⟨b, off, rfl, (hp k hk).1, (hp k hk).2.1, (hp k hk).2.2⟩⟩
end Go.Proofs.Ytklfnghgpmjnmaa
