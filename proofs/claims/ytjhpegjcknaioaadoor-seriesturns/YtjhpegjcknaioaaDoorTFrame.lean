/-
  How arguments that come in are read: an order, a slice of numbers. No condition.
  How a term that was handed in reads. No condition.
-/
import Derived.Test.YtjhpegjcknaioaaDoorOrdered
import Derived.ProofKit
import Derived.OpenShut
import Derived.ChangeOld
import Derived.Below
import Derived.Lib.SmallJoins
import Derived.Test.YtjhpegjcknaioaaDoorSameN
namespace Go.Proofs.YtjhpegjcknaioaaDoor
open Go.ChangeShapes Go.WideShapes Go.ChangeAt Go.RowKit Go.Joins

theorem own : ownKnob Tryd.prog.godebug = none := by kernel_rfl
theorem laidOut : laidOutB Tryd.prog = true := by kernel_rfl
theorem cells24 : Tryd.prog.cellsOf 24 = 2 := by kernel_rfl
theorem cells3 : Tryd.prog.cellsOf 3 = 1 := by kernel_rfl

/-- A slice of numbers that came in is a row. -/
theorem row_of_trod {H : Type} {enc : TypeId × Value → H} {w : World} {base : Nat} {spare : Nat → Bool} {held : Bool} {fuel : Nat} {v : Value} {x : DataW H × List MemPlace}
    (h : DataW.trod enc Tryd.prog w base spare held fuel 22 [v] = some x) : ∃ a len cap f, v = .slice a len cap ∧ len ≤ maxLen ∧ Row w a len f := by
  rcases open_ints Tryd.underlying22 Tryd.underlying3 cells3 h with ⟨hcs, _⟩ | ⟨a, len, cap, zs, hcs, _, hl, hm, hz, _, hcell, _⟩
  · simp at hcs
    exact ⟨none, 0, 0, fun _ => 0, hcs, by unfold maxLen; omega, fun k hk => absurd hk (Nat.not_lt_zero _)⟩
  · simp at hcs
    refine ⟨some a, len, cap, fun k => zs.getD k 0, hcs, by omega, fun k hk => ?_⟩
    have hlen : len ≤ zs.length := by rw [hz]; split <;> omega
    have hc := hcell k (by omega)
    obtain ⟨b, off, spot⟩ := a
    have hspot : spot = none := by simpa [Addr.add] using World.cell?_spot (hcell 0 (by omega))
    subst hspot
    refine ⟨b, off, rfl, ?_⟩
    by_cases e : k = 0
    · subst e; simpa [Addr.add] using hc
    · simpa [Addr.add, e] using hc

end Go.Proofs.YtjhpegjcknaioaaDoor
namespace Go.Proofs.YtjhpegjcknaioaaDoor
set_option maxRecDepth 100000
open Go.ChangeShapes Go.WideShapes Go.ChangeAt Go.RowKit Go.Joins

theorem cellsTe : Tryd.prog.cellsOf 27 = 3 := by kernel_rfl
theorem cellsIn : Tryd.prog.cellsOf 3 = 1 := by kernel_rfl
theorem cellsTl : Tryd.prog.cellsOf 25 = 1 := by kernel_rfl
theorem addr_flat (b off j : Nat) : Addr.add ⟨b, off, none⟩ j = ⟨b, off + j, none⟩ := by
  cases j <;> simp [Addr.add]
theorem trep_of_trod {H : Type} {enc : TypeId × Value → H} {w : World} {base : Nat} {spare : Nat → Bool} {held : Bool} : ∀ (fuel : Nat) (cs : List Value) (x : DataW H × List MemPlace), DataW.trod enc Tryd.prog w base spare held fuel 27 cs = some x →
    ∃ (k y : Int) (a : Option Addr) (n cap : Nat), cs = [.int .i64 k, .int .i64 y, .slice a n cap] ∧ ∃ T, TRep 0 w T (.agg #[.int .i64 k, .int .i64 y, .slice a n cap]) := by
  intro fuel
  induction fuel using Nat.strongRecOn with
  | ind fuel ih =>
    intro cs x h
    obtain ⟨xs, n, rfl, rfl, hl, hlen, hf⟩ := DataW.trod_struct Tryd.underlying27 h
    rw [cellsTe] at hl
    match cs, hl with
    | [c0, c1, c2], _ =>
      match xs, hlen with
      | [y0, y1, y2], _ =>
        have h0 : DataW.trod enc Tryd.prog w base spare held n 3 (([c0, c1, c2].drop 0).take (Tryd.prog.cellsOf 3)) = some y0 := hf 0 _ rfl
        have h1 : DataW.trod enc Tryd.prog w base spare held n 3 (([c0, c1, c2].drop 1).take (Tryd.prog.cellsOf 3)) = some y1 := hf 1 _ rfl
        have h2 : DataW.trod enc Tryd.prog w base spare held n 25 (([c0, c1, c2].drop 2).take (Tryd.prog.cellsOf 25)) = some y2 := hf 2 _ rfl
        rw [cellsIn] at h0 h1
        rw [cellsTl] at h2
        replace h0 : DataW.trod enc Tryd.prog w base spare held n 3 [c0] = some y0 := h0
        replace h1 : DataW.trod enc Tryd.prog w base spare held n 3 [c1] = some y1 := h1
        replace h2 : DataW.trod enc Tryd.prog w base spare held n 25 [c2] = some y2 := h2
        obtain ⟨k, e0, _, _⟩ := DataW.trod_int Tryd.underlying3 h0
        obtain ⟨y, e1, _, _⟩ := DataW.trod_int Tryd.underlying3 h1
        simp at e0 e1
        subst e0
        subst e1
        rcases DataW.trod_slice Tryd.underlying25 h2 with ⟨hcs, _⟩ | ⟨a, len, cap, elems, rest, n', rfl, hcs, _, _, hl2, hm, hlen2, hel, _, _⟩
        · simp at hcs
          subst hcs
          exact ⟨k, y, none, 0, 0, rfl, .mk k y 0 (fun _ => .leaf), none, 0, rfl, Nat.zero_le _, fun i hi => absurd hi (Nat.not_lt_zero _)⟩
        · simp at hcs
          subst hcs
          have key : ∀ i, i < len → ∃ (k' x' : Int) (a' : Option Addr) (n'' c' : Nat), (w.cell? (a.add (i * 3)) = some (.int .i64 k') ∧ w.cell? ((a.add (i * 3)).add 1) = some (.int .i64 x') ∧ w.cell? ((a.add (i * 3)).add 2) = some (.slice a' n'' c')) ∧ ∃ T, TRep 0 w T (.agg #[.int .i64 k', .int .i64 x', .slice a' n'' c']) := fun i hi => by
            have q1 := hel i hi
            rw [cellsTe, List.getElem?_eq_getElem (by omega), Option.bind_eq_some_iff] at q1
            obtain ⟨cs, q2, q3⟩ := q1
            obtain ⟨k', x', a', n'', c', rfl, T, hT⟩ := ih n' (by omega) cs _ q3
            have hq := World.cells?_some q2
            refine ⟨k', x', a', n'', c', ⟨?_, ?_, ?_⟩, T, hT⟩
            · have := hq.2.2 0 (by omega); simpa [Addr.add] using this
            · simpa using hq.2.2 1 (by omega)
            · simpa using hq.2.2 2 (by omega)
          by_cases hz : len = 0
          · subst hz
            exact ⟨k, y, some a, 0, cap, rfl, .mk k y 0 (fun _ => .leaf), some a, cap, rfl, Nat.zero_le _, fun i hi => absurd hi (Nat.not_lt_zero _)⟩
          obtain ⟨b, off, spot⟩ := a
          have hspot : spot = none := by
            obtain ⟨_, _, _, _, _, ⟨k1, _, _⟩, _⟩ := key 0 (by omega)
            simpa [Addr.add] using World.cell?_spot k1
          subst hspot
          have key2 : ∀ i, ∃ T : TT, i < len → ∃ (k' x' : Int) (a' : Option Addr) (n'' c' : Nat), (w.cell? ⟨b, off + i * 3, none⟩ = some (.int .i64 k') ∧ w.cell? ⟨b, off + i * 3 + 1, none⟩ = some (.int .i64 x') ∧ w.cell? ⟨b, off + i * 3 + 2, none⟩ = some (.slice a' n'' c')) ∧ TRep 0 w T (.agg #[.int .i64 k', .int .i64 x', .slice a' n'' c']) := fun i => by
            by_cases hi : i < len
            · obtain ⟨k', x', a', n'', c', ⟨g1, g2, g3⟩, T, hT⟩ := key i hi
              rw [addr_flat] at g1 g2 g3
              rw [addr_flat] at g2 g3
              exact ⟨T, fun _ => ⟨k', x', a', n'', c', ⟨g1, g2, g3⟩, hT⟩⟩
            · exact ⟨.leaf, fun h => absurd h hi⟩
          obtain ⟨kid, hkid⟩ := Classical.axiomOfChoice key2
          exact ⟨k, y, some ⟨b, off, none⟩, len, cap, rfl, .mk k y len kid, some ⟨b, off, none⟩, cap, rfl, by omega, fun i hi => ⟨b, off, rfl, Nat.zero_le _, hkid i hi⟩⟩
end Go.Proofs.YtjhpegjcknaioaaDoor
