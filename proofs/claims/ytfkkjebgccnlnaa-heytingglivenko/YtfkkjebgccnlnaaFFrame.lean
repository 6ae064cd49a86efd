/-
  How a formula that was handed in reads. No condition.
-/
import Derived.Test.YtfkkjebgccnlnaaFmR
import Derived.Test.YtfkkjebgccnlnaaLFrame
namespace Go.Proofs.Ytfkkjebgccnlnaa
set_option maxRecDepth 100000
open Go.ChangeShapes Go.WideShapes Go.ChangeAt Go.RowKit Go.Joins

theorem cellsFo : Try.prog.cellsOf 27 = 3 := by kernel_rfl
theorem cellsIn : Try.prog.cellsOf 3 = 1 := by kernel_rfl
theorem cellsFl : Try.prog.cellsOf 25 = 1 := by kernel_rfl
theorem frep_of_trod {H : Type} {enc : TypeId × Value → H} {w : World} {base : Nat} {spare : Nat → Bool} {held : Bool} : ∀ (fuel : Nat) (cs : List Value) (x : DataW H × List MemPlace), DataW.trod enc Try.prog w base spare held fuel 27 cs = some x →
    ∃ (k y : Int) (a : Option Addr) (n cap : Nat), cs = [.int .i64 k, .int .i64 y, .slice a n cap] ∧ ∃ T, FRep w T (.agg #[.int .i64 k, .int .i64 y, .slice a n cap]) := by
  intro fuel
  induction fuel using Nat.strongRecOn with
  | ind fuel ih =>
    intro cs x h
    obtain ⟨xs, n, rfl, rfl, hl, hlen, hf⟩ := DataW.trod_struct Try.underlying27 h
    rw [cellsFo] at hl
    match cs, hl with
    | [c0, c1, c2], _ =>
      match xs, hlen with
      | [y0, y1, y2], _ =>
        have h0 : DataW.trod enc Try.prog w base spare held n 3 (([c0, c1, c2].drop 0).take (Try.prog.cellsOf 3)) = some y0 := hf 0 _ rfl
        have h1 : DataW.trod enc Try.prog w base spare held n 3 (([c0, c1, c2].drop 1).take (Try.prog.cellsOf 3)) = some y1 := hf 1 _ rfl
        have h2 : DataW.trod enc Try.prog w base spare held n 25 (([c0, c1, c2].drop 2).take (Try.prog.cellsOf 25)) = some y2 := hf 2 _ rfl
        rw [cellsIn] at h0 h1
        rw [cellsFl] at h2
        replace h0 : DataW.trod enc Try.prog w base spare held n 3 [c0] = some y0 := h0
        replace h1 : DataW.trod enc Try.prog w base spare held n 3 [c1] = some y1 := h1
        replace h2 : DataW.trod enc Try.prog w base spare held n 25 [c2] = some y2 := h2
        obtain ⟨k, e0, _, _⟩ := DataW.trod_int Try.underlying3 h0
        obtain ⟨y, e1, _, _⟩ := DataW.trod_int Try.underlying3 h1
        simp at e0 e1
        subst e0
        subst e1
        rcases DataW.trod_slice Try.underlying25 h2 with ⟨hcs, _⟩ | ⟨a, len, cap, elems, rest, n', rfl, hcs, _, _, hl2, hm, hlen2, hel, _, _⟩
        · simp at hcs
          subst hcs
          exact ⟨k, y, none, 0, 0, rfl, .mk k y 0 (fun _ => .leaf), none, 0, rfl, Nat.zero_le _, fun i hi => absurd hi (Nat.not_lt_zero _)⟩
        · simp at hcs
          subst hcs
          have key : ∀ i, i < len → ∃ (k' x' : Int) (a' : Option Addr) (n'' c' : Nat), (w.cell? (a.add (i * 3)) = some (.int .i64 k') ∧ w.cell? ((a.add (i * 3)).add 1) = some (.int .i64 x') ∧ w.cell? ((a.add (i * 3)).add 2) = some (.slice a' n'' c')) ∧ ∃ T, FRep w T (.agg #[.int .i64 k', .int .i64 x', .slice a' n'' c']) := fun i hi => by
            have q1 := hel i hi
            rw [cellsFo, List.getElem?_eq_getElem (by omega), Option.bind_eq_some_iff] at q1
            obtain ⟨cs, q2, q3⟩ := q1
            obtain ⟨k', x', a', n'', c', rfl, T, hT⟩ := ih n' (by omega) cs _ q3
            have hq := World.cells?_some q2
            refine ⟨k', x', a', n'', c', ⟨?_, ?_, ?_⟩, T, hT⟩
            · have := hq.2.2 0 (by omega); simpa [Addr.add] using this
            · simpa using hq.2.2 1 (by omega)
            · simpa using hq.2.2 2 (by omega)
          by_cases hz : len = 0
          · subst hz
            exact ⟨k, y, some a, 0, cap, rfl, .mk k y 0 (fun _ => .leaf), some a, cap, rfl, Nat.zero_le _, fun i hi => absurd hi (Nat.not_lt_zero _)⟩
          obtain ⟨b, off, spot⟩ := a
          have hspot : spot = none := by
            obtain ⟨_, _, _, _, _, ⟨k1, _, _⟩, _⟩ := key 0 (by omega)
            simpa [Addr.add] using World.cell?_spot k1
          subst hspot
          have key2 : ∀ i, ∃ T : FT, i < len → ∃ (k' x' : Int) (a' : Option Addr) (n'' c' : Nat), (w.cell? ⟨b, off + i * 3, none⟩ = some (.int .i64 k') ∧ w.cell? ⟨b, off + i * 3 + 1, none⟩ = some (.int .i64 x') ∧ w.cell? ⟨b, off + i * 3 + 2, none⟩ = some (.slice a' n'' c')) ∧ FRep w T (.agg #[.int .i64 k', .int .i64 x', .slice a' n'' c']) := fun i => by
            by_cases hi : i < len
            · obtain ⟨k', x', a', n'', c', ⟨g1, g2, g3⟩, T, hT⟩ := key i hi
              rw [addr_flat] at g1 g2 g3
              rw [addr_flat] at g2 g3
              exact ⟨T, fun _ => ⟨k', x', a', n'', c', ⟨g1, g2, g3⟩, hT⟩⟩
            · exact ⟨.leaf, fun h => absurd h hi⟩
          obtain ⟨kid, hkid⟩ := Classical.axiomOfChoice key2
          exact ⟨k, y, some ⟨b, off, none⟩, len, cap, rfl, .mk k y len kid, some ⟨b, off, none⟩, cap, rfl, by omega, fun i hi => ⟨b, off, rfl, hkid i hi⟩⟩
end Go.Proofs.Ytfkkjebgccnlnaa
