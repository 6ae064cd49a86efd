/-
  Terms in the memory: how a value reads as a term. No condition.
-/
import Derived.Test.YtjhpegjcknaioaaDoorTmM
import Derived.Test.YtjhpegjcknaioaaDoorSpA
namespace Go.Proofs.YtjhpegjcknaioaaDoor
set_option maxRecDepth 100000
open Go.RowKit

/-- A value reads as a term whose blocks are K at least. -/
def TRep (K : Nat) (w : World) : TT → Value → Prop
  | .node none _, _ => False
  | .node (some (k, x, n)) kid, v => ∃ (a : Option Addr) (cap : Nat), v = .agg #[.int .i64 k, .int .i64 x, .slice a n cap] ∧ n ≤ maxLen ∧ ∀ i, i < n → ∃ b off, a = some ⟨b, off, none⟩ ∧ K ≤ b ∧ ∃ (k' x' : Int) (a' : Option Addr) (n' c' : Nat),
      (w.cell? ⟨b, off + i * 3, none⟩ = some (.int .i64 k') ∧ w.cell? ⟨b, off + i * 3 + 1, none⟩ = some (.int .i64 x') ∧ w.cell? ⟨b, off + i * 3 + 2, none⟩ = some (.slice a' n' c')) ∧ TRep K w (kid i rfl) (.agg #[.int .i64 k', .int .i64 x', .slice a' n' c'])
theorem cell_stp {w w' : World} {p : Addr} {v : Value} (hb : Below w.heap.size w w') (h : w.cell? p = some v) : w'.cell? p = some v := (hb.cell (World.block_lt_of_cell? _ _ h)).trans h
theorem TRep.step {K : Nat} {w w' : World} (hb : Below w.heap.size w w') (T : TT) : ∀ v, TRep K w T v → TRep K w' T v := by
  induction T using TT.ind with
  | leaf => exact fun _ h => h.elim
  | mk k x n kid ih =>
    intro v h
    obtain ⟨a, cap, rfl, hn, hk⟩ := h
    refine ⟨a, cap, rfl, hn, fun i hi => ?_⟩
    obtain ⟨b, off, e, hK, k', x', a', n', c', ⟨h1, h2, h3⟩, h4⟩ := hk i hi
    exact ⟨b, off, e, hK, k', x', a', n', c', ⟨cell_stp hb h1, cell_stp hb h2, cell_stp hb h3⟩, ih i _ h4⟩
theorem TRep.low {K K' : Nat} (hK' : K' ≤ K) {w : World} (T : TT) : ∀ v, TRep K w T v → TRep K' w T v := by
  induction T using TT.ind with
  | leaf => exact fun _ h => h.elim
  | mk k x n kid ih =>
    intro v h
    obtain ⟨a, cap, rfl, hn, hk⟩ := h
    refine ⟨a, cap, rfl, hn, fun i hi => ?_⟩
    obtain ⟨b, off, e, hK, k', x', a', n', c', h1, h4⟩ := hk i hi
    exact ⟨b, off, e, Nat.le_trans hK' hK, k', x', a', n', c', h1, ih i _ h4⟩
/-- A block below K is written: the term stays. -/
theorem TRep.set {K : Nat} {w : World} {B u : Nat} {z : Value} (hB : B < K) (T : TT) : ∀ v, TRep K w T v → TRep K (w.setCell ⟨B, u, none⟩ z) T v := by
  induction T using TT.ind with
  | leaf => exact fun _ h => h.elim
  | mk k x n kid ih =>
    intro v h
    obtain ⟨a, cap, rfl, hn, hk⟩ := h
    refine ⟨a, cap, rfl, hn, fun i hi => ?_⟩
    obtain ⟨b, off, e, hK, k', x', a', n', c', ⟨h1, h2, h3⟩, h4⟩ := hk i hi
    have ne : ∀ o, (w.setCell ⟨B, u, none⟩ z).cell? ⟨b, o, none⟩ = w.cell? ⟨b, o, none⟩ := fun o => World.cell?_setCell_other _ _ _ _ (fun e => by injection e with e1; omega)
    exact ⟨b, off, e, hK, k', x', a', n', c', ⟨(ne _).trans h1, (ne _).trans h2, (ne _).trans h3⟩, ih i _ h4⟩
end Go.Proofs.YtjhpegjcknaioaaDoor
