/-
  Terms in the memory: how a value reads as a term. No condition.
  What the reference's Same answers of two slices of numbers. No condition but that they read so.
-/
import Derived.Test.YtjhpegjcknaioaaDoorTmM
import Derived.Test.YtjhpegjcknaioaaDoorSpA
import Derived.Test.YtjhpegjcknaioaaDoorGood
import Derived.Deep.QuietTactic
import Derived.BigQuiet
namespace Go.Proofs.YtjhpegjcknaioaaDoor
set_option maxRecDepth 100000
open Go.RowKit

/-- A value reads as a term whose blocks are K at least. -/
def TRep (K : Nat) (w : World) : TT → Value → Prop
  | .node none _, _ => False
  | .node (some (k, x, n)) kid, v => ∃ (a : Option Addr) (cap : Nat), v = .agg #[.int .i64 k, .int .i64 x, .slice a n cap] ∧ n ≤ maxLen ∧ ∀ i, i < n → ∃ b off, a = some ⟨b, off, none⟩ ∧ K ≤ b ∧ ∃ (k' x' : Int) (a' : Option Addr) (n' c' : Nat),
      (w.cell? ⟨b, off + i * 3, none⟩ = some (.int .i64 k') ∧ w.cell? ⟨b, off + i * 3 + 1, none⟩ = some (.int .i64 x') ∧ w.cell? ⟨b, off + i * 3 + 2, none⟩ = some (.slice a' n' c')) ∧ TRep K w (kid i rfl) (.agg #[.int .i64 k', .int .i64 x', .slice a' n' c'])
theorem cell_stp {w w' : World} {p : Addr} {v : Value} (hb : Below w.heap.size w w') (h : w.cell? p = some v) : w'.cell? p = some v := (hb.cell (World.block_lt_of_cell? _ _ h)).trans h
theorem TRep.step {K : Nat} {w w' : World} (hb : Below w.heap.size w w') (T : TT) : ∀ v, TRep K w T v → TRep K w' T v := by
  induction T using TT.ind with
  | leaf => exact fun _ h => h.elim
  | mk k x n kid ih =>
    intro v h
    obtain ⟨a, cap, rfl, hn, hk⟩ := h
    refine ⟨a, cap, rfl, hn, fun i hi => ?_⟩
    obtain ⟨b, off, e, hK, k', x', a', n', c', ⟨h1, h2, h3⟩, h4⟩ := hk i hi
    exact ⟨b, off, e, hK, k', x', a', n', c', ⟨cell_stp hb h1, cell_stp hb h2, cell_stp hb h3⟩, ih i _ h4⟩
theorem TRep.low {K K' : Nat} (hK' : K' ≤ K) {w : World} (T : TT) : ∀ v, TRep K w T v → TRep K' w T v := by
  induction T using TT.ind with
  | leaf => exact fun _ h => h.elim
  | mk k x n kid ih =>
    intro v h
    obtain ⟨a, cap, rfl, hn, hk⟩ := h
    refine ⟨a, cap, rfl, hn, fun i hi => ?_⟩
    obtain ⟨b, off, e, hK, k', x', a', n', c', h1, h4⟩ := hk i hi
    exact ⟨b, off, e, Nat.le_trans hK' hK, k', x', a', n', c', h1, ih i _ h4⟩
/-- A block below K is written: the term stays. -/
theorem TRep.set {K : Nat} {w : World} {B u : Nat} {z : Value} (hB : B < K) (T : TT) : ∀ v, TRep K w T v → TRep K (w.setCell ⟨B, u, none⟩ z) T v := by
  induction T using TT.ind with
  | leaf => exact fun _ h => h.elim
  | mk k x n kid ih =>
    intro v h
    obtain ⟨a, cap, rfl, hn, hk⟩ := h
    refine ⟨a, cap, rfl, hn, fun i hi => ?_⟩
    obtain ⟨b, off, e, hK, k', x', a', n', c', ⟨h1, h2, h3⟩, h4⟩ := hk i hi
    have ne : ∀ o, (w.setCell ⟨B, u, none⟩ z).cell? ⟨b, o, none⟩ = w.cell? ⟨b, o, none⟩ := fun o => World.cell?_setCell_other _ _ _ _ (fun e => by injection e with e1; omega)
    exact ⟨b, off, e, hK, k', x', a', n', c', ⟨(ne _).trans h1, (ne _).trans h2, (ne _).trans h3⟩, ih i _ h4⟩
end Go.Proofs.YtjhpegjcknaioaaDoor
namespace Go.Proofs.YtjhpegjcknaioaaDoor
open Go.RowKit

theorem same_any (a b : Option Addr) (la ca lb cb : Nat) (f g : Nat → Int) (w : World) (hl : la ≤ maxLen) (hl2 : lb ≤ maxLen) (ha : Row w a la f) (hb : Row w b lb g) :
    Calls Tryd.prog 35 #[.slice a la ca, .slice b lb cb] w fun e w' => Ans e (SameRows la lb f g) ∧ Below w.heap.size w w' := by
  unfold maxLen at hl hl2
  by_cases hlen : la = lb
  · subst hlen
    have HA := (show Hid _ from ha); have HB := (show Hid _ from hb); clear ha hb
    go_enter Tryd.func35, Tryd.ntmps35
    go_wp2
    go_loopw [5] (fun i wx => ∃ k : Nat, k ≤ la ∧ i = .int .i64 k ∧ Hid (∀ j, j < k → f j = g j) ∧ Row wx a la f ∧ Row wx b la g ∧ Hid (Below w.heap.size w wx)) (fun i _ => la - (intOf i).toNat)
    case atStart => exact ⟨0, Nat.zero_le _, rfl, upto_zero, HA.out, HB.out, Below.refl _ _⟩
    case round =>
      obtain ⟨k, hk, rfl, hok, hA, hB, hW⟩ := hrel
      clear HA HB
      by_cases hlt : k < la
      · obtain ⟨b1, o1, rfl, hc1⟩ := hA.at hlt
        obtain ⟨b2, o2, rfl, hc2⟩ := hB.at hlt
        have d1 := hc1 k hlt
        have d2 := hc2 k hlt
        clear hc1 hc2
        have hlt' : (k : Int) < (la : Int) := by omega
        by_cases he : f k = g k
        · have hne : (f k != g k) = false := by simpa using he
          have HE := (show Hid _ from he); clear he
          go_wp2
          go_quiet (fail)
          go_wp2
          go_roundw
          case rel => exact ⟨k + 1, by omega, by go_num, upto_succ hok.out HE.out, hA, hB, below_drewN hW.out _⟩
          case measure => simp [intOf]; omega
        · have hne : (f k != g k) = true := by simpa using he
          go_wp2
          go_quiet (fail)
          go_wp2
          go_ret
          exact ⟨Ans.no (fun h => he (h.2 k hlt)), below_drewN hW.out _⟩
      · have hkn : k = la := by omega
        subst hkn
        go_wp2
        go_ret
        exact ⟨Ans.yes ⟨rfl, hok.out⟩, hW.out⟩
  · have hne : ((la : Int) != (lb : Int)) = true := by simp; omega
    clear ha hb
    go_enter Tryd.func35, Tryd.ntmps35
    go_wp2
    go_ret
    exact ⟨Ans.no (fun h => hlen h.1), Below.refl _ _⟩
end Go.Proofs.YtjhpegjcknaioaaDoor
