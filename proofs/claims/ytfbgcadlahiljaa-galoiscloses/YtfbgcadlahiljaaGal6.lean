/-
  What the reference's KeepsJoins and BackOf answer of what came in and is right. No condition but that.
-/
import Derived.Test.YtfbgcadlahiljaaGal5
namespace Go.Proofs.Ytfbgcadlahiljaa
open Go.RowKit

set_option maxHeartbeats 1000000 in
theorem refKeepsL_any {A B : LA} {f : MA} {u : Nat} {w : World} (h : GS A B f u w) (hc : GCk A B f 0) :
    Calls Try.prog 13 #[A.v, B.v, f.v] w fun e w' => BIs e (KeepL A B f) ∧ Below w.heap.size w w' := by
  obtain ⟨q, b1, o1, b2, o2, q', b1', o1', b2', o2', fb, fo, e1, e2, e3, e4, e5, e1', e2', e3', e4', e5', e6, el, h1, h40, hlat, h1', h40', hlat', hmp, eq, eq', ht1, ht2, ht1', ht2', hr⟩ := h.good hc
  obtain ⟨n, a, la, ca, SA, FA, b, lb, cb, SB, FB⟩ := A
  obtain ⟨n', a', la', ca', SA', FA', b', lb', cb', SB', FB'⟩ := B
  obtain ⟨fa, fl, fc, F⟩ := f
  simp only at e1 e2 e3 e4 e5 e1' e2' e3' e4' e5' e6 el
  subst e1 e2 e3 e4 e5 e1' e2' e3' e4' e5' e6 el
  exact refKeeps_any q b1 o1 ca b2 o2 cb _ _ _ _ q' b1' o1' ca' b2' o2' cb' _ _ _ _ fb fo fc _ w h1 h40 hlat h1' h40' hlat' hmp ht1 ht2 ht1' ht2' hr
theorem tops_keep {A B : LA} {f : MA} (g : GG A B f) (hK : KeepL A B f) : tops A.q A.m B.m f.f B.q = bkL A B f := by
  unfold tops bkL
  apply List.map_congr_left
  intro y hy
  rw [topA_keep g.la g.a1 g.lb g.b1 g.mp hK (List.mem_range.1 hy)]
  rfl
set_option maxHeartbeats 1000000 in
theorem backOfL_any {A B : LA} {f : MA} {u : Nat} {w : World} (h : GS A B f u w) (hc : GCk A B f 0) :
    Calls Try.prog 15 #[A.v, B.v, f.v] w fun e w' => (∃ v ok, e = .returned (.tuple #[v, .bool ok]) ∧ ((ok = false ∧ v = .slice none 0 0 ∧ ¬ KeepL A B f) ∨ (ok = true ∧ KeepL A B f ∧ NSl w' v (bkL A B f)))) ∧ Below w.heap.size w w' := by
  have gg := hc.gg.1
  have key : ∀ ok v w', BkIs A.q A.m B.m f.f B.q ok v w' → (ok = false ∧ v = .slice none 0 0 ∧ ¬ KeepL A B f) ∨ (ok = true ∧ KeepL A B f ∧ NSl w' v (bkL A B f)) := fun ok v w' hb => by
    by_cases hK : KeepL A B f
    · rcases hb with ⟨_, _, y, hy, h1⟩ | ⟨h1, _, h2⟩
      · rw [topA_keep gg.la gg.a1 gg.lb gg.b1 gg.mp hK hy] at h1
        omega
      · rw [tops_keep gg hK] at h2
        exact .inr ⟨h1, hK, h2⟩
    · rcases hb with ⟨h1, h2, _⟩ | ⟨_, h1, _⟩
      · exact .inl ⟨h1, h2, hK⟩
      · obtain ⟨y, hy, h2⟩ := topA_not gg.la gg.a1 gg.lb gg.b1 gg.mp hK
        exact absurd h2 (h1 y hy)
  obtain ⟨q, b1, o1, b2, o2, q', b1', o1', b2', o2', fb, fo, e1, e2, e3, e4, e5, e1', e2', e3', e4', e5', e6, el, h1, h40, hlat, h1', h40', hlat', hmp, eq, eq', ht1, ht2, ht1', ht2', hr⟩ := h.good hc
  obtain ⟨n, a, la, ca, SA, FA, b, lb, cb, SB, FB⟩ := A
  obtain ⟨n', a', la', ca', SA', FA', b', lb', cb', SB', FB'⟩ := B
  obtain ⟨fa, fl, fc, F⟩ := f
  simp only at e1 e2 e3 e4 e5 e1' e2' e3' e4' e5' e6 el
  subst e1 e2 e3 e4 e5 e1' e2' e3' e4' e5' e6 el
  refine (backOf_any q b1 o1 ca _ q cb _ _ q' b1' o1' ca' _ q' cb' _ _ fb fo fc _ w h40 h40' hmp ht1 ht1' hr).mono ?_
  rintro e w' ⟨⟨v, ok, rfl, hb⟩, hbw⟩
  exact ⟨⟨v, ok, rfl, key ok v w' hb⟩, hbw⟩
end Go.Proofs.Ytfbgcadlahiljaa
