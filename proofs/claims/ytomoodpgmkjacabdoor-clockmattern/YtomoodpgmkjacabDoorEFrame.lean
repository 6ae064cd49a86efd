/-
  How a list of events that was handed in reads. No condition.
-/
import Derived.Test.YtomoodpgmkjacabDoorClM
import Derived.Test.YtomoodpgmkjacabDoorFrame
import Derived.Deep.Strs
namespace Go.Proofs.YtomoodpgmkjacabDoor
open Go.ChangeShapes Go.WideShapes Go.ChangeAt Go.RowKit Go.Joins

theorem Tryd.undEV : ∃ f0 f1 f2, Tryd.prog.underlying 38 = some (.struct #[f0, f1, f2]) ∧ (f0.type = 3 ∧ f1.type = 3 ∧ f2.type = 3) ∧ f0.offset = 0 ∧ f1.offset = 1 ∧ f2.offset = 2 := ⟨_, _, _, Tryd.underlying38, ⟨rfl, rfl, rfl⟩, rfl, rfl, rfl⟩
theorem cellsEV : Tryd.prog.cellsOf 38 = 3 := by kernel_rfl
theorem addr_flatE (b off j : Nat) : Addr.add ⟨b, off, none⟩ j = ⟨b, off + j, none⟩ := by
  cases j <;> simp [Addr.add]
theorem trod_struct3E {H : Type} {enc : TypeId × Value → H} {P : Program} {w : World} {base : Nat} {spare : Nat → Bool} {held : Bool} {t : TypeId} {f0 f1 f2 : Field} {fuel : Nat} {cs : List Value} {x : DataW H × List MemPlace} (ht : P.underlying t = some (.struct #[f0, f1, f2])) (h : DataW.trod enc P w base spare held fuel t cs = some x) :
    ∃ y0 y1 y2 n, cs.length = P.cellsOf t ∧ DataW.trod enc P w base spare held n f0.type ((cs.drop f0.offset).take (P.cellsOf f0.type)) = some y0 ∧
      DataW.trod enc P w base spare held n f1.type ((cs.drop f1.offset).take (P.cellsOf f1.type)) = some y1 ∧ DataW.trod enc P w base spare held n f2.type ((cs.drop f2.offset).take (P.cellsOf f2.type)) = some y2 := by
  obtain ⟨xs, n, _, rfl, hl, hlen, hf⟩ := DataW.trod_struct ht h
  match xs, hlen with
  | [y0, y1, y2], _ => exact ⟨y0, y1, y2, n, hl, by simpa using hf 0 f0 rfl, by simpa using hf 1 f1 rfl, by simpa using hf 2 f2 rfl⟩
theorem erow_of_trod {H : Type} {enc : TypeId × Value → H} {w : World} {base : Nat} {spare : Nat → Bool} {held : Bool} {fuel : Nat} {v : Value} {x : DataW H × List MemPlace}
    (h : DataW.trod enc Tryd.prog w base spare held fuel 22 [v] = some x) : ∃ a len cap E, v = .slice a len cap ∧ len ≤ maxLen ∧ len ≤ cap ∧ ERow w a len E := by
  rcases DataW.trod_slice Tryd.underlying22 h with ⟨hcs, _⟩ | ⟨a, len, cap, elems, rest, n, _, hcs, _, _, hl, hm, hlen, hel, _, _⟩
  · simp at hcs
    exact ⟨none, 0, 0, fun _ => (0, 0, 0), hcs, by unfold maxLen; omega, Nat.le_refl _, fun k hk => absurd hk (Nat.not_lt_zero _)⟩
  · simp at hcs
    have key : ∀ k, k < len → ∃ n1 n2 n3 : Int, w.cell? ((a.add (k * 3)).add 0) = some (.int .i64 n1) ∧ w.cell? ((a.add (k * 3)).add 1) = some (.int .i64 n2) ∧ w.cell? ((a.add (k * 3)).add 2) = some (.int .i64 n3) := fun k hk => by
      have h1 := hel k hk
      rw [cellsEV, List.getElem?_eq_getElem (by omega), Option.bind_eq_some_iff] at h1
      obtain ⟨cs, h2, h3⟩ := h1
      obtain ⟨g0, g1, g2, hu, ⟨t0, t1, t2⟩, o0, o1, o2⟩ := Tryd.undEV
      obtain ⟨y0, y1, y2, m, hcl, e0, e1, e2⟩ := trod_struct3E hu h3
      have hq := World.cells?_some h2
      rw [cellsEV] at hcl
      rw [t0, o0, cells3] at e0
      rw [t1, o1, cells3] at e1
      rw [t2, o2, cells3] at e2
      obtain ⟨n1, f1, _, _⟩ := DataW.trod_int Tryd.underlying3 e0
      obtain ⟨n2, f2, _, _⟩ := DataW.trod_int Tryd.underlying3 e1
      obtain ⟨n3, f3, _, _⟩ := DataW.trod_int Tryd.underlying3 e2
      match cs, hcl, f1, f2, f3, hq with
      | [c0, c1, c2], _, f1, f2, f3, hq =>
        simp at f1 f2 f3
        subst f1
        subst f2
        subst f3
        exact ⟨n1, n2, n3, hq.2.2 0 (by omega), hq.2.2 1 (by omega), hq.2.2 2 (by omega)⟩
    by_cases h0 : len = 0
    · subst h0
      exact ⟨some a, 0, cap, fun _ => (0, 0, 0), hcs, by omega, by omega, fun k hk => absurd hk (Nat.not_lt_zero _)⟩
    obtain ⟨b, off, spot⟩ := a
    have hspot : spot = none := by
      obtain ⟨n1, n2, n3, k1, _⟩ := key 0 (by omega)
      simpa [Addr.add] using World.cell?_spot k1
    subst hspot
    have key2 : ∀ k, ∃ q : Int × Int × Int, k < len → w.cell? ⟨b, off + k * 3, none⟩ = some (.int .i64 q.1) ∧ w.cell? ⟨b, off + k * 3 + 1, none⟩ = some (.int .i64 q.2.1) ∧ w.cell? ⟨b, off + k * 3 + 2, none⟩ = some (.int .i64 q.2.2) := fun k => by
      by_cases hk : k < len
      · obtain ⟨n1, n2, n3, h1, h2, h3⟩ := key k hk
        rw [addr_flatE, addr_flatE, Nat.add_zero] at h1
        rw [addr_flatE, addr_flatE] at h2
        rw [addr_flatE, addr_flatE] at h3
        exact ⟨(n1, n2, n3), fun _ => ⟨h1, h2, h3⟩⟩
      · exact ⟨(0, 0, 0), fun h => absurd h hk⟩
    obtain ⟨E, hE⟩ := Classical.axiomOfChoice key2
    exact ⟨some ⟨b, off, none⟩, len, cap, E, hcs, by omega, by omega, fun k hk => ⟨b, off, rfl, hE k hk⟩⟩
end Go.Proofs.YtomoodpgmkjacabDoor
