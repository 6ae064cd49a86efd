/-
  How a list of pairs that was handed in reads. No condition.
-/
import Derived.Test.YtgjdpgjaaaeglaaDoorMake
import Derived.Test.YtgjdpgjaaaeglaaDoorFrame
namespace Go.Proofs.YtgjdpgjaaaeglaaDoor
open Go.ChangeShapes Go.WideShapes Go.ChangeAt Go.RowKit Go.Joins

theorem Tryd.undRU : ∃ f0 f1, Tryd.prog.underlying 47 = some (.struct #[f0, f1]) ∧ f0.type = 3 ∧ f1.type = 3 ∧ f0.offset = 0 ∧ f1.offset = 1 := ⟨_, _, Tryd.underlying47, rfl, rfl, rfl, rfl⟩
theorem cells44 : Tryd.prog.cellsOf 47 = 2 := by kernel_rfl
theorem addr_flat (b off j : Nat) : Addr.add ⟨b, off, none⟩ j = ⟨b, off + j, none⟩ := by
  cases j <;> simp [Addr.add]
theorem prow_of_trod {H : Type} {enc : TypeId × Value → H} {w : World} {base : Nat} {spare : Nat → Bool} {held : Bool} {fuel : Nat} {v : Value} {x : DataW H × List MemPlace}
    (h : DataW.trod enc Tryd.prog w base spare held fuel 22 [v] = some x) : ∃ a len cap p, v = .slice a len cap ∧ len ≤ maxLen ∧ PRow w a len p := by
  rcases DataW.trod_slice Tryd.underlying22 h with ⟨hcs, _⟩ | ⟨a, len, cap, elems, rest, n, _, hcs, _, _, hl, hm, hlen, hel, _, _⟩
  · simp at hcs
    exact ⟨none, 0, 0, fun _ => (0, 0), hcs, by unfold maxLen; omega, fun k hk => absurd hk (Nat.not_lt_zero _)⟩
  · simp at hcs
    have key : ∀ k, k < len → ∃ n1 n2 : Int, w.cell? ((a.add (k * 2)).add 0) = some (.int .i64 n1) ∧ w.cell? ((a.add (k * 2)).add 1) = some (.int .i64 n2) := fun k hk => by
      have h1 := hel k hk
      rw [cells44, List.getElem?_eq_getElem (by omega), Option.bind_eq_some_iff] at h1
      obtain ⟨cs, h2, h3⟩ := h1
      obtain ⟨g0, g1, hu, t0, t1, o0, o1⟩ := Tryd.undRU
      obtain ⟨y0, y1, m, _, hcl, e0, e1⟩ := trod_struct2 hu h3
      have hq := World.cells?_some h2
      rw [cells44] at hcl
      rw [t0, o0, cells3] at e0
      rw [t1, o1, cells3] at e1
      obtain ⟨n1, f1, _, _⟩ := DataW.trod_int Tryd.underlying3 e0
      obtain ⟨n2, f2, _, _⟩ := DataW.trod_int Tryd.underlying3 e1
      match cs, hcl, f1, f2, hq with
      | [c0, c1], _, f1, f2, hq =>
        simp at f1 f2
        subst f1
        subst f2
        exact ⟨n1, n2, hq.2.2 0 (by omega), hq.2.2 1 (by omega)⟩
    by_cases h0 : len = 0
    · subst h0
      exact ⟨some a, 0, cap, fun _ => (0, 0), hcs, by omega, fun k hk => absurd hk (Nat.not_lt_zero _)⟩
    obtain ⟨b, off, spot⟩ := a
    have hspot : spot = none := by
      obtain ⟨n1, n2, k1, _⟩ := key 0 (by omega)
      simpa [Addr.add] using World.cell?_spot k1
    subst hspot
    have key2 : ∀ k, ∃ q : Int × Int, k < len → w.cell? ⟨b, off + k * 2, none⟩ = some (.int .i64 q.1) ∧ w.cell? ⟨b, off + k * 2 + 1, none⟩ = some (.int .i64 q.2) := fun k => by
      by_cases hk : k < len
      · obtain ⟨n1, n2, h1, h2⟩ := key k hk
        rw [addr_flat, addr_flat, Nat.add_zero] at h1
        rw [addr_flat, addr_flat] at h2
        exact ⟨(n1, n2), fun _ => ⟨h1, h2⟩⟩
      · exact ⟨(0, 0), fun h => absurd h hk⟩
    obtain ⟨p, hp⟩ := Classical.axiomOfChoice key2
    exact ⟨some ⟨b, off, none⟩, len, cap, p, hcs, by omega, fun k hk => ⟨b, off, rfl, hp k hk⟩⟩

end Go.Proofs.YtgjdpgjaaaeglaaDoor
