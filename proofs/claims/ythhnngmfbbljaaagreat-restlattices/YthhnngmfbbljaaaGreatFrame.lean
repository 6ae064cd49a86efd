/-
  How arguments that come in are read: an order, a lattice, a context, a slice of numbers; what their reach says of their lengths. No condition.
-/
import Derived.Test.YthhnngmfbbljaaaGreatLRows
import Derived.ProofKit
import Derived.OpenShut
import Derived.ChangeOld
import Derived.Below
import Derived.SizedLaws
import Derived.Lib.SmallJoins
namespace Go.Proofs.YthhnngmfbbljaaaGreat
set_option maxRecDepth 100000
open Go.ChangeShapes Go.WideShapes Go.ChangeAt Go.RowKit Go.Joins

theorem own : ownKnob Tryz.prog.godebug = none := by kernel_rfl
theorem laidOut : laidOutB Tryz.prog = true := by kernel_rfl
theorem cellsCA : Tryz.prog.cellsOf 29 = 3 := by kernel_rfl
theorem cellsLA : Tryz.prog.cellsOf 27 = 3 := by kernel_rfl
theorem cells24 : Tryz.prog.cellsOf 24 = 2 := by kernel_rfl
theorem cells3 : Tryz.prog.cellsOf 3 = 1 := by kernel_rfl
theorem cellsLI : Tryz.prog.cellsOf 22 = 1 := by kernel_rfl
theorem addr_flat (b off j : Nat) : Addr.add ⟨b, off, none⟩ j = ⟨b, off + j, none⟩ := by
  cases j <;> simp [Addr.add]
/-- A slice of numbers that came in is a row. -/
theorem row_of_trod {H : Type} {enc : TypeId × Value → H} {w : World} {base : Nat} {spare : Nat → Bool} {held : Bool} {fuel : Nat} {v : Value} {x : DataW H × List MemPlace}
    (h : DataW.trod enc Tryz.prog w base spare held fuel 22 [v] = some x) (hs : ∀ n ∈ x.1.weights Tryz.prog 22, n ≤ reachBytes) : ∃ a len cap f, v = .slice a len cap ∧ len ≤ 17592186043904 ∧ Row w a len f := by
  rcases open_ints Tryz.underlying22 Tryz.underlying3 cells3 h with ⟨hcs, _⟩ | ⟨a, len, cap, zs, hcs, _, hl, hm, hz, hx, hcell, _⟩
  · simp at hcs
    exact ⟨none, 0, 0, fun _ => 0, hcs, by omega, fun k hk => absurd hk (Nat.not_lt_zero _)⟩
  · simp at hcs
    have hlen : len ≤ zs.length := by rw [hz]; split <;> omega
    have hb : Tryz.prog.bytesOf 3 = 8 := by kernel_rfl
    have h1 := hs (((lits .i64 (zs.take len)).length + (lits .i64 (zs.drop len)).length) * Tryz.prog.bytesOf 3) (by rw [hx]; simp [DataW.weights, Tryz.underlying22]; exact .inl rfl)
    rw [hb] at h1
    simp only [lits, List.length_map, List.length_take, List.length_drop, reachBytes] at h1
    refine ⟨some a, len, cap, fun k => zs.getD k 0, hcs, by omega, fun k hk => ?_⟩
    have hc := hcell k (by omega)
    obtain ⟨b, off, spot⟩ := a
    have hspot : spot = none := by simpa [Addr.add] using World.cell?_spot (hcell 0 (by omega))
    subst hspot
    refine ⟨b, off, rfl, ?_⟩
    by_cases e : k = 0
    · subst e; simpa [Addr.add] using hc
    · simpa [Addr.add, e] using hc
theorem weightsAll_mem {H : Type} {P : Program} {e : TypeId} : ∀ {l : List (DataW H)} {d : DataW H}, d ∈ l → ∀ n ∈ d.weights P e, n ∈ DataW.weightsAll P e l
  | [], _, h, _, _ => by cases h
  | a :: r, d, h, n, hn => by
    simp only [DataW.weightsAll, List.mem_append]
    rcases List.mem_cons.1 h with rfl | h
    · exact .inl hn
    · exact .inr (weightsAll_mem h n hn)
theorem rr_of_trod {H : Type} {enc : TypeId × Value → H} {w : World} {base : Nat} {spare : Nat → Bool} {held : Bool} {fuel : Nat} {v : Value} {x : DataW H × List MemPlace}
    (h : DataW.trod enc Tryz.prog w base spare held fuel 25 [v] = some x) (hs : ∀ n ∈ x.1.weights Tryz.prog 25, n ≤ reachBytes) :
    ∃ a len cap S F, v = .slice a len cap ∧ len ≤ 5864062014805 ∧ (∀ k, k < len → (S k).2.1 ≤ 17592186043904) ∧ RR w a len S F := by
  rcases DataW.trod_slice Tryz.underlying25 h with ⟨hcs, _⟩ | ⟨a, len, cap, elems, rest, n, _, hcs, hx, _, hl, hm, hlen, hel, _, _⟩
  · simp at hcs
    exact ⟨none, 0, 0, fun _ => (none, 0, 0), fun _ _ => 0, hcs, by omega, fun k hk => absurd hk (Nat.not_lt_zero _), fun k hk => absurd hk (Nat.not_lt_zero _)⟩
  · simp at hcs
    have hb : Tryz.prog.bytesOf 22 = 24 := by kernel_rfl
    have h1 := hs (((elems.map (·.1)).length + (rest.map (·.1)).length) * Tryz.prog.bytesOf 22) (by rw [hx]; simp only [DataW.weights, Tryz.underlying25]; exact List.mem_cons_self ..)
    rw [hb] at h1
    simp only [List.length_map, reachBytes] at h1
    have hel2 : ∀ y ∈ elems, ∀ n ∈ y.1.weights Tryz.prog 22, n ≤ reachBytes := fun y hy n hn => hs n (by
      rw [hx]; simp only [DataW.weights, Tryz.underlying25]
      exact List.mem_cons_of_mem _ (List.mem_append_left _ (weightsAll_mem (List.mem_map_of_mem hy) n hn)))
    have key : ∀ k, k < len → ∃ (s : Option Addr × Nat × Nat) (f : Nat → Int), w.cell? (a.add k) = some (.slice s.1 s.2.1 s.2.2) ∧ s.2.1 ≤ 17592186043904 ∧ Row w s.1 s.2.1 f := fun k hk => by
      have h1 := hel k hk
      rw [cellsLI, Nat.mul_one, List.getElem?_eq_getElem (by omega), Option.bind_eq_some_iff] at h1
      obtain ⟨cs, h2, h3⟩ := h1
      have hq := World.cells?_some h2
      match cs, hq, h3 with
      | [c0], hq, h3 =>
        obtain ⟨a', len', cap', f, rfl, hl', hr'⟩ := row_of_trod h3 (hel2 _ (List.getElem_mem _))
        refine ⟨(a', len', cap'), f, ?_, hl', hr'⟩
        have := hq.2.2 0 (by omega)
        simpa [Addr.add] using this
    by_cases h0 : len = 0
    · subst h0
      exact ⟨some a, 0, cap, fun _ => (none, 0, 0), fun _ _ => 0, hcs, by omega, fun k hk => absurd hk (Nat.not_lt_zero _), fun k hk => absurd hk (Nat.not_lt_zero _)⟩
    obtain ⟨b, off, spot⟩ := a
    have hspot : spot = none := by
      obtain ⟨s, f, k1, _⟩ := key 0 (by omega)
      simpa [Addr.add] using World.cell?_spot k1
    subst hspot
    have key2 : ∀ k, ∃ q : (Option Addr × Nat × Nat) × (Nat → Int), k < len → w.cell? ⟨b, off + k, none⟩ = some (.slice q.1.1 q.1.2.1 q.1.2.2) ∧ q.1.2.1 ≤ 17592186043904 ∧ Row w q.1.1 q.1.2.1 q.2 := fun k => by
      by_cases hk : k < len
      · obtain ⟨s, f, h1, h2, h3⟩ := key k hk
        rw [addr_flat] at h1
        exact ⟨(s, f), fun _ => ⟨h1, h2, h3⟩⟩
      · exact ⟨((none, 0, 0), fun _ => 0), fun h => absurd h hk⟩
    obtain ⟨p, hp⟩ := Classical.axiomOfChoice key2
    exact ⟨some ⟨b, off, none⟩, len, cap, fun k => (p k).1, fun k => (p k).2, hcs, by omega, fun k hk => (hp k hk).2.1, fun k hk => ⟨b, off, rfl, (hp k hk).1, by have := (hp k hk).2.1; show (p k).1.2.1 ≤ 9223372036854775807; omega, (hp k hk).2.2⟩⟩
end Go.Proofs.YthhnngmfbbljaaaGreat
