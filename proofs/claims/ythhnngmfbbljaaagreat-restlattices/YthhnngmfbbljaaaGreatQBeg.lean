/-
  hasselaw.quotientBegun returns true. No condition.
-/
import Derived.Test.YthhnngmfbbljaaaGreatAllP
import Derived.Test.YthhnngmfbbljaaaGreatSpoM
namespace Go.Proofs.YthhnngmfbbljaaaGreat
open Go.RowKit
set_option maxRecDepth 100000

theorem two_few {m j : Nat → Nat → Nat} {k : Nat} {G : Nat → Nat → Nat} (hc : ∀ a, a < k → Cg 2 m j (G a)) (hd : ∀ a b, a < b → b < k → ¬ ∀ i, i < 2 → G a i = G b i) : k ≤ 2 := by
  rcases Nat.lt_or_ge 2 k with h | h
  · exfalso
    have val : ∀ a, a < k → G a 0 = 0 ∧ G a 1 ≤ 1 := fun a ha => by
      obtain ⟨c, _, e⟩ := hc a ha
      have e0 := e 0 (by decide)
      have e1 := e 1 (by decide)
      have n0 := nbr_le' c 0
      have n1 := nbr_le' c 1
      omega
    have same : ∀ a b, a < k → b < k → G a 1 = G b 1 → ∀ i, i < 2 → G a i = G b i := fun a b ha hb e i hi => by
      rcases (by omega : i = 0 ∨ i = 1) with rfl | rfl
      · rw [(val a ha).1, (val b hb).1]
      · exact e
    have v0 := (val 0 (by omega)).2
    have v1 := (val 1 (by omega)).2
    have v2 := (val 2 (by omega)).2
    rcases (by omega : G 0 1 = G 1 1 ∨ G 0 1 = G 2 1 ∨ G 1 1 = G 2 1) with e | e | e
    · exact hd 0 1 (by omega) (by omega) (same 0 1 (by omega) (by omega) e)
    · exact hd 0 2 (by omega) (by omega) (same 0 2 (by omega) (by omega) e)
    · exact hd 1 2 (by omega) (by omega) (same 1 2 (by omega) (by omega) e)
  · exact h
theorem two_many {m j : Nat → Nat → Nat} {k : Nat} {G : Nat → Nat → Nat} (hall : ∀ d, Con 2 m j d → ∃ a, a < k ∧ ∀ i, i < 2 → G a i = nbr d i) : 2 ≤ k := by
  obtain ⟨a, ha, ea⟩ := hall (fun x => x) (fun x y z _ _ _ e => by
    obtain rfl : x = y := e
    exact ⟨rfl, rfl⟩)
  obtain ⟨b, hb, eb⟩ := hall (fun _ => 0) (fun _ _ _ _ _ _ _ => ⟨rfl, rfl⟩)
  have hne : a ≠ b := fun e => by
    subst e
    have h1 : nbr (fun x => x) 0 ≠ nbr (fun x => x) 1 := fun e => by have := nbr_ker.1 e; omega
    have h2 : nbr (fun _ => 0) 0 = nbr (fun _ => 0) 1 := nbr_ker.2 rfl
    have a0 := ea 0 (by decide)
    have a1 := ea 1 (by decide)
    have b0 := eb 0 (by decide)
    have b1 := eb 1 (by decide)
    exact h1 (by rw [← a0, ← a1, b0, b1]; exact h2)
  omega
theorem two_one {m j : Nat → Nat → Nat} {k : Nat} {G : Nat → Nat → Nat} (h : OP 2 m j 2 0 k G) : k = 1 := by
  obtain ⟨a, ha, _⟩ := h.all 1 0 (by omega) (by omega) (by omega)
  have key : ∀ a, a < k → Kn 2 m j [(1, 0)] (G a) := fun a ha => by
    obtain ⟨x, y, h1, h2, hk⟩ := h.come a ha
    obtain rfl : x = 1 := by omega
    obtain rfl : y = 0 := by omega
    exact hk
  rcases Nat.lt_or_ge 1 k with hh | hh
  · exact absurd ((key 0 (by omega)).one (key 1 hh)) (h.diff 0 1 (by omega) hh)
  · omega
set_option maxHeartbeats 2000000 in
theorem quotientBegun_any (w : World) : Calls Tryz.prog 7 #[] w fun e w' => e = .returned (.bool true) ∧ Below w.heap.size w w' := by
  go_enter Tryz.func7, Tryz.ntmps7
  go_wp2_with fail
  refine (pair_any _).mono ?_
  rintro e w1 ⟨⟨x, rfl, b, b', R, R', rfl, ht, ho⟩, hb1⟩
  have hl : (2 : Nat) ≤ maxLen := by unfold maxLen; omega
  have HL : ∀ {SA SB : Nat → Option Addr × Nat × Nat}, (∀ x, x < 2 → (SA x).2.1 = 2) → (∀ x, x < 2 → (SB x).2.1 = 2) → LCk 2 2 SA (fun x y => ((min x y : Nat) : Int)) 2 SB (fun x y => ((max x y : Nat) : Int)) 0 := fun ha hb => LCk.of (n := 2) (by omega) (by omega) ha hb lat2
  have HQ := (show Hid _ from qall_any 2 _ 2 2 _ _ _ 2 2 _ _ w1 hl hl (ht.rr hl) (ho.rr hl))
  have HK := HL (SA := fun x => (some ⟨(R x).1, (R x).2.1, none⟩, 2, (R x).2.2)) (SB := fun x => (some ⟨(R' x).1, (R' x).2.1, none⟩, 2, (R' x).2.2)) (fun _ _ => rfl) (fun _ _ => rfl)
  have HB1 : Hid (Below w.heap.size w w1) := hb1
  clear ht ho hb1
  go_wp2_with fail
  refine Calls.mono HQ.out ?_
  rintro e w2 ⟨⟨c, v, rfl, hA⟩, hb2⟩
  obtain ⟨rfl, av, cv, rfl⟩ : c = 0 ∧ ∃ av cv, v = .slice av 2 cv := by
    rcases hA with ⟨h0, hk, _⟩ | ⟨_, ⟨_, _, k, G, h40, hcg, hdf⟩ | ⟨rfl, r, k, G, hcr, _, hcg, hso, hall⟩⟩
    · exact absurd (hk.one HK) h0
    · have := two_few hcg hdf; omega
    · have h1 := two_few hcg (fun a b hab hb e => cmp_irr (G b) 2 (cmp_congr e (fun _ _ => rfl) (hso a b hab hb)))
      have h2 := two_many hall
      obtain rfl : k = 2 := by omega
      exact ⟨rfl, slice_of hcr.own⟩
  have HB2 : Hid (Below w.heap.size w w2) := Below.then HB1.out hb2
  clear hA hb2 HQ HK HB1
  go_wp2_with fail
  refine (pair_any _).mono ?_
  rintro e w3 ⟨⟨x, rfl, b3, b3', R3, R3', rfl, ht, ho⟩, hb3⟩
  have HQ := (show Hid _ from simple_any 2 _ 2 2 _ _ _ 2 2 _ _ w3 hl hl (ht.rr hl) (ho.rr hl))
  have HK := HL (SA := fun x => (some ⟨(R3 x).1, (R3 x).2.1, none⟩, 2, (R3 x).2.2)) (SB := fun x => (some ⟨(R3' x).1, (R3' x).2.1, none⟩, 2, (R3' x).2.2)) (fun _ _ => rfl) (fun _ _ => rfl)
  have HB3 : Hid (Below w.heap.size w w3) := Below.then HB2.out hb3
  clear ht ho hb3 HL
  go_wp2_with fail
  refine Calls.mono HQ.out ?_
  rintro e w4 ⟨⟨c, t, rfl, hA⟩, hb4⟩
  obtain ⟨rfl, rfl⟩ : c = 0 ∧ t = true := by
    rcases hA with ⟨h0, hk, _⟩ | ⟨rfl, _, k, G, hop, rfl⟩
    · exact absurd (hk.one HK) h0
    · exact ⟨rfl, by rw [two_one hop]; rfl⟩
  have HB4 : Hid (Below w.heap.size w w4) := Below.then HB3.out hb4
  clear hA hb4 HQ HK
  go_wp2_with fail
  go_ret
  exact ⟨rfl, HB4.out⟩
end Go.Proofs.YthhnngmfbbljaaaGreat
