/-
  What lattice.inBoth and lattice.isBelow answer. Conditions: the closure answers so of either table, in each world that leaves the first one as it was; at most forty elements.
  What hasselaw.pair answers: the lattice of two elements. No condition.
  A lattice whose tables lie there is one by Check; the lattice of two elements. No condition.
  hasselaw.quotientBegun returns true. No condition.
-/
import Derived.Test.YtappekjkcgmheabTogM
import Derived.Test.YtappekjkcgmheabLChk
import Derived.Test.YtappekjkcgmheabAllP
namespace Go.Proofs.Ytappekjkcgmheab
open Go.RowKit

/-- A closure that answers p of a table. -/
def Clo1 (F : Nat) (caps : Array Value) (V : Value) (p : Bool) (w : World) : Prop :=
  ∀ W : World, Below w.heap.size w W → Calls Try.prog F (#[V] ++ caps) W fun e w' => e = .returned (.bool p) ∧ Below W.heap.size W w'
theorem Clo1.step {F : Nat} {caps : Array Value} {V : Value} {p : Bool} {w W : World} (h : Clo1 F caps V p w) (hb : Below w.heap.size w W) : Clo1 F caps V p W :=
  fun W' hW => h W' (Below.then hb hW)

end Go.Proofs.Ytappekjkcgmheab
namespace Go.Proofs.Ytappekjkcgmheab
open Go.RowKit

theorem Tb.row {w : World} {b off n : Nat} {R : Nat → Nat × Nat × Nat} {m : Nat → Nat → Nat} (h : Tb w b off n R m) {x : Nat} (hx : x < n) : Row w (some ⟨(R x).1, (R x).2.1, none⟩) n (fun y => (m x y : Nat)) :=
  fun y hy => ⟨_, _, rfl, (h x hx).2 y hy⟩

/-- The lattice of two elements lies there. -/
def PairIs (x : Value) (w : World) : Prop := ∃ b b' R R', x = .agg #[.int .i64 2, .slice (some ⟨b, 0, none⟩) 2 2, .slice (some ⟨b', 0, none⟩) 2 2] ∧ Tb w b 0 2 R (fun x y => min x y) ∧ Tb w b' 0 2 R' (fun x y => max x y)
def pairW (w : World) : World :=
  ((((((w.alloc (.cells #[.int .i64 2, .slice (some ⟨w.heap.size + 1 + 1 + 1, 0, none⟩) 2 2, .slice (some ⟨w.heap.size + 1 + 1 + 1 + 1 + 1 + 1, 0, none⟩) 2 2] 24)).alloc (.cells #[.int .i64 0, .int .i64 0] 3)).alloc (.cells #[.int .i64 0, .int .i64 1] 3)).alloc
    (.cells #[.slice (some ⟨w.heap.size + 1, 0, none⟩) 2 2, .slice (some ⟨w.heap.size + 1 + 1, 0, none⟩) 2 2] 31)).alloc (.cells #[.int .i64 0, .int .i64 1] 3)).alloc (.cells #[.int .i64 1, .int .i64 1] 3)).alloc
    (.cells #[.slice (some ⟨w.heap.size + 1 + 1 + 1 + 1, 0, none⟩) 2 2, .slice (some ⟨w.heap.size + 1 + 1 + 1 + 1 + 1, 0, none⟩) 2 2] 31)
set_option maxHeartbeats 2000000 in
theorem pair_any (w : World) : Calls Try.prog 13 #[] w fun e w' => (∃ x, e = .returned x ∧ PairIs x w') ∧ Below w.heap.size w w' := by
  have HB : Hid (Below w.heap.size w (pairW w)) := by
    unfold pairW
    refine ((((((((Below.refl _ _).alloc (Nat.le_refl _) _).alloc ?_ _).alloc ?_ _).alloc ?_ _).alloc ?_ _).alloc ?_ _).alloc ?_ _) <;> simp <;> omega
  have HP : Hid (PairIs (.agg #[.int .i64 2, .slice (some ⟨w.heap.size + 1 + 1 + 1, 0, none⟩) 2 2, .slice (some ⟨w.heap.size + 1 + 1 + 1 + 1 + 1 + 1, 0, none⟩) 2 2]) (pairW w)) := by
    refine ⟨_, _, fun x => if x = 0 then (w.heap.size + 1, 0, 2) else (w.heap.size + 1 + 1, 0, 2), fun x => if x = 0 then (w.heap.size + 1 + 1 + 1 + 1, 0, 2) else (w.heap.size + 1 + 1 + 1 + 1 + 1, 0, 2), rfl, fun x hx => ?_, fun x hx => ?_⟩
    · rcases (by omega : x = 0 ∨ x = 1) with rfl | rfl
      · refine ⟨by simp [pairW, go_sem], fun y hy => ?_⟩
        rcases (by omega : y = 0 ∨ y = 1) with rfl | rfl <;> simp [pairW, go_sem]
      · refine ⟨by simp [pairW, go_sem], fun y hy => ?_⟩
        rcases (by omega : y = 0 ∨ y = 1) with rfl | rfl <;> simp [pairW, go_sem]
    · rcases (by omega : x = 0 ∨ x = 1) with rfl | rfl
      · refine ⟨by simp [pairW, go_sem], fun y hy => ?_⟩
        rcases (by omega : y = 0 ∨ y = 1) with rfl | rfl <;> simp [pairW, go_sem]
      · refine ⟨by simp [pairW, go_sem], fun y hy => ?_⟩
        rcases (by omega : y = 0 ∨ y = 1) with rfl | rfl <;> simp [pairW, go_sem]
  go_enter Try.func13, Try.ntmps13
  go_wp2_with fail
  exact bodyPost_ret (v := .agg #[.int .i64 2, .slice (some ⟨w.heap.size + 1 + 1 + 1, 0, none⟩) 2 2, .slice (some ⟨w.heap.size + 1 + 1 + 1 + 1 + 1 + 1, 0, none⟩) 2 2]) (by simp [results, Try.results13, go_sem]) rfl ⟨⟨_, rfl, HP.out⟩, HB.out⟩
end Go.Proofs.Ytappekjkcgmheab
namespace Go.Proofs.Ytappekjkcgmheab
open Go.RowKit

/-- A table as it comes in. -/
theorem Tb.rr {w : World} {b off n : Nat} {R : Nat → Nat × Nat × Nat} {m : Nat → Nat → Nat} (h : Tb w b off n R m) (hn : n ≤ maxLen) : RR w (some ⟨b, off, none⟩) n (fun x => (some ⟨(R x).1, (R x).2.1, none⟩, n, (R x).2.2)) (fun x y => (m x y : Nat)) :=
  fun k hk => ⟨b, off, rfl, (h k hk).1, hn, h.row hk⟩
theorem nat2_cast (m : Nat → Nat → Nat) : nat2 (fun x y => (m x y : Nat)) = m := by funext x y; simp [nat2]
theorem LCk.of {n : Nat} {SA SB : Nat → Option Addr × Nat × Nat} {m j : Nat → Nat → Nat} (h1 : 1 ≤ n) (h40 : n ≤ 40) (ha : ∀ x, x < n → (SA x).2.1 = n) (hb : ∀ x, x < n → (SB x).2.1 = n) (hL : Lat n m j) : LCk n n SA (fun x y => (m x y : Nat)) n SB (fun x y => (j x y : Nat)) 0 := by
  refine .inr ⟨⟨by omega, by omega⟩, .inr ⟨⟨⟨rfl, fun k hk => by rw [ha k hk]⟩, rfl, fun k hk => by rw [hb k hk]⟩, .inr ⟨⟨fun x hx y hy => ?_, fun x hx y hy => ?_⟩, .inr ⟨rfl, ?_, ?_⟩⟩⟩⟩
  · have := hL.im x y hx (by rw [ha x hx] at hy; exact hy); show 0 ≤ ((m x y : Nat) : Int) ∧ ((m x y : Nat) : Int) < (n : Int); omega
  · have := hL.ij x y hx (by rw [hb x hx] at hy; exact hy); show 0 ≤ ((j x y : Nat) : Int) ∧ ((j x y : Nat) : Int) < (n : Int); omega
  · rw [nat2_cast, nat2_cast]; exact hL.lm
  · rw [nat2_cast, nat2_cast]; exact hL.lj
theorem lat2 : Lat 2 (fun x y => min x y) (fun x y => max x y) := by
  refine ⟨fun x y hx hy => by omega, fun x y hx hy => by omega, lws_iff.2 fun x y z hx hy hz => ?_, lws_iff.2 fun x y z hx hy hz => ?_⟩ <;> refine ⟨by omega, by omega, by omega, by omega⟩
end Go.Proofs.Ytappekjkcgmheab
namespace Go.Proofs.Ytappekjkcgmheab
open Go.RowKit
set_option maxRecDepth 100000

theorem two_few {m j : Nat → Nat → Nat} {k : Nat} {G : Nat → Nat → Nat} (hc : ∀ a, a < k → Cg 2 m j (G a)) (hd : ∀ a b, a < b → b < k → ¬ ∀ i, i < 2 → G a i = G b i) : k ≤ 2 := by
  rcases Nat.lt_or_ge 2 k with h | h
  · exfalso
    have val : ∀ a, a < k → G a 0 = 0 ∧ G a 1 ≤ 1 := fun a ha => by
      obtain ⟨c, _, e⟩ := hc a ha
      have e0 := e 0 (by decide)
      have e1 := e 1 (by decide)
      have n0 := nbr_le' c 0
      have n1 := nbr_le' c 1
      omega
    have same : ∀ a b, a < k → b < k → G a 1 = G b 1 → ∀ i, i < 2 → G a i = G b i := fun a b ha hb e i hi => by
      rcases (by omega : i = 0 ∨ i = 1) with rfl | rfl
      · rw [(val a ha).1, (val b hb).1]
      · exact e
    have v0 := (val 0 (by omega)).2
    have v1 := (val 1 (by omega)).2
    have v2 := (val 2 (by omega)).2
    rcases (by omega : G 0 1 = G 1 1 ∨ G 0 1 = G 2 1 ∨ G 1 1 = G 2 1) with e | e | e
    · exact hd 0 1 (by omega) (by omega) (same 0 1 (by omega) (by omega) e)
    · exact hd 0 2 (by omega) (by omega) (same 0 2 (by omega) (by omega) e)
    · exact hd 1 2 (by omega) (by omega) (same 1 2 (by omega) (by omega) e)
  · exact h
theorem two_many {m j : Nat → Nat → Nat} {k : Nat} {G : Nat → Nat → Nat} (hall : ∀ d, Con 2 m j d → ∃ a, a < k ∧ ∀ i, i < 2 → G a i = nbr d i) : 2 ≤ k := by
  obtain ⟨a, ha, ea⟩ := hall (fun x => x) (fun x y z _ _ _ e => by
    obtain rfl : x = y := e
    exact ⟨rfl, rfl⟩)
  obtain ⟨b, hb, eb⟩ := hall (fun _ => 0) (fun _ _ _ _ _ _ _ => ⟨rfl, rfl⟩)
  have hne : a ≠ b := fun e => by
    subst e
    have h1 : nbr (fun x => x) 0 ≠ nbr (fun x => x) 1 := fun e => by have := nbr_ker.1 e; omega
    have h2 : nbr (fun _ => 0) 0 = nbr (fun _ => 0) 1 := nbr_ker.2 rfl
    have a0 := ea 0 (by decide)
    have a1 := ea 1 (by decide)
    have b0 := eb 0 (by decide)
    have b1 := eb 1 (by decide)
    exact h1 (by rw [← a0, ← a1, b0, b1]; exact h2)
  omega
theorem two_one {m j : Nat → Nat → Nat} {k : Nat} {G : Nat → Nat → Nat} (h : OP 2 m j 2 0 k G) : k = 1 := by
  obtain ⟨a, ha, _⟩ := h.all 1 0 (by omega) (by omega) (by omega)
  have key : ∀ a, a < k → Kn 2 m j [(1, 0)] (G a) := fun a ha => by
    obtain ⟨x, y, h1, h2, hk⟩ := h.come a ha
    obtain rfl : x = 1 := by omega
    obtain rfl : y = 0 := by omega
    exact hk
  rcases Nat.lt_or_ge 1 k with hh | hh
  · exact absurd ((key 0 (by omega)).one (key 1 hh)) (h.diff 0 1 (by omega) hh)
  · omega
set_option maxHeartbeats 2000000 in
theorem quotientBegun_any (w : World) : Calls Try.prog 5 #[] w fun e w' => e = .returned (.bool true) ∧ Below w.heap.size w w' := by
  go_enter Try.func5, Try.ntmps5
  go_wp2_with fail
  refine (pair_any _).mono ?_
  rintro e w1 ⟨⟨x, rfl, b, b', R, R', rfl, ht, ho⟩, hb1⟩
  have hl : (2 : Nat) ≤ maxLen := by unfold maxLen; omega
  have HL : ∀ {SA SB : Nat → Option Addr × Nat × Nat}, (∀ x, x < 2 → (SA x).2.1 = 2) → (∀ x, x < 2 → (SB x).2.1 = 2) → LCk 2 2 SA (fun x y => ((min x y : Nat) : Int)) 2 SB (fun x y => ((max x y : Nat) : Int)) 0 := fun ha hb => LCk.of (n := 2) (by omega) (by omega) ha hb lat2
  have HQ := (show Hid _ from all_any 2 _ 2 2 _ _ _ 2 2 _ _ w1 hl hl (ht.rr hl) (ho.rr hl))
  have HK := HL (SA := fun x => (some ⟨(R x).1, (R x).2.1, none⟩, 2, (R x).2.2)) (SB := fun x => (some ⟨(R' x).1, (R' x).2.1, none⟩, 2, (R' x).2.2)) (fun _ _ => rfl) (fun _ _ => rfl)
  have HB1 : Hid (Below w.heap.size w w1) := hb1
  clear ht ho hb1
  go_wp2_with fail
  refine Calls.mono HQ.out ?_
  rintro e w2 ⟨⟨c, v, rfl, hA⟩, hb2⟩
  obtain ⟨rfl, av, cv, rfl⟩ : c = 0 ∧ ∃ av cv, v = .slice av 2 cv := by
    rcases hA with ⟨h0, hk, _⟩ | ⟨_, ⟨_, _, k, G, h40, hcg, hdf⟩ | ⟨rfl, r, k, G, hcr, _, hcg, hso, hall⟩⟩
    · exact absurd (hk.one HK) h0
    · have := two_few hcg hdf; omega
    · have h1 := two_few hcg (fun a b hab hb e => cmp_irr (G b) 2 (cmp_congr e (fun _ _ => rfl) (hso a b hab hb)))
      have h2 := two_many hall
      obtain rfl : k = 2 := by omega
      exact ⟨rfl, slice_of hcr.own⟩
  have HB2 : Hid (Below w.heap.size w w2) := Below.then HB1.out hb2
  clear hA hb2 HQ HK HB1
  go_wp2_with fail
  refine (pair_any _).mono ?_
  rintro e w3 ⟨⟨x, rfl, b3, b3', R3, R3', rfl, ht, ho⟩, hb3⟩
  have HQ := (show Hid _ from simple_any 2 _ 2 2 _ _ _ 2 2 _ _ w3 hl hl (ht.rr hl) (ho.rr hl))
  have HK := HL (SA := fun x => (some ⟨(R3 x).1, (R3 x).2.1, none⟩, 2, (R3 x).2.2)) (SB := fun x => (some ⟨(R3' x).1, (R3' x).2.1, none⟩, 2, (R3' x).2.2)) (fun _ _ => rfl) (fun _ _ => rfl)
  have HB3 : Hid (Below w.heap.size w w3) := Below.then HB2.out hb3
  clear ht ho hb3 HL
  go_wp2_with fail
  refine Calls.mono HQ.out ?_
  rintro e w4 ⟨⟨c, t, rfl, hA⟩, hb4⟩
  obtain ⟨rfl, rfl⟩ : c = 0 ∧ t = true := by
    rcases hA with ⟨h0, hk, _⟩ | ⟨rfl, _, k, G, hop, rfl⟩
    · exact absurd (hk.one HK) h0
    · exact ⟨rfl, by rw [two_one hop]; rfl⟩
  have HB4 : Hid (Below w.heap.size w w4) := Below.then HB3.out hb4
  clear hA hb4 HQ HK
  go_wp2_with fail
  go_ret
  exact ⟨rfl, HB4.out⟩
end Go.Proofs.Ytappekjkcgmheab
