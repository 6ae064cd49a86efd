/-
  hasselaw.QuotientSimple returns true for every lattice. No condition but that slices read as slices of rows.
  How arguments that come in are read: an order, a slice of numbers. No condition.
  How a lattice that was handed in reads. No condition.
-/
import Derived.Test.YtappekjkcgmheabQBeg
import Derived.Test.YtappekjkcgmheabFunA
import Derived.Test.YtappekjkcgmheabFunM
import Derived.Test.YtappekjkcgmheabRefCheck
import Derived.ProofKit
import Derived.OpenShut
import Derived.ChangeOld
import Derived.Below
import Derived.Lib.SmallJoins
import Derived.Test.YtappekjkcgmheabLRows
namespace Go.Proofs.Ytappekjkcgmheab
open Go.RowKit
set_option maxRecDepth 100000

/-- What was handed in lies in a world: the lattice and its box. -/
structure QL (n : Int) (a : Option Addr) (la ca : Nat) (SA : Nat → Option Addr × Nat × Nat) (FA : Nat → Nat → Int) (b : Option Addr) (lb cb : Nat) (SB : Nat → Option Addr × Nat × Nat) (FB : Nat → Nat → Int) (B : Nat) (w : World) : Prop where
  ra : RR w a la SA FA
  rb : RR w b lb SB FB
  bx : LB w B n a la ca b lb cb
theorem QL.step {n : Int} {a : Option Addr} {la ca : Nat} {SA : Nat → Option Addr × Nat × Nat} {FA : Nat → Nat → Int} {b : Option Addr} {lb cb : Nat} {SB : Nat → Option Addr × Nat × Nat} {FB : Nat → Nat → Int} {B : Nat} {w w' : World} (h : QL n a la ca SA FA b lb cb SB FB B w) (hb : Below w.heap.size w w') : QL n a la ca SA FA b lb cb SB FB B w' :=
  ⟨h.ra.below hb, h.rb.below hb, h.bx.step hb⟩
theorem QL.new {n : Int} {a : Option Addr} {la ca : Nat} {SA : Nat → Option Addr × Nat × Nat} {FA : Nat → Nat → Int} {b : Option Addr} {lb cb : Nat} {SB : Nat → Option Addr × Nat × Nat} {FB : Nat → Nat → Int} {w : World} (hra : RR w a la SA FA) (hrb : RR w b lb SB FB) : QL n a la ca SA FA b lb cb SB FB w.heap.size (w.alloc (.cells #[.int .i64 n, .slice a la ca, .slice b lb cb] 24)) := by
  have hb0 : Below w.heap.size w (w.alloc (.cells #[.int .i64 n, .slice a la ca, .slice b lb cb] 24)) := (Below.refl _ _).alloc (Nat.le_refl _) _
  exact ⟨hra.below hb0, hrb.below hb0, LB.new _ _ _ _ _ _ _ _⟩
theorem op_one {m j : Nat → Nat → Nat} {k : Nat} {H : Nat → Nat → Nat} (h : OP 1 m j 1 0 k H) : k = 0 := by
  rcases Nat.eq_zero_or_pos k with h0 | h0
  · exact h0
  · obtain ⟨x, y, h1, h2, _⟩ := h.come 0 h0
    omega

set_option maxHeartbeats 8000000 in
theorem quotientSimple_any (n : Int) (a : Option Addr) (la ca : Nat) (SA : Nat → Option Addr × Nat × Nat) (FA : Nat → Nat → Int) (b : Option Addr) (lb cb : Nat) (SB : Nat → Option Addr × Nat × Nat) (FB : Nat → Nat → Int) (w : World) (hla : la ≤ maxLen) (hlb : lb ≤ maxLen) (hra : RR w a la SA FA) (hrb : RR w b lb SB FB) :
    Calls Try.prog 4 #[.agg #[.int .i64 n, .slice a la ca, .slice b lb cb]] w fun e w' => e = .returned (.bool true) ∧ Below w.heap.size w w' := by
  have HB0 : Hid (Below w.heap.size w (w.alloc (.cells #[.int .i64 n, .slice a la ca, .slice b lb cb] 24))) := (Below.refl _ _).alloc (Nat.le_refl _) _
  have HS : Hid (QL n a la ca SA FA b lb cb SB FB w.heap.size (w.alloc (.cells #[.int .i64 n, .slice a la ca, .slice b lb cb] 24))) := QL.new hra hrb
  clear hra hrb
  go_enter Try.func4, Try.ntmps4
  go_wp2_with fail
  refine (quotientBegun_any _).mono ?_
  rintro e w1 ⟨rfl, hb1⟩
  have HB1 : Hid (Below w.heap.size w w1) := Below.then HB0.out hb1
  have HS1 : Hid (QL n a la ca SA FA b lb cb SB FB w.heap.size w1) := HS.out.step hb1
  clear hb1 HB0 HS
  obtain ⟨k0, k1, k2⟩ := HS1.out.bx
  go_wp2_with fail
  refine (simple_any n a la ca SA FA b lb cb SB FB _ hla hlb HS1.out.ra HS1.out.rb).mono ?_
  rintro e w2 ⟨⟨d, t, rfl, hd⟩, hb2⟩
  have HB2 : Hid (Below w.heap.size w w2) := Below.then HB1.out hb2
  have HS2 : Hid (QL n a la ca SA FA b lb cb SB FB w.heap.size w2) := HS1.out.step hb2
  have HSM : Hid (SmIs n la SA FA lb SB FB d t) := hd
  clear hd hb2 HB1 HS1 k0 k1 k2
  obtain ⟨k0, k1, k2⟩ := HS2.out.bx
  go_wp2_with fail
  refine (distr_any n a la ca SA FA b lb cb SB FB _ hla hlb HS2.out.ra HS2.out.rb).mono ?_
  rintro e w3 ⟨⟨c, v, hc, rfl, hv⟩, hb3⟩
  have HB3 : Hid (Below w.heap.size w w3) := Below.then HB2.out hb3
  have HS3 : Hid (QL n a la ca SA FA b lb cb SB FB w.heap.size w3) := HS2.out.step hb3
  have HC : Hid (LCk n la SA FA lb SB FB c) := hc
  have HV : Hid ((c ≠ 0 ∧ v = false) ∨ (c = 0 ∧ (v = true ↔ All3 n.toNat (disB (nat2 FA) (nat2 FB))))) := hv
  clear hc hv hb3 HB2 HS2 k0 k1 k2
  by_cases h0 : c = 0
  · subst h0
    have HVV : Hid (v = true ↔ All3 n.toNat (disB (nat2 FA) (nat2 FB))) := by
      rcases HV.out with ⟨h, _⟩ | ⟨_, h⟩
      · exact absurd rfl h
      · exact h
    obtain ⟨rfl, k, H, hop, rfl⟩ : d = 0 ∧ ∃ k H, OP n.toNat (nat2 FA) (nat2 FB) n.toNat 0 k H ∧ t = (k == 1) := by
      rcases HSM.out with ⟨h, hh, _⟩ | ⟨h, _, k, H, h1, h2⟩
      · exact absurd (hh.one HC.out) h
      · exact ⟨h, k, H, h1, h2⟩
    obtain ⟨q, rfl, h1, h40, hrest⟩ := HC.out.good
    have hLat := hrest.2.2.2.2.2.2
    clear hrest
    simp only [Int.toNat_natCast] at hop HVV
    have HOP : Hid (OP q (nat2 FA) (nat2 FB) q 0 k H) := hop
    have HT1 : Hid (k = 1 → v = true → q = 2) := fun e hv => by
      subst e
      exact simple_two hLat (fun x y z hx hy hz => by have := HVV.out.1 hv x y z hx hy hz; simpa [disB] using this) HOP.out
    have HT2 : Hid (q = 2 → k = 1) := fun e => by
      subst e
      exact two_one HOP.out
    have HT3 : Hid (q = 1 → k = 0) := fun e => by
      subst e
      exact op_one HOP.out
    obtain ⟨k0, k1, k2⟩ := HS3.out.bx
    clear hop hLat HOP HVV HV HSM HC HS3
    by_cases hk1 : k = 1
    · have gk : (k == 1) = true := by simpa using hk1
      rw [gk]
      have hq1 : q ≠ 1 := fun e => by have := HT3.out e; omega
      have g1 : ((q : Int) != 1) = true := by simp; omega
      by_cases hq2 : q = 2
      · subst hq2
        cases v
        · go_wp2_with fail
          go_ret
          exact ⟨rfl, HB3.out⟩
        · go_wp2_with fail
          go_ret
          exact ⟨rfl, HB3.out⟩
      · have g2 : ((q : Int) == 2) = false := by simp; omega
        have g3 : ((q : Int) != 2) = true := by simp; omega
        cases v
        · clear HT1 HT2 HT3
          go_wp2_with fail
          go_ret
          exact ⟨rfl, HB3.out⟩
        · exact absurd (HT1.out hk1 rfl) hq2
    · have gk : (k == 1) = false := by simpa using hk1
      rw [gk]
      have hq2 : q ≠ 2 := fun e => hk1 (HT2.out e)
      have g2 : ((q : Int) == 2) = false := by simp; omega
      have g3 : ((q : Int) != 2) = true := by simp; omega
      clear HT1 HT2 HT3
      by_cases hq1 : q = 1
      · subst hq1
        go_wp2_with fail
        go_ret
        exact ⟨rfl, HB3.out⟩
      · have g1 : ((q : Int) != 1) = true := by simp; omega
        go_wp2_with fail
        go_ret
        exact ⟨rfl, HB3.out⟩
  · obtain rfl : d = c := by
      rcases HSM.out with ⟨h, hh, _⟩ | ⟨_, hh, _⟩
      · exact hh.one HC.out
      · exact absurd (HC.out.one hh) h0
    have hne : (d != 0) = true := by simpa using h0
    have hee : (d == d) = true := beq_self_eq_true _
    go_wp2_with fail
    go_ret
    exact ⟨rfl, HB3.out⟩
end Go.Proofs.Ytappekjkcgmheab
namespace Go.Proofs.Ytappekjkcgmheab
open Go.ChangeShapes Go.WideShapes Go.ChangeAt Go.RowKit Go.Joins

theorem own : ownKnob Try.prog.godebug = none := by kernel_rfl
theorem laidOut : laidOutB Try.prog = true := by kernel_rfl
theorem cells3 : Try.prog.cellsOf 3 = 1 := by kernel_rfl

/-- A slice of numbers that came in is a row. -/
theorem row_of_trod {H : Type} {enc : TypeId × Value → H} {w : World} {base : Nat} {spare : Nat → Bool} {held : Bool} {fuel : Nat} {v : Value} {x : DataW H × List MemPlace}
    (h : DataW.trod enc Try.prog w base spare held fuel 31 [v] = some x) : ∃ a len cap f, v = .slice a len cap ∧ len ≤ maxLen ∧ Row w a len f := by
  rcases open_ints Try.underlying31 Try.underlying3 cells3 h with ⟨hcs, _⟩ | ⟨a, len, cap, zs, hcs, _, hl, hm, hz, _, hcell, _⟩
  · simp at hcs
    exact ⟨none, 0, 0, fun _ => 0, hcs, by unfold maxLen; omega, fun k hk => absurd hk (Nat.not_lt_zero _)⟩
  · simp at hcs
    refine ⟨some a, len, cap, fun k => zs.getD k 0, hcs, by omega, fun k hk => ?_⟩
    have hlen : len ≤ zs.length := by rw [hz]; split <;> omega
    have hc := hcell k (by omega)
    obtain ⟨b, off, spot⟩ := a
    have hspot : spot = none := by simpa [Addr.add] using World.cell?_spot (hcell 0 (by omega))
    subst hspot
    refine ⟨b, off, rfl, ?_⟩
    by_cases e : k = 0
    · subst e; simpa [Addr.add] using hc
    · simpa [Addr.add, e] using hc

end Go.Proofs.Ytappekjkcgmheab
namespace Go.Proofs.Ytappekjkcgmheab
open Go.ChangeShapes Go.WideShapes Go.ChangeAt Go.RowKit Go.Joins

theorem cellsLI : Try.prog.cellsOf 31 = 1 := by kernel_rfl
theorem cellsLA : Try.prog.cellsOf 24 = 3 := by kernel_rfl
theorem addr_flat (b off j : Nat) : Addr.add ⟨b, off, none⟩ j = ⟨b, off + j, none⟩ := by
  cases j <;> simp [Addr.add]
theorem rr_of_trod {H : Type} {enc : TypeId × Value → H} {w : World} {base : Nat} {spare : Nat → Bool} {held : Bool} {fuel : Nat} {v : Value} {x : DataW H × List MemPlace}
    (h : DataW.trod enc Try.prog w base spare held fuel 22 [v] = some x) : ∃ a len cap S F, v = .slice a len cap ∧ len ≤ maxLen ∧ RR w a len S F := by
  rcases DataW.trod_slice Try.underlying22 h with ⟨hcs, _⟩ | ⟨a, len, cap, elems, rest, n, _, hcs, _, _, hl, hm, hlen, hel, _, _⟩
  · simp at hcs
    exact ⟨none, 0, 0, fun _ => (none, 0, 0), fun _ _ => 0, hcs, by unfold maxLen; omega, fun k hk => absurd hk (Nat.not_lt_zero _)⟩
  · simp at hcs
    have key : ∀ k, k < len → ∃ (s : Option Addr × Nat × Nat) (f : Nat → Int), w.cell? (a.add k) = some (.slice s.1 s.2.1 s.2.2) ∧ s.2.1 ≤ maxLen ∧ Row w s.1 s.2.1 f := fun k hk => by
      have h1 := hel k hk
      rw [cellsLI, Nat.mul_one, List.getElem?_eq_getElem (by omega), Option.bind_eq_some_iff] at h1
      obtain ⟨cs, h2, h3⟩ := h1
      have hq := World.cells?_some h2
      match cs, hq, h3 with
      | [c0], hq, h3 =>
        obtain ⟨a', len', cap', f, rfl, hl', hr'⟩ := row_of_trod h3
        refine ⟨(a', len', cap'), f, ?_, hl', hr'⟩
        have := hq.2.2 0 (by omega)
        simpa [Addr.add] using this
    by_cases h0 : len = 0
    · subst h0
      exact ⟨some a, 0, cap, fun _ => (none, 0, 0), fun _ _ => 0, hcs, by omega, fun k hk => absurd hk (Nat.not_lt_zero _)⟩
    obtain ⟨b, off, spot⟩ := a
    have hspot : spot = none := by
      obtain ⟨s, f, k1, _⟩ := key 0 (by omega)
      simpa [Addr.add] using World.cell?_spot k1
    subst hspot
    have key2 : ∀ k, ∃ q : (Option Addr × Nat × Nat) × (Nat → Int), k < len → w.cell? ⟨b, off + k, none⟩ = some (.slice q.1.1 q.1.2.1 q.1.2.2) ∧ q.1.2.1 ≤ maxLen ∧ Row w q.1.1 q.1.2.1 q.2 := fun k => by
      by_cases hk : k < len
      · obtain ⟨s, f, h1, h2, h3⟩ := key k hk
        rw [addr_flat] at h1
        exact ⟨(s, f), fun _ => ⟨h1, h2, h3⟩⟩
      · exact ⟨((none, 0, 0), fun _ => 0), fun h => absurd h hk⟩
    obtain ⟨p, hp⟩ := Classical.axiomOfChoice key2
    exact ⟨some ⟨b, off, none⟩, len, cap, fun k => (p k).1, fun k => (p k).2, hcs, by omega, fun k hk => ⟨b, off, rfl, (hp k hk).1, (hp k hk).2.1, (hp k hk).2.2⟩⟩
end Go.Proofs.Ytappekjkcgmheab
