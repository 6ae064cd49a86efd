/-
  hasselaw.QuotientChecks returns true for every lattice and list. No condition but that slices read as slices of rows and of numbers.
  How arguments that come in are read: an order, a slice of numbers. No condition.
  How a lattice that was handed in reads. No condition.
-/
import Derived.Test.YtappekjkcgmheaaOthM
import Derived.Test.YtappekjkcgmheaaRqD
import Derived.Test.YtappekjkcgmheaaTruth
import Derived.Test.YtappekjkcgmheaaRefCheck
import Derived.ProofKit
import Derived.OpenShut
import Derived.ChangeOld
import Derived.Below
import Derived.Lib.SmallJoins
import Derived.Test.YtappekjkcgmheaaLRows
namespace Go.Proofs.Ytappekjkcgmheaa
open Go.RowKit
set_option maxRecDepth 100000

/-- What was handed in lies in a world: the lattice and its box, the classes. -/
structure QS (n : Int) (a : Option Addr) (la ca : Nat) (SA : Nat → Option Addr × Nat × Nat) (FA : Nat → Nat → Int) (b : Option Addr) (lb cb : Nat) (SB : Nat → Option Addr × Nat × Nat) (FB : Nat → Nat → Int) (p : Option Addr) (m : Nat) (f : Nat → Int) (B : Nat) (w : World) : Prop where
  ra : RR w a la SA FA
  rb : RR w b lb SB FB
  rp : Row w p m f
  bx : LB w B n a la ca b lb cb
theorem QS.step {n : Int} {a : Option Addr} {la ca : Nat} {SA : Nat → Option Addr × Nat × Nat} {FA : Nat → Nat → Int} {b : Option Addr} {lb cb : Nat} {SB : Nat → Option Addr × Nat × Nat} {FB : Nat → Nat → Int} {p : Option Addr} {m : Nat} {f : Nat → Int} {B : Nat} {w w' : World} (h : QS n a la ca SA FA b lb cb SB FB p m f B w) (hb : Below w.heap.size w w') : QS n a la ca SA FA b lb cb SB FB p m f B w' :=
  ⟨h.ra.below hb, h.rb.below hb, h.rp.below hb, h.bx.step hb⟩
theorem QS.new {n : Int} {a : Option Addr} {la ca : Nat} {SA : Nat → Option Addr × Nat × Nat} {FA : Nat → Nat → Int} {b : Option Addr} {lb cb : Nat} {SB : Nat → Option Addr × Nat × Nat} {FB : Nat → Nat → Int} {p : Option Addr} {m : Nat} {f : Nat → Int} {w : World} (hra : RR w a la SA FA) (hrb : RR w b lb SB FB) (hrp : Row w p m f) : QS n a la ca SA FA b lb cb SB FB p m f w.heap.size (w.alloc (.cells #[.int .i64 n, .slice a la ca, .slice b lb cb] 24)) := by
  have hb0 : Below w.heap.size w (w.alloc (.cells #[.int .i64 n, .slice a la ca, .slice b lb cb] 24)) := (Below.refl _ _).alloc (Nat.le_refl _) _
  exact ⟨hra.below hb0, hrb.below hb0, hrp.below hb0, LB.new _ _ _ _ _ _ _ _⟩
/-- What the reference says of classes in which nothing is wrong. -/
theorem isCongruence_row {n : Int} {a : Option Addr} {la ca : Nat} {SA : Nat → Option Addr × Nat × Nat} {FA : Nat → Nat → Int} {b : Option Addr} {lb cb : Nat} {SB : Nat → Option Addr × Nat × Nat} {FB : Nat → Nat → Int} {p : Option Addr} {m cm : Nat} {f : Nat → Int} {B : Nat} {w : World} (h : QS n a la ca SA FA b lb cb SB FB p m f B w) (hk : QCk n la SA FA lb SB FB m f 0) :
    Calls Try.prog 14 #[.agg #[.int .i64 n, .slice a la ca, .slice b lb cb], .slice p m cm] w fun e w' => BIs e (Con m (nat2 FA) (nat2 FB) (natF f)) ∧ Below w.heap.size w w' := by
  obtain ⟨hlk, hmn, hri⟩ := hk.good
  subst hmn
  obtain ⟨q, hq, h1, h40, rfl, rfl, hsa, hsb, hga, hgb, _⟩ := hlk.good
  obtain rfl : m = lb := by omega
  obtain ⟨bA, oA, rfl, hta, hia⟩ := h.ra.tb h1 hsa hga
  obtain ⟨bB, oB, rfl, htb, hib⟩ := h.rb.tb h1 hsb hgb
  obtain ⟨bp, op, rfl, hcc⟩ := h.rp.at (show 0 < m by omega)
  exact isCongruence_any m bA oA ca bB oB cb bp op cm _ _ (nat2 FA) (nat2 FB) (natF f) w h40 hia hib hta htb fun i hi => by
    have hp : 0 ≤ f i ∧ f i < bgI f i + 1 := by simpa [pnt] using hri i hi
    rw [hcc i hi, show ((natF f i : Nat) : Int) = f i from Int.toNat_of_nonneg hp.1]

set_option maxHeartbeats 8000000 in
theorem quotientChecks_any (n : Int) (a : Option Addr) (la ca : Nat) (SA : Nat → Option Addr × Nat × Nat) (FA : Nat → Nat → Int) (b : Option Addr) (lb cb : Nat) (SB : Nat → Option Addr × Nat × Nat) (FB : Nat → Nat → Int) (p : Option Addr) (m cm : Nat) (f : Nat → Int) (w : World) (hla : la ≤ maxLen) (hlb : lb ≤ maxLen) (_ : m ≤ maxLen) (hra : RR w a la SA FA) (hrb : RR w b lb SB FB) (hrp : Row w p m f) :
    Calls Try.prog 3 #[.agg #[.int .i64 n, .slice a la ca, .slice b lb cb], .slice p m cm] w fun e w' => e = .returned (.bool true) ∧ Below w.heap.size w w' := by
  have HB0 : Hid (Below w.heap.size w (w.alloc (.cells #[.int .i64 n, .slice a la ca, .slice b lb cb] 24))) := (Below.refl _ _).alloc (Nat.le_refl _) _
  have HS : Hid (QS n a la ca SA FA b lb cb SB FB p m f w.heap.size (w.alloc (.cells #[.int .i64 n, .slice a la ca, .slice b lb cb] 24))) := QS.new hra hrb hrp
  clear hra hrb hrp
  go_enter Try.func3, Try.ntmps3
  go_wp2_with fail
  refine (checkClasses_any n a la ca SA FA b lb cb SB FB p m cm f _ hla hlb HS.out.ra HS.out.rb HS.out.rp).mono ?_
  rintro e w1 ⟨⟨c, rfl, hc⟩, hb1⟩
  have HB1 : Hid (Below w.heap.size w w1) := Below.then HB0.out hb1
  have HS1 : Hid (QS n a la ca SA FA b lb cb SB FB p m f w.heap.size w1) := HS.out.step hb1
  have HCK : Hid (QCk n la SA FA lb SB FB m f c) := hc
  clear hc hb1 HB0 HS
  obtain ⟨k0, k1, k2⟩ := HS1.out.bx
  go_wp2_with fail
  refine (congruent_any n a la ca SA FA b lb cb SB FB p m cm f _ hla hlb HS1.out.ra HS1.out.rb HS1.out.rp).mono ?_
  rintro e w2 ⟨⟨c', v, rfl, hc, hv⟩, hb2⟩
  obtain rfl := hc.one HCK.out
  have HB2 : Hid (Below w.heap.size w w2) := Below.then HB1.out hb2
  have HS2 : Hid (QS n a la ca SA FA b lb cb SB FB p m f w.heap.size w2) := HS1.out.step hb2
  have HV : Hid ((c' ≠ 0 ∧ v = false) ∨ (c' = 0 ∧ (v = true ↔ Con m (nat2 FA) (nat2 FB) (natF f)))) := hv
  clear hc hb2 hv HB1 HS1 k0 k1 k2
  go_wp2_with fail
  refine (quotientBegun_any _).mono ?_
  rintro e w3 ⟨rfl, hb3⟩
  have HB3 : Hid (Below w.heap.size w w3) := Below.then HB2.out hb3
  have HS3 : Hid (QS n a la ca SA FA b lb cb SB FB p m f w.heap.size w3) := HS2.out.step hb3
  clear hb3 HB2 HS2
  obtain ⟨k0, k1, k2⟩ := HS3.out.bx
  go_wp2_with fail
  refine (qCheck_any n a la ca SA FA b lb cb SB FB p m cm f _ hla hlb HS3.out.ra HS3.out.rb HS3.out.rp).mono ?_
  rintro e w4 ⟨⟨c, rfl, hc⟩, hb4⟩
  obtain rfl := hc.one HCK.out
  have HB4 : Hid (Below w.heap.size w w4) := Below.then HB3.out hb4
  have HS4 : Hid (QS n a la ca SA FA b lb cb SB FB p m f w.heap.size w4) := HS3.out.step hb4
  clear hc hb4 HB3 HS3 k0 k1 k2
  by_cases h0 : c = 0
  · subst h0
    obtain ⟨k0, k1, k2⟩ := HS4.out.bx
    have HVV : Hid (v = true ↔ Con m (nat2 FA) (nat2 FB) (natF f)) := by
      rcases HV.out with ⟨h, _⟩ | ⟨_, h⟩
      · exact absurd rfl h
      · exact h
    clear HV
    go_wp2_with fail
    refine (isCongruence_row HS4.out HCK.out).mono ?_
    rintro e w5 ⟨⟨v', rfl, hv'⟩, hb5⟩
    obtain rfl : v = v' := bool_iff HVV.out hv'
    have HB5 : Hid (Below w.heap.size w w5) := Below.then HB4.out hb5
    clear hb5 HB4 HS4 hv' HVV k0 k1 k2
    go_wp2_with fail
    refine (truthIs_any 0 v v _ (.inr ⟨rfl, rfl⟩)).mono ?_
    rintro e w6 ⟨rfl, rfl⟩
    go_wp2_with fail
    go_ret
    exact ⟨rfl, HB5.out⟩
  · have hne : (c == 0) = false := by simpa using h0
    have HVV : Hid (v = false) := by
      rcases HV.out with ⟨_, h⟩ | ⟨h, _⟩
      · exact h
      · exact absurd h h0
    clear HV
    go_wp2_with fail
    refine (truthIs_any c v false _ (.inl ⟨h0, HVV.out⟩)).mono ?_
    rintro e w5 ⟨rfl, rfl⟩
    go_wp2_with fail
    go_ret
    exact ⟨rfl, HB4.out⟩
end Go.Proofs.Ytappekjkcgmheaa
namespace Go.Proofs.Ytappekjkcgmheaa
open Go.ChangeShapes Go.WideShapes Go.ChangeAt Go.RowKit Go.Joins

theorem own : ownKnob Try.prog.godebug = none := by kernel_rfl
theorem laidOut : laidOutB Try.prog = true := by kernel_rfl
theorem cells3 : Try.prog.cellsOf 3 = 1 := by kernel_rfl

/-- A slice of numbers that came in is a row. -/
theorem row_of_trod {H : Type} {enc : TypeId × Value → H} {w : World} {base : Nat} {spare : Nat → Bool} {held : Bool} {fuel : Nat} {v : Value} {x : DataW H × List MemPlace}
    (h : DataW.trod enc Try.prog w base spare held fuel 25 [v] = some x) : ∃ a len cap f, v = .slice a len cap ∧ len ≤ maxLen ∧ Row w a len f := by
  rcases open_ints Try.underlying25 Try.underlying3 cells3 h with ⟨hcs, _⟩ | ⟨a, len, cap, zs, hcs, _, hl, hm, hz, _, hcell, _⟩
  · simp at hcs
    exact ⟨none, 0, 0, fun _ => 0, hcs, by unfold maxLen; omega, fun k hk => absurd hk (Nat.not_lt_zero _)⟩
  · simp at hcs
    refine ⟨some a, len, cap, fun k => zs.getD k 0, hcs, by omega, fun k hk => ?_⟩
    have hlen : len ≤ zs.length := by rw [hz]; split <;> omega
    have hc := hcell k (by omega)
    obtain ⟨b, off, spot⟩ := a
    have hspot : spot = none := by simpa [Addr.add] using World.cell?_spot (hcell 0 (by omega))
    subst hspot
    refine ⟨b, off, rfl, ?_⟩
    by_cases e : k = 0
    · subst e; simpa [Addr.add] using hc
    · simpa [Addr.add, e] using hc

end Go.Proofs.Ytappekjkcgmheaa
namespace Go.Proofs.Ytappekjkcgmheaa
open Go.ChangeShapes Go.WideShapes Go.ChangeAt Go.RowKit Go.Joins

theorem cellsLI : Try.prog.cellsOf 25 = 1 := by kernel_rfl
theorem cellsLA : Try.prog.cellsOf 24 = 3 := by kernel_rfl
theorem addr_flat (b off j : Nat) : Addr.add ⟨b, off, none⟩ j = ⟨b, off + j, none⟩ := by
  cases j <;> simp [Addr.add]
theorem rr_of_trod {H : Type} {enc : TypeId × Value → H} {w : World} {base : Nat} {spare : Nat → Bool} {held : Bool} {fuel : Nat} {v : Value} {x : DataW H × List MemPlace}
    (h : DataW.trod enc Try.prog w base spare held fuel 22 [v] = some x) : ∃ a len cap S F, v = .slice a len cap ∧ len ≤ maxLen ∧ RR w a len S F := by
  rcases DataW.trod_slice Try.underlying22 h with ⟨hcs, _⟩ | ⟨a, len, cap, elems, rest, n, _, hcs, _, _, hl, hm, hlen, hel, _, _⟩
  · simp at hcs
    exact ⟨none, 0, 0, fun _ => (none, 0, 0), fun _ _ => 0, hcs, by unfold maxLen; omega, fun k hk => absurd hk (Nat.not_lt_zero _)⟩
  · simp at hcs
    have key : ∀ k, k < len → ∃ (s : Option Addr × Nat × Nat) (f : Nat → Int), w.cell? (a.add k) = some (.slice s.1 s.2.1 s.2.2) ∧ s.2.1 ≤ maxLen ∧ Row w s.1 s.2.1 f := fun k hk => by
      have h1 := hel k hk
      rw [cellsLI, Nat.mul_one, List.getElem?_eq_getElem (by omega), Option.bind_eq_some_iff] at h1
      obtain ⟨cs, h2, h3⟩ := h1
      have hq := World.cells?_some h2
      match cs, hq, h3 with
      | [c0], hq, h3 =>
        obtain ⟨a', len', cap', f, rfl, hl', hr'⟩ := row_of_trod h3
        refine ⟨(a', len', cap'), f, ?_, hl', hr'⟩
        have := hq.2.2 0 (by omega)
        simpa [Addr.add] using this
    by_cases h0 : len = 0
    · subst h0
      exact ⟨some a, 0, cap, fun _ => (none, 0, 0), fun _ _ => 0, hcs, by omega, fun k hk => absurd hk (Nat.not_lt_zero _)⟩
    obtain ⟨b, off, spot⟩ := a
    have hspot : spot = none := by
      obtain ⟨s, f, k1, _⟩ := key 0 (by omega)
      simpa [Addr.add] using World.cell?_spot k1
    subst hspot
    have key2 : ∀ k, ∃ q : (Option Addr × Nat × Nat) × (Nat → Int), k < len → w.cell? ⟨b, off + k, none⟩ = some (.slice q.1.1 q.1.2.1 q.1.2.2) ∧ q.1.2.1 ≤ maxLen ∧ Row w q.1.1 q.1.2.1 q.2 := fun k => by
      by_cases hk : k < len
      · obtain ⟨s, f, h1, h2, h3⟩ := key k hk
        rw [addr_flat] at h1
        exact ⟨(s, f), fun _ => ⟨h1, h2, h3⟩⟩
      · exact ⟨((none, 0, 0), fun _ => 0), fun h => absurd h hk⟩
    obtain ⟨p, hp⟩ := Classical.axiomOfChoice key2
    exact ⟨some ⟨b, off, none⟩, len, cap, fun k => (p k).1, fun k => (p k).2, hcs, by omega, fun k hk => ⟨b, off, rfl, (hp k hk).1, (hp k hk).2.1, (hp k hk).2.2⟩⟩
end Go.Proofs.Ytappekjkcgmheaa
