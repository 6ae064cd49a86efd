/-
  What heyting.Implies, Regular and Boolean answer, whatever they are handed. No condition but that slices read as slices of rows.
-/
import Derived.Test.YtfkkjebgccnlnaaAlgO
namespace Go.Proofs.Ytfkkjebgccnlnaa
set_option maxRecDepth 100000
open Go.RowKit

theorem pnt_T {p n : Int} (h : pnt p n = true) : 0 ≤ p ∧ p < n := by simpa [pnt] using h
theorem pnt_F {p n : Int} (h : pnt p n = false) : ¬ (0 ≤ p ∧ p < n) := by simpa [pnt] using h
/-- What Implies must answer. -/
def IPost (L : LA) (x y v c : Int) : Prop :=
  (c ≠ 0 ∧ v = 0 ∧ HCk L c) ∨ (HCk L 0 ∧ ((c = 3 ∧ v = 0 ∧ ¬ ((0 ≤ x ∧ x < L.n) ∧ 0 ≤ y ∧ y < L.n)) ∨ (c = 0 ∧ ((0 ≤ x ∧ x < L.n) ∧ 0 ≤ y ∧ y < L.n) ∧ v = (imp L.q L.m L.j x.toNat y.toNat : Nat))))
theorem IPost.one {L : LA} {x y v c v' c' : Int} (h : IPost L x y v c) (h' : IPost L x y v' c') : v = v' ∧ c = c' := by
  rcases h with ⟨h1, h2, h3⟩ | ⟨h1, h2⟩ <;> rcases h' with ⟨k1, k2, k3⟩ | ⟨k1, k2⟩
  · exact ⟨by omega, h3.one k3⟩
  · exact absurd (h3.one k1) h1
  · exact absurd (k3.one h1) k1
  · rcases h2 with ⟨a, b, d⟩ | ⟨a, b, d⟩ <;> rcases k2 with ⟨a', b', d'⟩ | ⟨a', b', d'⟩
    · exact ⟨by omega, by omega⟩
    · exact absurd b' d
    · exact absurd b d'
    · exact ⟨by rw [d, d'], by omega⟩
theorem NewA.below {L : LA} {w w0 w1 w' : World} {A b off b' off' : Nat} {f : Nat → Nat → Nat} (h : NewA L w w0 w1 A b off b' off') (hl : AlgL w0 A L.q b off L.ca b' off' L.cb f w') : Below w.heap.size w w' :=
  h.bel.trans (hl.bel.mono (by rw [h.ha]; exact h.bel.size))
theorem NewA.below0 {L : LA} {w w0 w1 : World} {A b off b' off' : Nat} (h : NewA L w w0 w1 A b off b' off') : Below w.heap.size w w1 :=
  h.bel.trans (h.alg.bel.mono (by rw [h.ha]; exact h.bel.size))
set_option maxHeartbeats 2000000 in
theorem implies_any (L : LA) (x y : Int) (w : World) (hL : L.In w) :
    Calls Try.prog 8 #[.agg #[.int .i64 L.n, .slice L.a L.la L.ca, .slice L.b L.lb L.cb], .int .i64 x, .int .i64 y] w fun e w' => (∃ v c, IPost L x y v c ∧ e = .returned (.tuple #[.int .i64 v, .int .i64 c])) ∧ Below w.heap.size w w' := by
  have B1 : Below w.heap.size w (w.alloc (.cells #[.int .i64 L.n, .slice L.a L.la L.ca, .slice L.b L.lb L.cb] 24)) := (Below.refl _ _).alloc (Nat.le_refl _) _
  have L0 := LB.new w L.n L.a L.la L.ca L.b L.lb L.cb
  have HI : Hid (L.In (w.alloc (.cells #[.int .i64 L.n, .slice L.a L.la L.ca, .slice L.b L.lb L.cb] 24))) := hL.step B1
  have HB1 : Hid _ := B1
  clear B1 hL
  go_enter Try.func8, Try.ntmps8
  go_wp2_with fail
  refine (algebraOf_any L _ HI.out).mono ?_
  rintro e w1 ⟨c, hc, ⟨h0, rfl, hb1⟩ | ⟨rfl, w0, A, b, off, b', off', rfl, hN⟩⟩
  · have HB2 : Hid (Below w.heap.size w w1) := Below.then HB1.out hb1
    have HC : Hid (HCk L c) := hc
    have hne : (c != 0) = true := by simpa using h0
    clear hb1 HB1 hc L0 HI
    go_wp2_with fail
    go_ret2
    exact ⟨⟨0, c, .inl ⟨h0, rfl, HC.out⟩, rfl⟩, HB2.out⟩
  · have HC : Hid (HCk L 0) := hc
    have L1 := L0.step hN.below0
    have l0 := L1.1
    have HB2 : Hid (Below w.heap.size w w1) := Below.then HB1.out hN.below0
    have HN : Hid (NewA L _ w0 w1 A b off b' off') := hN
    clear hN hc L0 L1
    rcases hp : pnt x L.n with _ | _
    · have HX : Hid (¬ (0 ≤ x ∧ x < L.n)) := pnt_F hp
      go_wp2_with (go_at_call 17; refine (isPoint_any _ _ _).mono ?_; rintro e w' ⟨rfl, hww⟩; subst hww)
      go_ret2
      exact ⟨⟨0, 3, .inr ⟨HC.out, .inl ⟨rfl, rfl, fun h => HX.out h.1⟩⟩, rfl⟩, HB2.out⟩
    · have HX : Hid (0 ≤ x ∧ x < L.n) := pnt_T hp
      rcases hq : pnt y L.n with _ | _
      · have HY : Hid (¬ (0 ≤ y ∧ y < L.n)) := pnt_F hq
        go_wp2_with (go_at_call 17; refine (isPoint_any _ _ _).mono ?_; rintro e w' ⟨rfl, hww⟩; subst hww)
        go_ret2
        exact ⟨⟨0, 3, .inr ⟨HC.out, .inl ⟨rfl, rfl, fun h => HY.out h.2⟩⟩, rfl⟩, HB2.out⟩
      · have HY : Hid (0 ≤ y ∧ y < L.n) := pnt_T hq
        obtain ⟨X, HXE⟩ : ∃ X : Nat, Hid (x = (X : Nat)) := ⟨x.toNat, by have := HX.out.1; show x = _; omega⟩
        obtain ⟨Y, HYE⟩ : ∃ Y : Nat, Hid (y = (Y : Nat)) := ⟨y.toNat, by have := HY.out.1; show y = _; omega⟩
        have HCC : Hid (Calls Try.prog 18 #[.pointer (some ⟨A, 0, none⟩), .int .i64 x, .int .i64 y] w1 fun e w' => e = .returned (.int .i64 (imp L.q L.m L.j x.toNat y.toNat : Nat)) ∧ AlgL w0 A L.q b off L.ca b' off' L.cb (imp L.q L.m L.j) w') := by
          have e1 := HXE.out
          have e2 := HYE.out
          have e3 := HX.out.2
          have e4 := HY.out.2
          have e5 := HN.out.nq
          have := implies_new (x := X) (y := Y) HN.out.base HN.out.ha HN.out.alg (by omega) (by omega)
          rw [e1, e2]
          exact this.mono fun e w' h => ⟨h.1, h.2.1⟩
        clear HXE HYE
        go_wp2_with (go_at_call 17; refine (isPoint_any _ _ _).mono ?_; rintro e w' ⟨rfl, hww⟩; subst hww)
        refine (Calls.mono HCC.out) ?_
        rintro e w2 ⟨rfl, hl⟩
        have HB3 : Hid (Below w.heap.size w w2) := Below.then HB1.out (HN.out.below hl)
        clear hl HCC
        go_wp2_with fail
        go_ret2
        exact ⟨⟨_, 0, .inr ⟨HC.out, .inr ⟨rfl, ⟨HX.out, HY.out⟩, rfl⟩⟩, rfl⟩, HB3.out⟩
end Go.Proofs.Ytfkkjebgccnlnaa
