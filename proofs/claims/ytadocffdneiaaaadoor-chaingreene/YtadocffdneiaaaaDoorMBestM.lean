/-
  How a matching grows by one: what a search for a place does to who holds whom. Plain facts: no Go text here. No condition.
-/
import Derived.Test.YtadocffdneiaaaaDoorMCountM
namespace Go.Proofs.YtadocffdneiaaaaDoor
open Go.RowKit

def updI (H : Nat → Int) (u : Nat) (v : Int) (k : Nat) : Int := if k = u then v else H k
theorem updI_same (H : Nat → Int) (u : Nat) (v : Int) : updI H u v u = v := by simp [updI]
theorem updI_other {H : Nat → Int} {u k : Nat} {v : Int} (h : k ≠ u) : updI H u v k = H k := by simp [updI, h]
/-- Each point of a is in b. -/
def Sub (a b : Nat) : Prop := ∀ j, a.testBit j = true → b.testBit j = true
theorem Sub.trans {a b c : Nat} (h1 : Sub a b) (h2 : Sub b c) : Sub a c := fun j hj => h2 j (h1 j hj)
theorem Sub.refl (a : Nat) : Sub a a := fun _ h => h
theorem sub_or (a q : Nat) : Sub a (a ||| pw q) := fun j hj => by rw [Nat.testBit_or, hj]; rfl
theorem or_self (a q : Nat) : (a ||| pw q).testBit q = true := by rw [Nat.testBit_or, pw_bit]; simp
theorem or_other {a q j : Nat} (h : j ≠ q) : (a ||| pw q).testBit j = a.testBit j := by
  rw [Nat.testBit_or, pw_bit]
  have : decide (q = j) = false := by simp; omega
  simp [this]
/-- Whoever is held may go there. -/
def Val (t : Nat → Nat) (l r : Nat) (H : Nat → Int) : Prop := ∀ k, k < r → H k = -1 ∨ ∃ u : Nat, u < l ∧ H k = u ∧ (t u).testBit k = true
/-- Outside T nobody is held twice. -/
def InjOff (r T : Nat) (H : Nat → Int) : Prop := ∀ j k, j < r → k < r → T.testBit j = false → T.testBit k = false → H j = H k → H j ≠ -1 → j = k
def HeldOff (r T : Nat) (H : Nat → Int) (u : Nat) : Prop := ∃ k, k < r ∧ T.testBit k = false ∧ H k = u
/-- All of C is held, by those who can go nowhere else. -/
def Clo (t : Nat → Nat) (l r : Nat) (H : Nat → Int) (C : Nat) : Prop := ∀ k, k < r → C.testBit k = true → ∃ u : Nat, u < l ∧ H k = u ∧ Sub (t u) C

/-- What a search that has found a place leaves. -/
structure SeatT (t : Nat → Nat) (l r T : Nat) (H : Nat → Int) (v : Nat) (H' : Nat → Int) (T' : Nat) : Prop where
  val : Val t l r H'
  kept : ∀ k, k < r → T.testBit k = true → H' k = H k
  inj : InjOff r T H'
  held : ∀ u, HeldOff r T H' u ↔ HeldOff r T H u ∨ u = v
  clo : ∀ C, Clo t l r H C → ¬ Sub (t v) C ∧ ∀ k, k < r → C.testBit k = true → H' k = H k
  lt : T' < pw r
/-- What a search that has found none leaves. -/
structure SeatF (t : Nat → Nat) (l r T : Nat) (H : Nat → Int) (v : Nat) (T' : Nat) : Prop where
  sub : Sub T T'
  all : Sub (t v) T'
  clo : ∀ k, k < r → T'.testBit k = true → T.testBit k = false → ∃ u : Nat, u < l ∧ H k = u ∧ Sub (t u) T'
  lt : T' < pw r
/-- What holds in the middle of a search. -/
structure SeatI (t : Nat → Nat) (l r T : Nat) (H : Nat → Int) (v q Tc : Nat) : Prop where
  sub : Sub T Tc
  clo : ∀ k, k < r → Tc.testBit k = true → T.testBit k = false → ∃ u : Nat, u < l ∧ H k = u ∧ Sub (t u) Tc
  seen : ∀ j, j < q → (t v).testBit j = true → Tc.testBit j = true
  lt : Tc < pw r
theorem SeatI.start {t : Nat → Nat} {l r T : Nat} {H : Nat → Int} {v : Nat} (h : T < pw r) : SeatI t l r T H v 0 T :=
  ⟨Sub.refl _, (fun k _ h1 h2 => by rw [h1] at h2; cases h2), fun j hj => absurd hj (Nat.not_lt_zero _), h⟩
theorem SeatI.skip1 {t : Nat → Nat} {l r T : Nat} {H : Nat → Int} {v q Tc : Nat} (h : SeatI t l r T H v q Tc) (hq : (t v).testBit q = false) : SeatI t l r T H v (q + 1) Tc :=
  ⟨h.sub, h.clo, upto_succ h.seen (fun h1 => by rw [hq] at h1; cases h1), h.lt⟩
theorem SeatI.skip2 {t : Nat → Nat} {l r T : Nat} {H : Nat → Int} {v q Tc : Nat} (h : SeatI t l r T H v q Tc) (hq : Tc.testBit q = true) : SeatI t l r T H v (q + 1) Tc :=
  ⟨h.sub, h.clo, upto_succ h.seen (fun _ => hq), h.lt⟩
theorem SeatI.done {t : Nat → Nat} {l r T : Nat} {H : Nat → Int} {v Tc : Nat} (h : SeatI t l r T H v r Tc) (hv : t v < pw r) : SeatF t l r T H v Tc :=
  ⟨h.sub, fun j hj => h.seen j (bit_of_lt hv hj) hj, h.clo, h.lt⟩
theorem SeatI.off {t : Nat → Nat} {l r T : Nat} {H : Nat → Int} {v q Tc k : Nat} (h : SeatI t l r T H v q Tc) (hq : Tc.testBit k = false) : T.testBit k = false := by
  cases e : T.testBit k
  · rfl
  · rw [h.sub k e] at hq; cases hq
theorem SeatI.free {t : Nat → Nat} {l r T : Nat} {H : Nat → Int} {v q Tc : Nat} (h : SeatI t l r T H v q Tc) (hV : Val t l r H) (hI : InjOff r T H) (hN : ¬ HeldOff r T H v) (hv : v < l) (hqr : q < r)
    (hb : (t v).testBit q = true) (hq : Tc.testBit q = false) (hf : H q = -1) : SeatT t l r T H v (updI H q v) (Tc ||| pw q) := by
  have hTq := h.off hq
  refine ⟨fun k hk => ?_, fun k _ hT => ?_, fun j k hj hk hTj hTk e hne => ?_, fun u => ?_, fun C hC => ?_, or_lt h.lt hqr⟩
  · by_cases e : k = q
    · subst e; right; exact ⟨v, hv, updI_same _ _ _, hb⟩
    · rw [updI_other e]; exact hV k hk
  · exact updI_other (fun e => by rw [e, hTq] at hT; cases hT)
  · by_cases ej : j = q
    · by_cases ek : k = q
      · omega
      · rw [ej, updI_same, updI_other ek] at e
        exact absurd ⟨k, hk, hTk, e.symm⟩ hN
    · by_cases ek : k = q
      · rw [ek, updI_same, updI_other ej] at e
        exact absurd ⟨j, hj, hTj, e⟩ hN
      · rw [updI_other ej, updI_other ek] at e
        rw [updI_other ej] at hne
        exact hI j k hj hk hTj hTk e hne
  · constructor
    · rintro ⟨k, hk, hTk, e⟩
      by_cases ek : k = q
      · rw [ek, updI_same] at e; right; omega
      · rw [updI_other ek] at e; exact .inl ⟨k, hk, hTk, e⟩
    · rintro (⟨k, hk, hTk, e⟩ | rfl)
      · have ek : k ≠ q := fun h => by rw [h, hf] at e; omega
        exact ⟨k, hk, hTk, by rw [updI_other ek]; exact e⟩
      · exact ⟨q, hqr, hTq, updI_same _ _ _⟩
  · have hqC : C.testBit q = false := by
      cases e : C.testBit q
      · rfl
      · obtain ⟨u, _, hu, _⟩ := hC q hqr e
        rw [hf] at hu; omega
    refine ⟨(fun hs => by rw [hs q hb] at hqC; cases hqC), fun k _ hk => updI_other (fun e => by rw [e, hqC] at hk; cases hk)⟩
theorem SeatI.pre {t : Nat → Nat} {l r T : Nat} {H : Nat → Int} {v q Tc u : Nat} (h : SeatI t l r T H v q Tc) (hI : InjOff r T H) (hqr : q < r) (hq : Tc.testBit q = false) (hu : H q = u) :
    InjOff r (Tc ||| pw q) H ∧ ¬ HeldOff r (Tc ||| pw q) H u := by
  have hoff : ∀ k, (Tc ||| pw q).testBit k = false → T.testBit k = false ∧ k ≠ q := fun k hk => by
    have hne : k ≠ q := fun e => by rw [e, or_self] at hk; cases hk
    rw [or_other hne] at hk
    exact ⟨h.off hk, hne⟩
  refine ⟨fun j k hj hk hTj hTk => hI j k hj hk (hoff j hTj).1 (hoff k hTk).1, ?_⟩
  rintro ⟨k, hk, hTk, e⟩
  exact (hoff k hTk).2 (hI k q hk hqr (hoff k hTk).1 (h.off hq) (e.trans hu.symm) (by rw [e]; omega))
theorem SeatI.found {t : Nat → Nat} {l r T : Nat} {H : Nat → Int} {v q Tc u : Nat} {H1 : Nat → Int} {T' : Nat} (h : SeatI t l r T H v q Tc) (hI : InjOff r T H) (hN : ¬ HeldOff r T H v) (hv : v < l) (hqr : q < r)
    (hb : (t v).testBit q = true) (hq : Tc.testBit q = false) (hu : H q = u) (R : SeatT t l r (Tc ||| pw q) H u H1 T') : SeatT t l r T H v (updI H1 q v) T' := by
  have hTq := h.off hq
  have hsub : ∀ k, T.testBit k = true → (Tc ||| pw q).testBit k = true := fun k hk => sub_or Tc q k (h.sub k hk)
  have hvu : (v : Int) ≠ (u : Int) := fun e => hN ⟨q, hqr, hTq, by rw [hu, e]⟩
  have H1held : ∀ k x, k < r → T.testBit k = false → k ≠ q → H1 k = (x : Nat) → HeldOff r T H x := fun k x hk hTk hkq e => by
    cases hT1 : (Tc ||| pw q).testBit k
    · rcases (R.held x).1 ⟨k, hk, hT1, e⟩ with ⟨k', hk', hT', e'⟩ | rfl
      · refine ⟨k', hk', ?_, e'⟩
        cases h2 : T.testBit k'
        · rfl
        · rw [hsub k' h2] at hT'; cases hT'
      · exact ⟨q, hqr, hTq, hu⟩
    · exact ⟨k, hk, hTk, by rw [← R.kept k hk hT1]; exact e⟩
  refine ⟨fun k hk => ?_, fun k hk hT => ?_, fun j k hj hk hTj hTk e hne => ?_, fun x => ?_, fun C hC => ?_, R.lt⟩
  · by_cases e : k = q
    · subst e; right; exact ⟨v, hv, updI_same _ _ _, hb⟩
    · rw [updI_other e]; exact R.val k hk
  · have e : k ≠ q := fun e => by rw [e, hTq] at hT; cases hT
    rw [updI_other e]; exact R.kept k hk (hsub k hT)
  · by_cases ej : j = q
    · by_cases ek : k = q
      · omega
      · rw [ej, updI_same, updI_other ek] at e
        exact absurd (H1held k v hk hTk ek e.symm) hN
    · by_cases ek : k = q
      · rw [ek, updI_same, updI_other ej] at e
        exact absurd (H1held j v hj hTj ej e) hN
      · rw [updI_other ej, updI_other ek] at e
        rw [updI_other ej] at hne
        cases hj1 : (Tc ||| pw q).testBit j
        · cases hk1 : (Tc ||| pw q).testBit k
          · exact R.inj j k hj hk hj1 hk1 e hne
          · exfalso
            rcases R.val j hj with h1 | ⟨x, _, hx, _⟩
            · exact hne h1
            · have hkx : H k = x := by rw [← R.kept k hk hk1, ← e]; exact hx
              rcases (R.held x).1 ⟨j, hj, hj1, hx⟩ with ⟨k', hk', hT', e'⟩ | rfl
              · have hTk' : T.testBit k' = false := by
                  cases h2 : T.testBit k'
                  · rfl
                  · rw [hsub k' h2] at hT'; cases hT'
                have := hI k k' hk hk' hTk hTk' (hkx.trans e'.symm) (by rw [hkx]; omega)
                rw [this, hT'] at hk1; cases hk1
              · exact ek (hI k q hk hqr hTk hTq (hkx.trans hu.symm) (by rw [hkx]; omega))
        · cases hk1 : (Tc ||| pw q).testBit k
          · exfalso
            rcases R.val k hk with h1 | ⟨x, _, hx, _⟩
            · exact hne (e.trans h1)
            · have hjx : H j = x := by rw [← R.kept j hj hj1, e]; exact hx
              rcases (R.held x).1 ⟨k, hk, hk1, hx⟩ with ⟨k', hk', hT', e'⟩ | rfl
              · have hTk' : T.testBit k' = false := by
                  cases h2 : T.testBit k'
                  · rfl
                  · rw [hsub k' h2] at hT'; cases hT'
                have := hI j k' hj hk' hTj hTk' (hjx.trans e'.symm) (by rw [hjx]; omega)
                rw [this, hT'] at hj1; cases hj1
              · exact ej (hI j q hj hqr hTj hTq (hjx.trans hu.symm) (by rw [hjx]; omega))
          · rw [R.kept j hj hj1, R.kept k hk hk1] at e
            rw [R.kept j hj hj1] at hne
            exact hI j k hj hk hTj hTk e hne
  · constructor
    · rintro ⟨k, hk, hTk, e⟩
      by_cases ek : k = q
      · rw [ek, updI_same] at e; right; omega
      · rw [updI_other ek] at e
        exact .inl (H1held k x hk hTk ek e)
    · rintro (⟨k, hk, hTk, e⟩ | rfl)
      · have main : (x = u ∨ HeldOff r (Tc ||| pw q) H x) → ∃ k, k < r ∧ T.testBit k = false ∧ updI H1 q v k = x := fun hh => by
          have hx : HeldOff r (Tc ||| pw q) H1 x := (R.held x).2 (hh.elim .inr .inl)
          obtain ⟨k', hk', hT', e'⟩ := hx
          have hk'q : k' ≠ q := fun e2 => by rw [e2, or_self] at hT'; cases hT'
          refine ⟨k', hk', ?_, by rw [updI_other hk'q]; exact e'⟩
          cases h2 : T.testBit k'
          · rfl
          · rw [hsub k' h2] at hT'; cases hT'
        by_cases ek : k = q
        · rw [ek, hu] at e
          exact main (.inl (by omega))
        · cases h1 : (Tc ||| pw q).testBit k
          · exact main (.inr ⟨k, hk, h1, e⟩)
          · exact ⟨k, hk, hTk, by rw [updI_other ek, R.kept k hk h1]; exact e⟩
      · exact ⟨q, hqr, hTq, updI_same _ _ _⟩
  · obtain ⟨hns, hk1⟩ := R.clo C hC
    have hqC : C.testBit q = false := by
      cases e : C.testBit q
      · rfl
      · obtain ⟨u', _, hu', hs⟩ := hC q hqr e
        have : u' = u := by rw [hu] at hu'; omega
        rw [this] at hs
        exact absurd hs hns
    refine ⟨(fun hs => by rw [hs q hb] at hqC; cases hqC), fun k hk hC1 => ?_⟩
    rw [updI_other (fun e => by rw [e, hqC] at hC1; cases hC1)]
    exact hk1 k hk hC1
theorem SeatI.failed {t : Nat → Nat} {l r T : Nat} {H : Nat → Int} {v q Tc u : Nat} {T2 : Nat} (h : SeatI t l r T H v q Tc) (hul : u < l) (hu : H q = u) (R : SeatF t l r (Tc ||| pw q) H u T2) : SeatI t l r T H v (q + 1) T2 := by
  have hs : Sub Tc T2 := fun j hj => R.sub j (sub_or Tc q j hj)
  have hq2 : T2.testBit q = true := R.sub q (or_self Tc q)
  refine ⟨h.sub.trans hs, fun k hk h2 hT => ?_, upto_succ (fun j hj hb => hs j (h.seen j hj hb)) (fun _ => hq2), R.lt⟩
  by_cases ek : k = q
  · exact ⟨u, hul, by rw [ek]; exact hu, R.all⟩
  · cases h1 : (Tc ||| pw q).testBit k
    · exact R.clo k hk h2 h1
    · rw [or_other ek] at h1
      obtain ⟨x, hx, hH, hsx⟩ := h.clo k hk h1 hT
      exact ⟨x, hx, hH, hsx.trans hs⟩
theorem or_gt {Tc q : Nat} (hq : Tc.testBit q = false) : Tc < Tc ||| pw q := by
  rw [or_free hq]; have := pw_pos q; omega
end Go.Proofs.YtadocffdneiaaaaDoor
