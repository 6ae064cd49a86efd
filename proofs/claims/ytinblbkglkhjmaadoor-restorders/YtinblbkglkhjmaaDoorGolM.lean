/-
  Which orders have a turned one: Gallai's and Golumbic's theorem, and Dushnik's and Miller's. Plain facts: no Go text here. No condition.
-/
import Derived.Test.YtinblbkglkhjmaaDoorDilM
namespace Go.Proofs.YtinblbkglkhjmaaDoor

/-- What follows from a pair that is laid. -/
def stp (n : Nat) (ap : Nat → Nat → Bool) (x y x' y' : Nat) : Prop :=
  (x' = x ∧ y' < n ∧ y' ≠ x ∧ y' ≠ y ∧ ap x y' = true ∧ ap y y' = false) ∨ (y' = y ∧ x' < n ∧ x' ≠ x ∧ x' ≠ y ∧ ap x' y = true ∧ ap x x' = false)
/-- All that follows from a pair. -/
def Cls (n : Nat) (ap : Nat → Nat → Bool) (a b x y : Nat) : Prop := ∀ R : Nat → Nat → Prop, R a b → (∀ x y x' y', R x y → stp n ap x y x' y' → R x' y') → R x y
/-- Two points that know nothing of one another. -/
structure Apt (n : Nat) (ap : Nat → Nat → Bool) : Prop where
  sym : ∀ p q, ap p q = ap q p
  irr : ∀ p, ap p p = false
  inn : ∀ p q, ap p q = true → p < n ∧ q < n
section
variable {n : Nat} {ap : Nat → Nat → Bool}
theorem Apt.ne (h : Apt n ap) {p q : Nat} (hp : ap p q = true) : p ≠ q := fun e => by rw [e, h.irr] at hp; cases hp
theorem Cls.base (a b : Nat) : Cls n ap a b a b := fun _ h _ => h
theorem Cls.step {a b x y x' y' : Nat} (h : Cls n ap a b x y) (hs : stp n ap x y x' y') : Cls n ap a b x' y' := fun R h0 h1 => h1 _ _ _ _ (h R h0 h1) hs
theorem Cls.trans {a b x y u v : Nat} (h : Cls n ap a b x y) (h2 : Cls n ap x y u v) : Cls n ap a b u v := fun R h0 h1 => h2 R (h R h0 h1) h1
theorem Apt.stp_sym (h : Apt n ap) {x y x' y' : Nat} (ha : ap x y = true) (hs : stp n ap x y x' y') : stp n ap x' y' x y := by
  obtain ⟨hx, hy⟩ := h.inn x y ha
  rcases hs with ⟨rfl, _, h2, h3, h4, h5⟩ | ⟨rfl, _, h2, h3, h4, h5⟩
  · exact .inl ⟨rfl, hy, fun e => (h.ne ha) e.symm, fun e => h3 e.symm, ha, by rw [h.sym]; exact h5⟩
  · exact .inr ⟨rfl, hx, fun e => h2 e.symm, h.ne ha, ha, by rw [h.sym]; exact h5⟩
theorem Apt.stp_rev (h : Apt n ap) {x y x' y' : Nat} (hs : stp n ap x y x' y') : stp n ap y x y' x' := by
  rcases hs with ⟨rfl, h1, h2, h3, h4, h5⟩ | ⟨rfl, h1, h2, h3, h4, h5⟩
  · exact .inr ⟨rfl, h1, h3, h2, by rw [h.sym]; exact h4, h5⟩
  · exact .inl ⟨rfl, h1, h3, h2, by rw [h.sym]; exact h4, h5⟩
theorem stp_ap {x y x' y' : Nat} (hs : stp n ap x y x' y') : ap x' y' = true := by
  rcases hs with ⟨rfl, _, _, _, h4, _⟩ | ⟨rfl, _, _, _, h4, _⟩ <;> exact h4
theorem Cls.isA {a b x y : Nat} (h : Cls n ap a b x y) (ha : ap a b = true) : ap x y = true := h (fun x y => ap x y = true) ha fun _ _ _ _ _ hs => stp_ap hs
theorem Cls.sym (h : Apt n ap) {a b x y : Nat} (hc : Cls n ap a b x y) (ha : ap a b = true) : Cls n ap x y a b := by
  refine (hc (fun x y => ap x y = true ∧ Cls n ap x y a b) ⟨ha, Cls.base _ _⟩ fun x y x' y' ⟨h1, h2⟩ hs => ⟨stp_ap hs, ?_⟩).2
  exact ((Cls.base x' y').step (h.stp_sym h1 hs)).trans h2
theorem Cls.rev (h : Apt n ap) {a b x y : Nat} (hc : Cls n ap a b x y) : Cls n ap b a y x :=
  hc (fun x y => Cls n ap b a y x) (Cls.base _ _) fun _ _ _ _ h1 hs => h1.step (h.stp_rev hs)

/-- What is laid, pair by pair, and all that follows. -/
structure Lai (n : Nat) (ap : Nat → Nat → Bool) (L : Nat → Nat → Prop) : Prop where
  isA : ∀ x y, L x y → ap x y = true
  clo : ∀ x y x' y', L x y → stp n ap x y x' y' → L x' y'
  low : ∀ x y, L x y → ∃ i j, Cls n ap x y i j ∧ ∀ p q, Cls n ap x y p q → i ≤ p ∧ i ≤ q
  two : ∀ x y, L x y → L y x → Cls n ap x y y x
theorem Lai.cls {L : Nat → Nat → Prop} (h : Lai n ap L) {a b x y : Nat} (hl : L a b) (hc : Cls n ap a b x y) : L x y := hc L hl h.clo
/-- Nothing is laid yet. -/
theorem lai_none : Lai n ap (fun _ _ => False) := ⟨fun _ _ h => h.elim, fun _ _ _ _ h => h.elim, fun _ _ h => h.elim, fun _ _ h => h.elim⟩
/-- A pair more, of which nothing is laid, and all pairs ahead of it are. -/
theorem Lai.pair {L : Nat → Nat → Prop} (hA : Apt n ap) (h : Lai n ap L) {a b : Nat} (hab : ap a b = true) (h1 : ¬ L a b) (h2 : ¬ L b a) (hbe : ∀ x y, x < a → ap x y = true → L x y ∨ L y x) :
    Lai n ap (fun x y => L x y ∨ Cls n ap a b x y) := by
  have no1 : ∀ x y, Cls n ap a b x y → ¬ L x y := fun x y hc hl => h1 (h.cls hl (hc.sym hA hab))
  have no2 : ∀ x y, Cls n ap a b x y → ¬ L y x := fun x y hc hl => h2 (h.cls hl ((hc.sym hA hab).rev hA))
  refine ⟨fun x y hxy => ?_, fun x y x' y' hxy hs => ?_, fun x y hxy => ?_, fun x y hxy hyx => ?_⟩
  · rcases hxy with hl | hc
    · exact h.isA x y hl
    · exact hc.isA hab
  · rcases hxy with hl | hc
    · exact .inl (h.clo x y x' y' hl hs)
    · exact .inr (hc.step hs)
  · rcases hxy with hl | hc
    · exact h.low x y hl
    · refine ⟨a, b, hc.sym hA hab, fun p q hpq => ?_⟩
      have hcp : Cls n ap a b p q := hc.trans hpq
      have hap := hcp.isA hab
      constructor
      · rcases Nat.lt_or_ge p a with hlt | hge
        · rcases hbe p q hlt hap with hl | hl
          · exact absurd hl (no1 p q hcp)
          · exact absurd hl (no2 p q hcp)
        · exact hge
      · rcases Nat.lt_or_ge q a with hlt | hge
        · rcases hbe q p hlt (by rw [hA.sym]; exact hap) with hl | hl
          · exact absurd hl (no2 p q hcp)
          · exact absurd hl (no1 p q hcp)
        · exact hge
  · rcases hxy with hl | hc
    · rcases hyx with hl2 | hc2
      · exact h.two x y hl hl2
      · exact absurd hl (no2 y x hc2)
    · rcases hyx with hl2 | hc2
      · exact absurd hl2 (no2 x y hc)
      · exact (hc.sym hA hab).trans hc2
/-- A turned order. -/
structure Cnj (n : Nat) (ap : Nat → Nat → Bool) (Q : Nat → Nat → Prop) : Prop where
  isA : ∀ p q, Q p q → ap p q = true
  all : ∀ p q, ap p q = true → Q p q ∨ Q q p
  asy : ∀ p q, Q p q → ¬ Q q p
  tr : ∀ p q r, Q p q → Q q r → Q p r
theorem Cnj.cls (hA : Apt n ap) {Q : Nat → Nat → Prop} (h : Cnj n ap Q) {a b x y : Nat} (hq : Q a b) (hc : Cls n ap a b x y) : Q x y := by
  refine hc Q hq fun x y x' y' hxy hs => ?_
  rcases hs with ⟨rfl, _, _, _, h4, h5⟩ | ⟨rfl, _, _, _, h4, h5⟩
  · rcases h.all _ _ h4 with h6 | h6
    · exact h6
    · have := h.isA _ _ (h.tr _ _ _ h6 hxy); rw [hA.sym, h5] at this; cases this
  · rcases h.all _ _ h4 with h6 | h6
    · exact h6
    · have := h.isA _ _ (h.tr _ _ _ hxy h6); rw [h5] at this; cases this
/-- Where there is a turned order nothing is laid both ways. -/
theorem Cnj.free (hA : Apt n ap) {Q L : Nat → Nat → Prop} (h : Cnj n ap Q) (hL : Lai n ap L) {x y : Nat} (h1 : L x y) (h2 : L y x) : False := by
  have hc := hL.two x y h1 h2
  rcases h.all x y (hL.isA x y h1) with h3 | h3
  · exact h.asy _ _ h3 (h.cls hA h3 hc)
  · exact h.asy _ _ h3 (h.cls hA h3 (hc.rev hA))
/-- Three pairs that go round. -/
theorem Lai.round (hA : Apt n ap) {L : Nat → Nat → Prop} (h : Lai n ap L) (hf : ∀ x y, L x y → ¬ L y x) {p q r : Nat} (h1 : L p q) (h2 : L q r) (h3 : L r p) {q' r' : Nat} (hc : Cls n ap q r q' r') :
    Cls n ap p q p q' ∧ Cls n ap r p r' p := by
  refine (hc (fun q' r' => Cls n ap q r q' r' ∧ Cls n ap p q p q' ∧ Cls n ap r p r' p) ⟨Cls.base _ _, Cls.base _ _, Cls.base _ _⟩ fun u v u' v' ⟨c1, c2, c3⟩ hs => ⟨c1.step hs, ?_⟩).2
  have l1 := h.cls h1 c2
  have l2 := h.cls h2 c1
  have l3 := h.cls h3 c3
  have l4 := h.cls h2 (c1.step hs)
  rcases hs with ⟨rfl, z1, z2, z3, z4, z5⟩ | ⟨rfl, z1, z2, z3, z4, z5⟩
  · refine ⟨c2, c3.step ?_⟩
    have hzp : v' ≠ p := fun e => by rw [e] at l4; exact hf _ _ l4 l1
    refine .inr ⟨rfl, z1, z3, hzp, ?_, z5⟩
    rw [← Bool.not_eq_false]; intro hz
    exact hf _ _ l1 (h.clo _ _ _ _ l4 (.inl ⟨rfl, (hA.inn _ _ (h.isA _ _ l1)).1, hA.ne (h.isA _ _ l1), fun e => hzp e.symm, by rw [hA.sym]; exact h.isA _ _ l1, hz⟩))
  · refine ⟨c2.step ?_, c3⟩
    have hzp : u' ≠ p := fun e => by rw [e] at l4; exact hf _ _ l4 l3
    refine .inl ⟨rfl, z1, hzp, z2, ?_, z5⟩
    rw [← Bool.not_eq_false]; intro hz
    exact hf _ _ l3 (h.clo _ _ _ _ l4 (.inr ⟨rfl, (hA.inn _ _ (h.isA _ _ l1)).1, fun e => hzp e.symm, fun e => hA.ne (h.isA _ _ l3) e.symm, by rw [hA.sym]; exact h.isA _ _ l3, by rw [hA.sym]; exact hz⟩))
/-- GOLUMBIC, GALLAI: if nothing is laid both ways, what is laid is a turned order. -/
theorem Lai.cnj (hA : Apt n ap) {L : Nat → Nat → Prop} (h : Lai n ap L) (hall : ∀ p q, ap p q = true → L p q ∨ L q p) (hf : ∀ x y, L x y → ¬ L y x) : Cnj n ap L := by
  refine ⟨h.isA, hall, hf, fun a b c hab hbc => ?_⟩
  have hac : ap a c = true := by
    rw [← Bool.not_eq_false]; intro hz
    have hca : c ≠ a := fun e => by rw [e] at hbc; exact hf _ _ hab hbc
    exact hf _ _ hbc (h.clo _ _ _ _ hab (.inr ⟨rfl, (hA.inn _ _ (h.isA _ _ hbc)).2, hca, fun e => hA.ne (h.isA _ _ hbc) e.symm, by rw [hA.sym]; exact h.isA _ _ hbc, hz⟩))
  rcases hall a c hac with hl | hca
  · exact hl
  · exfalso
    obtain ⟨iC, jC, cC, mC⟩ := h.low a b hab
    obtain ⟨iA, jA, cA, mA⟩ := h.low b c hbc
    obtain ⟨iB, jB, cB, mB⟩ := h.low c a hca
    have r1 := h.round hA hf hab hbc hca cA
    have r2 := h.round hA hf hbc hca hab cB
    have r3 := h.round hA hf hca hab hbc cC
    have e1 := (mC _ _ r1.1).2
    have e2 := (mA _ _ r2.1).2
    have e3 := (mB _ _ r3.1).2
    obtain rfl : iA = iC := by omega
    have r4 := h.round hA hf hca hab hbc r1.1
    exact hf _ _ (h.cls hca r3.1) (h.cls hbc r4.2)
end

/-! Rows out of what is told of each two. -/
section
variable {n : Nat} {lt : Nat → Nat → Bool}
theorem total_row {T : Nat → Nat → Bool} (hi : ∀ p, T p p = false) (ht : ∀ p q r, p < n → q < n → r < n → T p q = true → T q r = true → T p r = true) (ha : ∀ p q, p < n → q < n → p ≠ q → T p q = true ∨ T q p = true) :
    ∀ p q, p < n → q < n → (nmB (fun x => T x p) n < nmB (fun x => T x q) n ↔ T p q = true) := by
  have up : ∀ p q, p < n → q < n → T p q = true → nmB (fun x => T x p) n < nmB (fun x => T x q) n := fun p q hp hq hl =>
    nmB_lt (c := p) n (fun x hx h1 => ht x p q hx hp hq h1 hl) hp (hi p) hl
  intro p q hp hq
  refine ⟨fun h => ?_, up p q hp hq⟩
  by_cases e : p = q
  · subst e; omega
  · rcases ha p q hp hq e with h1 | h1
    · exact h1
    · have := up q p hq hp h1; omega
/-- Points that know nothing of one another. -/
def apt (lt : Nat → Nat → Bool) (n p q : Nat) : Bool := decide (p < n) && decide (q < n) && decide (p ≠ q) && !lt p q && !lt q p
theorem apt_iff {p q : Nat} : apt lt n p q = true ↔ p < n ∧ q < n ∧ p ≠ q ∧ lt p q = false ∧ lt q p = false := by
  unfold apt; simp [and_assoc]
theorem apt_apt : Apt n (apt lt n) := by
  refine ⟨fun p q => ?_, fun p => ?_, fun p q h => ?_⟩
  · rw [Bool.eq_iff_iff, apt_iff, apt_iff]
    exact ⟨fun ⟨a, b, c, d, e⟩ => ⟨b, a, fun h => c h.symm, e, d⟩, fun ⟨a, b, c, d, e⟩ => ⟨b, a, fun h => c h.symm, e, d⟩⟩
  · rw [Bool.eq_false_iff]; intro h; exact (apt_iff.1 h).2.2.1 rfl
  · obtain ⟨h1, h2, _⟩ := apt_iff.1 h; exact ⟨h1, h2⟩
/-- DUSHNIK, MILLER: two rows are enough just if there is a turned order. -/
theorem Srd.cnj_of (_ : Srd n lt) (h2 : RzS (· < n) lt 2) : ∃ Q, Cnj n (apt lt n) Q := by
  obtain ⟨R, h1, h3⟩ := h2
  have L0 := h1 0 (by decide)
  have L1 := h1 1 (by decide)
  refine ⟨fun p q => p < n ∧ q < n ∧ R 0 p < R 0 q ∧ R 1 q < R 1 p, ⟨fun p q ⟨hp, hq, a, b⟩ => ?_, fun p q hap => ?_, fun p q ⟨_, _, a, _⟩ ⟨_, _, b, _⟩ => by omega, fun p q r ⟨hp, _, a, b⟩ ⟨_, hr, c, d⟩ => ⟨hp, hr, by omega, by omega⟩⟩⟩
  · refine apt_iff.2 ⟨hp, hq, fun e => by rw [e] at a; omega, ?_, ?_⟩
    · rw [Bool.eq_false_iff]; intro hl; have := L1.up p q hp hq hl; omega
    · rw [Bool.eq_false_iff]; intro hl; have := L0.up q p hq hp hl; omega
  · obtain ⟨hp, hq, hne, l1, l2⟩ := apt_iff.1 hap
    obtain ⟨i, hi, hR⟩ := h3 p q hp hq hne l1
    obtain ⟨j, hj, hR2⟩ := h3 q p hq hp (fun e => hne e.symm) l2
    match i, j, hi, hj with
    | 0, 0, _, _ => omega
    | 1, 1, _, _ => omega
    | 0, 1, _, _ => exact .inr ⟨hq, hp, hR, hR2⟩
    | 1, 0, _, _ => exact .inl ⟨hp, hq, hR2, hR⟩
theorem Srd.two_of (h : Srd n lt) {Q : Nat → Nat → Prop} (hQ : Cnj n (apt lt n) Q) : RzS (· < n) lt 2 := by
  obtain ⟨B, hB⟩ : ∃ B : Nat → Nat → Bool, ∀ p q, B p q = true ↔ Q p q := by
    obtain ⟨B, hB⟩ := Classical.axiomOfChoice (r := fun (x : Nat × Nat) (v : Bool) => v = true ↔ Q x.1 x.2) fun x => by
      rcases Classical.em (Q x.1 x.2) with h | h
      · exact ⟨true, by simp [h]⟩
      · exact ⟨false, by simp [h]⟩
    exact ⟨fun p q => B (p, q), fun p q => hB (p, q)⟩
  have qap : ∀ p q, Q p q → p < n ∧ q < n ∧ p ≠ q ∧ lt p q = false ∧ lt q p = false := fun p q hq => apt_iff.1 (hQ.isA p q hq)
  have tri : ∀ p q, p < n → q < n → p ≠ q → lt p q = true ∨ lt q p = true ∨ Q p q ∨ Q q p := fun p q hp hq hne => by
    cases h1 : lt p q
    · cases h2 : lt q p
      · exact .inr (.inr (hQ.all p q (apt_iff.2 ⟨hp, hq, hne, h1, h2⟩)))
      · exact .inr (.inl rfl)
    · exact .inl rfl
  -- for a turned order both ways
  have main : ∀ (P : Nat → Nat → Prop) (C : Nat → Nat → Bool), (∀ p q, C p q = true ↔ P p q) → (∀ p q, P p q → p < n ∧ q < n ∧ p ≠ q ∧ lt p q = false ∧ lt q p = false) → (∀ p q, p < n → q < n → p ≠ q → lt p q = true ∨ lt q p = true ∨ P p q ∨ P q p) → (∀ p q r, P p q → P q r → P p r) → (∀ p q, P p q → ¬ P q p) →
      ∀ p q, p < n → q < n → (nmB (fun x => lt x p || C x p) n < nmB (fun x => lt x q || C x q) n ↔ (lt p q = true ∨ P p q)) := by
    intro P C hC hap htri htr hasy p q hp hq
    have or : ∀ p q, (lt p q || C p q) = true ↔ (lt p q = true ∨ P p q) := fun p q => by rw [Bool.or_eq_true, hC]
    have := total_row (n := n) (T := fun x y => lt x y || C x y) (fun p => ?_) (fun p q r hp hq hr h1 h2 => ?_) (fun p q hp hq hne => ?_) p q hp hq
    · rw [this, or]
    · rw [Bool.eq_false_iff]; intro h1
      rcases (or p p).1 h1 with h2 | h2
      · rw [h.irr] at h2; cases h2
      · exact (hap p p h2).2.2.1 rfl
    · refine (or p r).2 ?_
      rcases (or p q).1 h1 with a1 | a1
      · rcases (or q r).1 h2 with a2 | a2
        · exact .inl (h.tr p q r a1 a2)
        · by_cases e : p = r
          · subst e; rw [(hap q p a2).2.2.2.2] at a1; cases a1
          · rcases htri p r hp hr e with b | b | b | b
            · exact .inl b
            · have := h.tr r p q b a1; rw [(hap q r a2).2.2.2.2] at this; cases this
            · exact .inr b
            · have := htr q r p a2 b; rw [(hap q p this).2.2.2.2] at a1; cases a1
      · rcases (or q r).1 h2 with a2 | a2
        · by_cases e : p = r
          · subst e; rw [(hap p q a1).2.2.2.2] at a2; cases a2
          · rcases htri p r hp hr e with b | b | b | b
            · exact .inl b
            · have := h.tr q r p a2 b; rw [(hap p q a1).2.2.2.2] at this; cases this
            · exact .inr b
            · have := htr r p q b a1; rw [(hap r q this).2.2.2.2] at a2; cases a2
        · exact .inr (htr p q r a1 a2)
    · rcases htri p q hp hq hne with b | b | b | b
      · exact .inl ((or p q).2 (.inl b))
      · exact .inr ((or q p).2 (.inl b))
      · exact .inl ((or p q).2 (.inr b))
      · exact .inr ((or q p).2 (.inr b))
  have m0 := main Q B hB qap tri hQ.tr hQ.asy
  have m1 := main (fun p q => Q q p) (fun p q => B q p) (fun p q => hB q p) (fun p q hq => by
    obtain ⟨a, b, c, d, e⟩ := qap q p hq; exact ⟨b, a, fun h => c h.symm, e, d⟩) (fun p q hp hq hne => by
    rcases tri p q hp hq hne with b | b | b | b
    · exact .inl b
    · exact .inr (.inl b)
    · exact .inr (.inr (.inr b))
    · exact .inr (.inr (.inl b))) (fun p q r a b => hQ.tr r q p b a) (fun p q a b => hQ.asy _ _ a b)
  refine ⟨fun i p => if i = 0 then nmB (fun x => lt x p || B x p) n else nmB (fun x => lt x p || B p x) n, fun i _ => ?_, fun p q hp hq hne hl => ?_⟩
  · by_cases e : i = 0
    · simp only [if_pos e]
      refine ⟨fun p q hp hq e => ?_, fun p q hp hq hl => (m0 p q hp hq).2 (.inl hl)⟩
      refine Classical.byContradiction fun hne => ?_
      rcases tri p q hp hq hne with b | b | b | b
      · have := (m0 p q hp hq).2 (.inl b); omega
      · have := (m0 q p hq hp).2 (.inl b); omega
      · have := (m0 p q hp hq).2 (.inr b); omega
      · have := (m0 q p hq hp).2 (.inr b); omega
    · simp only [if_neg e]
      refine ⟨fun p q hp hq e => ?_, fun p q hp hq hl => (m1 p q hp hq).2 (.inl hl)⟩
      refine Classical.byContradiction fun hne => ?_
      rcases tri p q hp hq hne with b | b | b | b
      · have := (m1 p q hp hq).2 (.inl b); omega
      · have := (m1 q p hq hp).2 (.inl b); omega
      · have := (m1 q p hq hp).2 (.inr b); omega
      · have := (m1 p q hp hq).2 (.inr b); omega
  · rcases tri p q hp hq hne with b | b | b | b
    · rw [hl] at b; cases b
    · exact ⟨0, by decide, by simp only [if_true]; exact (m0 q p hq hp).2 (.inl b)⟩
    · exact ⟨1, by decide, by simp only [Nat.one_ne_zero, if_false]; exact (m1 q p hq hp).2 (.inr b)⟩
    · exact ⟨0, by decide, by simp only [if_true]; exact (m0 q p hq hp).2 (.inr b)⟩
theorem nmB_rem {P : Nat → Bool} {c : Nat} : ∀ n, c < n → P c = true → nmB P n = nmB (fun k => P k && decide (k ≠ c)) n + 1
  | 0, h, _ => absurd h (Nat.not_lt_zero _)
  | n + 1, h, hp => by
    rw [nmB, nmB]
    by_cases e : c = n
    · subst e
      have : nmB P c = nmB (fun k => P k && decide (k ≠ c)) c := by
        refine Nat.le_antisymm (nmB_le c fun k hk h1 => ?_) (nmB_le c fun k hk h1 => ?_)
        · rw [h1]; simp; omega
        · rw [Bool.and_eq_true] at h1; exact h1.1
      rw [if_pos hp, if_neg (by simp), this]
    · have := nmB_rem n (by omega) hp
      have e2 : (P n && decide (n ≠ c)) = P n := by rw [decide_eq_true (show n ≠ c from fun h => e h.symm), Bool.and_true]
      rw [this, e2]; omega
theorem nmB_zero {P : Nat → Bool} {n p : Nat} (h : nmB P n ≤ 0) (hp : p < n) : P p = false := by
  rw [Bool.eq_false_iff]; intro hP
  have := nmB_rem n hp hP; omega
theorem nmB_not (P : Nat → Bool) : ∀ n, nmB P n + nmB (fun k => !P k) n = n
  | 0 => rfl
  | n + 1 => by
    have := nmB_not P n
    rw [nmB, nmB]
    cases P n <;> simp <;> omega
/-- Two points that are left over, at most. -/
theorem left_two {P : Nat → Bool} (hP : ∀ p, n ≤ p → P p = true) (h : nmB P n ≤ 2) : ∃ x y, x ≠ y ∧ P x = true ∧ P y = true ∧ x ≤ n + 1 ∧ y ≤ n + 1 ∧ ∀ p, p < n → P p = true → p = x ∨ p = y := by
  rcases Classical.em (∃ x, x < n ∧ P x = true) with ⟨x, hx, hPx⟩ | hno
  · have e1 := nmB_rem n hx hPx
    rcases Classical.em (∃ y, y < n ∧ (P y && decide (y ≠ x)) = true) with ⟨y, hy, hPy⟩ | hno
    · have e2 := nmB_rem (P := fun k => P k && decide (k ≠ x)) n hy hPy
      rw [Bool.and_eq_true, decide_eq_true_eq] at hPy
      refine ⟨x, y, fun e => hPy.2 e.symm, hPx, hPy.1, by omega, by omega, fun p hp hPp => ?_⟩
      have := nmB_zero (P := fun k => (P k && decide (k ≠ x)) && decide (k ≠ y)) (by omega) hp
      rw [hPp, Bool.true_and] at this
      simp at this
      by_cases e : p = x
      · exact .inl e
      · exact .inr (this e)
    · refine ⟨x, n, by omega, hPx, hP n (Nat.le_refl _), by omega, by omega, fun p hp hPp => ?_⟩
      left
      refine Classical.byContradiction fun hne => hno ⟨p, hp, ?_⟩
      rw [hPp]; simpa using hne
  · exact ⟨n, n + 1, by omega, hP n (Nat.le_refl _), hP _ (by omega), by omega, by omega, fun p hp hPp => absurd ⟨p, hp, hPp⟩ hno⟩
/-- An antichain, and few points more. -/
theorem Srd.few (h : Srd n lt) {A : Nat → Bool} (hAn : ∀ a, A a = true → a < n) (hA : ∀ a b, A a = true → A b = true → lt a b = false) (hl : n ≤ nmB A n + 2) : RzS (· < n) lt 2 := by
  have h1 := nmB_not A n
  obtain ⟨x, y, hne, hx, hy, hxn, hyn, hall⟩ := left_two (n := n) (P := fun p => !A p) (fun p hp => by
    rw [Bool.not_eq_true', Bool.eq_false_iff]; intro h2; have := hAn p h2; omega) (by omega)
  rw [Bool.not_eq_true'] at hx hy
  refine (h.two A x y hne hA hAn hx hy hxn hyn).sub fun p hp => ?_
  cases hAp : A p
  · exact .inr (hall p hp (by rw [hAp]; rfl))
  · exact .inl rfl
theorem Srd.few3 (h : Srd n lt) {A : Nat → Bool} (hAn : ∀ a, A a = true → a < n) (hA : ∀ a b, A a = true → A b = true → lt a b = false) (hl : n ≤ nmB A n + 3) : RzS (· < n) lt 3 := by
  rcases Nat.lt_or_ge (nmB A n + 2) n with h0 | h0
  · have h1 := nmB_not A n
    have : ∃ z, z < n ∧ A z = false := by
      refine Classical.byContradiction fun hno => ?_
      have : nmB (fun k => !A k) n ≤ nmB (fun _ => false) n := nmB_le n fun k hk h2 => by
        rw [Bool.not_eq_true'] at h2; exact absurd ⟨k, hk, h2⟩ hno
      have h3 : ∀ m, nmB (fun _ => false) m = 0 := by
        intro m
        induction m with
        | zero => rfl
        | succ m ih => rw [nmB, ih]; rfl
      rw [h3] at this; omega
    obtain ⟨z, hz, hAz⟩ := this
    have e1 := nmB_rem (P := fun k => !A k) n hz (by rw [hAz]; rfl)
    -- without the point
    obtain ⟨x, y, hne, hx, hy, hxn, hyn, hall⟩ := left_two (n := n) (P := fun p => (!A p && decide (p ≠ z))) (fun p hp => by
      have h3 : A p = false := by rw [Bool.eq_false_iff]; intro h2; have := hAn p h2; omega
      rw [h3]; simp; omega) (by omega)
    rw [Bool.and_eq_true, Bool.not_eq_true', decide_eq_true_eq] at hx hy
    have h2 := h.two A x y hne hA hAn hx.1 hy.1 hxn hyn
    refine (h.point (z := z) (fun p hp => ?_) ?_ (by decide) h2).sub fun p hp => ?_
    · rcases hp with hp | rfl | rfl
      · have := hAn p hp; omega
      · omega
      · omega
    · rintro (h4 | h4 | h4)
      · rw [hAz] at h4; cases h4
      · exact hx.2 h4.symm
      · exact hy.2 h4.symm
    · cases hAp : A p
      · by_cases e : p = z
        · exact .inr e
        · exact .inl (.inr (hall p hp (by rw [hAp]; simpa using e)))
      · exact .inl (.inl rfl)
  · exact (h.few hAn hA h0).more (by decide) (by decide)
/-- HIRAGUCHI, of at most seven points. -/
theorem Srd.hira (h : Srd n lt) (hn : n ≤ 7) : RzS (· < n) lt 3 ∧ (4 ≤ n → RzS (· < n) lt (n / 2)) := by
  rcases Nat.eq_zero_or_pos n with rfl | hpos
  · refine ⟨⟨fun _ _ => 0, fun _ _ => ⟨fun p _ hp => absurd hp (Nat.not_lt_zero _), fun p _ hp => absurd hp (Nat.not_lt_zero _)⟩, fun p _ hp => absurd hp (Nat.not_lt_zero _)⟩, fun h4 => by omega⟩
  · obtain ⟨k, hk, ⟨A, hAn, hA, hkA⟩, ch, c1, c2⟩ := dilworth h hpos
    have hc := h.chains ch c1 c2
    refine ⟨?_, fun h4 => ?_⟩
    · rcases Nat.lt_or_ge 3 k with h3 | h3
      · exact h.few3 hAn hA (by omega)
      · exact hc.more hk h3
    · rcases Nat.lt_or_ge (n / 2) k with h3 | h3
      · rcases Nat.lt_or_ge n 7 with h7 | h7
        · exact (h.few hAn hA (by omega)).more (by decide) (by omega)
        · exact (h.few3 hAn hA (by omega)).more (by decide) (by omega)
      · exact hc.more hk h3
end
end Go.Proofs.YtinblbkglkhjmaaDoor
