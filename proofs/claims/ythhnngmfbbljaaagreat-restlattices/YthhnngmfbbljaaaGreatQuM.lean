/-
  Classes of elements, and how pairs are put together till nothing is left to put together: what comes out is the least congruence that has the pairs. Plain facts on numbers.
-/
import Derived.Test.YthhnngmfbbljaaaGreatIrrM
namespace Go.Proofs.YthhnngmfbbljaaaGreat
set_option maxRecDepth 100000
open Go.RowKit

/-- One class into another one. -/
def rel1 (c : Nat → Nat) (a b : Nat) (x : Nat) : Nat := if c x = a then b else c x
theorem rel1_yes {c : Nat → Nat} {a b x : Nat} (h : c x = a) : rel1 c a b x = b := if_pos h
theorem rel1_no {c : Nat → Nat} {a b x : Nat} (h : c x ≠ a) : rel1 c a b x = c x := if_neg h
theorem rel1_eq {c : Nat → Nat} {a b u v : Nat} (h : rel1 c a b u = rel1 c a b v) : c u = c v ∨ (c u = a ∧ c v = b) ∨ (c u = b ∧ c v = a) := by
  by_cases hu : c u = a
  · by_cases hv : c v = a
    · exact .inl (hu.trans hv.symm)
    · rw [rel1_yes hu, rel1_no hv] at h
      exact .inr (.inl ⟨hu, h.symm⟩)
  · by_cases hv : c v = a
    · rw [rel1_no hu, rel1_yes hv] at h
      exact .inr (.inr ⟨h, hv⟩)
    · rw [rel1_no hu, rel1_no hv] at h
      exact .inl h
theorem rel1_same {c : Nat → Nat} {a b u v : Nat} (h : c u = c v) : rel1 c a b u = rel1 c a b v := by unfold rel1; rw [h]
/-- A congruence. -/
def Con (q : Nat) (m j : Nat → Nat → Nat) (d : Nat → Nat) : Prop := ∀ x y z, x < q → y < q → z < q → d x = d y → d (m x z) = d (m y z) ∧ d (j x z) = d (j y z)
def Ker (q : Nat) (c d : Nat → Nat) : Prop := ∀ x y, x < q → y < q → c x = c y → d x = d y
def Has (L : List (Nat × Nat)) (d : Nat → Nat) : Prop := ∀ p, p ∈ L → d p.1 = d p.2
/-- What classes and pairs bring with them. -/
def EntC (q : Nat) (c : Nat → Nat) (L : List (Nat × Nat)) (u v : Nat) : Prop := ∀ d : Nat → Nat, Ker q c d → Has L d → d u = d v
structure TInv (q : Nat) (m j : Nat → Nat → Nat) (P : List (Nat × Nat)) (c : Nat → Nat) (L : List (Nat × Nat)) : Prop where
  sound : ∀ d, Con q m j d → Has P d → Ker q c d ∧ Has L d
  has : ∀ p, p ∈ P → EntC q c L p.1 p.2
  con : ∀ x y z, x < q → y < q → z < q → c x = c y → EntC q c L (m x z) (m y z) ∧ EntC q c L (j x z) (j y z)
  inn : ∀ p, p ∈ L → p.1 < q ∧ p.2 < q
theorem TInv.start {q : Nat} {m j : Nat → Nat → Nat} {P : List (Nat × Nat)} (hP : ∀ p, p ∈ P → p.1 < q ∧ p.2 < q) : TInv q m j P (fun x => x) P :=
  ⟨fun d _ h => ⟨fun x y _ _ e => by rw [show x = y from e], h⟩, fun p hp d _ h => h p hp, fun x y z _ _ _ e => by
    obtain rfl : x = y := e
    exact ⟨fun _ _ _ => rfl, fun _ _ _ => rfl⟩, hP⟩
theorem TInv.skip {q : Nat} {m j : Nat → Nat → Nat} {P L : List (Nat × Nat)} {c : Nat → Nat} {x y : Nat} (h : TInv q m j P c (L ++ [(x, y)])) (e : c x = c y) : TInv q m j P c L := by
  have hxy := h.inn (x, y) (by simp)
  have lift : ∀ {u v}, EntC q c (L ++ [(x, y)]) u v → EntC q c L u v := fun he d hk hl => he d hk (fun p hp => by
    rcases List.mem_append.1 hp with h1 | h1
    · exact hl p h1
    · cases List.mem_singleton.1 h1
      exact hk x y hxy.1 hxy.2 e)
  exact ⟨fun d hd hp => ⟨(h.sound d hd hp).1, fun p hp' => (h.sound d hd hp).2 p (List.mem_append.2 (.inl hp'))⟩, fun p hp => lift (h.has p hp), fun a b z ha hb hz e' => ⟨lift (h.con a b z ha hb hz e').1, lift (h.con a b z ha hb hz e').2⟩, fun p hp => h.inn p (List.mem_append.2 (.inl hp))⟩
/-- The pairs that come of one. -/
def newP (m j : Nat → Nat → Nat) (x y : Nat) : Nat → List (Nat × Nat)
  | 0 => []
  | z + 1 => newP m j x y z ++ [(m x z, m y z), (j x z, j y z)]
theorem newP_mem {m j : Nat → Nat → Nat} {x y : Nat} : ∀ {q z : Nat}, z < q → (m x z, m y z) ∈ newP m j x y q ∧ (j x z, j y z) ∈ newP m j x y q
  | 0, _, h => absurd h (Nat.not_lt_zero _)
  | q + 1, z, h => by
    rw [newP]
    by_cases e : z = q
    · subst e; simp
    · have := newP_mem (m := m) (j := j) (x := x) (y := y) (show z < q by omega)
      exact ⟨List.mem_append.2 (.inl this.1), List.mem_append.2 (.inl this.2)⟩
theorem newP_of {m j : Nat → Nat → Nat} {x y : Nat} : ∀ {q : Nat} {p : Nat × Nat}, p ∈ newP m j x y q → ∃ z, z < q ∧ (p = (m x z, m y z) ∨ p = (j x z, j y z))
  | 0, p, h => by cases h
  | q + 1, p, h => by
    rw [newP] at h
    rcases List.mem_append.1 h with h1 | h1
    · obtain ⟨z, hz, e⟩ := newP_of h1
      exact ⟨z, by omega, e⟩
    · simp at h1
      exact ⟨q, by omega, h1⟩
theorem newP_len (m j : Nat → Nat → Nat) (x y : Nat) : ∀ q, (newP m j x y q).length = 2 * q
  | 0 => rfl
  | q + 1 => by rw [newP, List.length_append, newP_len m j x y q]; simp; omega
theorem TInv.join {q : Nat} {m j : Nat → Nat → Nat} {P L : List (Nat × Nat)} {c : Nat → Nat} {x y : Nat} (h : TInv q m j P c (L ++ [(x, y)])) (hm : ∀ a b, a < q → b < q → m a b < q ∧ j a b < q) :
    TInv q m j P (rel1 c (c x) (c y)) (L ++ newP m j x y q) := by
  have hxy := h.inn (x, y) (by simp)
  have exy : rel1 c (c x) (c y) x = rel1 c (c x) (c y) y := by
    rw [rel1_yes rfl]
    by_cases e : c y = c x
    · rw [rel1_yes e]
    · rw [rel1_no e]
  have lift : ∀ {u v}, EntC q c (L ++ [(x, y)]) u v → EntC q (rel1 c (c x) (c y)) (L ++ newP m j x y q) u v := fun he d hk hl => he d (fun a b ha hb e => hk a b ha hb (rel1_same e)) (fun p hp => by
    rcases List.mem_append.1 hp with h1 | h1
    · exact hl p (List.mem_append.2 (.inl h1))
    · cases List.mem_singleton.1 h1
      exact hk x y hxy.1 hxy.2 exy)
  have both : ∀ {a b : Nat}, a < q → b < q → rel1 c (c x) (c y) a = rel1 c (c x) (c y) b → c a = c b ∨ (c a = c x ∧ c b = c y) ∨ (c a = c y ∧ c b = c x) := fun _ _ e => rel1_eq e
  refine ⟨fun d hd hp => ?_, fun p hp => lift (h.has p hp), fun a b z ha hb hz e => ?_, fun p hp => ?_⟩
  · obtain ⟨hk, hl⟩ := h.sound d hd hp
    have dxy : d x = d y := hl (x, y) (by simp)
    refine ⟨fun a b ha hb e => ?_, fun p hp' => ?_⟩
    · rcases both ha hb e with e | ⟨e1, e2⟩ | ⟨e1, e2⟩
      · exact hk a b ha hb e
      · rw [hk a x ha hxy.1 e1, hk b y hb hxy.2 e2]; exact dxy
      · rw [hk a y ha hxy.2 e1, hk b x hb hxy.1 e2]; exact dxy.symm
    · rcases List.mem_append.1 hp' with h1 | h1
      · exact hl p (List.mem_append.2 (.inl h1))
      · obtain ⟨z, hz, e⟩ := newP_of h1
        have := hd x y z hxy.1 hxy.2 hz dxy
        rcases e with rfl | rfl
        · exact this.1
        · exact this.2
  · have hn := newP_mem (m := m) (j := j) (x := x) (y := y) hz
    have mid1 : EntC q (rel1 c (c x) (c y)) (L ++ newP m j x y q) (m x z) (m y z) := fun d _ hl => hl _ (List.mem_append.2 (.inr hn.1))
    have mid2 : EntC q (rel1 c (c x) (c y)) (L ++ newP m j x y q) (j x z) (j y z) := fun d _ hl => hl _ (List.mem_append.2 (.inr hn.2))
    rcases both ha hb e with e | ⟨e1, e2⟩ | ⟨e1, e2⟩
    · exact ⟨lift (h.con a b z ha hb hz e).1, lift (h.con a b z ha hb hz e).2⟩
    · have p1 := h.con a x z ha hxy.1 hz e1
      have p2 := h.con b y z hb hxy.2 hz e2
      exact ⟨fun d hk hl => (lift p1.1 d hk hl).trans ((mid1 d hk hl).trans (lift p2.1 d hk hl).symm), fun d hk hl => (lift p1.2 d hk hl).trans ((mid2 d hk hl).trans (lift p2.2 d hk hl).symm)⟩
    · have p1 := h.con a y z ha hxy.2 hz e1
      have p2 := h.con b x z hb hxy.1 hz e2
      exact ⟨fun d hk hl => (lift p1.1 d hk hl).trans ((mid1 d hk hl).symm.trans (lift p2.1 d hk hl).symm), fun d hk hl => (lift p1.2 d hk hl).trans ((mid2 d hk hl).symm.trans (lift p2.2 d hk hl).symm)⟩
  · rcases List.mem_append.1 hp with h1 | h1
    · exact h.inn p (List.mem_append.2 (.inl h1))
    · obtain ⟨z, hz, e⟩ := newP_of h1
      have a := hm x z hxy.1 hz
      have b := hm y z hxy.2 hz
      rcases e with rfl | rfl
      · exact ⟨a.1, b.1⟩
      · exact ⟨a.2, b.2⟩
/-- The least congruence that has the pairs. -/
def LeastC (q : Nat) (m j : Nat → Nat → Nat) (P : List (Nat × Nat)) (c : Nat → Nat) : Prop := Con q m j c ∧ Has P c ∧ ∀ d, Con q m j d → Has P d → Ker q c d
theorem TInv.done {q : Nat} {m j : Nat → Nat → Nat} {P : List (Nat × Nat)} {c : Nat → Nat} (h : TInv q m j P c []) : LeastC q m j P c := by
  have out : ∀ {u v}, EntC q c [] u v → c u = c v := fun he => he c (fun _ _ _ _ e => e) (fun p hp => by cases hp)
  exact ⟨fun x y z hx hy hz e => ⟨out (h.con x y z hx hy hz e).1, out (h.con x y z hx hy hz e).2⟩, fun p hp => out (h.has p hp), fun d hd hp => (h.sound d hd hp).1⟩
/-- Two of them have the same classes. -/
theorem LeastC.one {q : Nat} {m j : Nat → Nat → Nat} {P : List (Nat × Nat)} {c d : Nat → Nat} (h : LeastC q m j P c) (h' : LeastC q m j P d) : Ker q c d ∧ Ker q d c := ⟨h.2.2 d h'.1 h'.2.1, h'.2.2 c h.1 h.2.1⟩
/-- The first of its class. -/
def frst (c : Nat → Nat) (k : Nat) : Bool := (List.range k).all fun i => !(c i == c k)
theorem frst_iff {c : Nat → Nat} {k : Nat} : frst c k = true ↔ ∀ i, i < k → c i ≠ c k := by
  unfold frst
  simp [List.all_eq_true]
theorem first_of (c : Nat → Nat) (v : Nat) : ∀ x, c x = v → ∃ a, a ≤ x ∧ c a = v ∧ frst c a = true := by
  intro x
  induction x using Nat.strongRecOn with
  | ind x ih =>
    intro h
    by_cases hf : frst c x = true
    · exact ⟨x, Nat.le_refl _, h, hf⟩
    · have : ∃ i, i < x ∧ c i = c x := by
        apply Classical.byContradiction
        intro hn
        exact hf (frst_iff.2 fun i hi e => hn ⟨i, hi, e⟩)
      obtain ⟨i, hi, e⟩ := this
      obtain ⟨a, ha, h1, h2⟩ := ih i hi (e.trans h)
      exact ⟨a, by omega, h1, h2⟩
/-- How many classes there are. -/
def clsN (c : Nat → Nat) (q : Nat) : Nat := cntB (frst c) q
theorem clsN_less {c : Nat → Nat} {q x y : Nat} (hx : x < q) (hy : y < q) (h : c x ≠ c y) : clsN (rel1 c (c x) (c y)) q < clsN c q := by
  refine cntB_lt q (fun k _ hk => ?_) ?_
  · rw [frst_iff] at hk ⊢
    exact fun i hi e => hk i hi (rel1_same e)
  · obtain ⟨a, ha, ea, fa⟩ := first_of c (c x) x rfl
    obtain ⟨b, hb, eb, fb⟩ := first_of c (c y) y rfl
    have hne : a ≠ b := fun e => h (by rw [← ea, e, eb])
    have e1 : rel1 c (c x) (c y) a = c y := rel1_yes ea
    have e2 : rel1 c (c x) (c y) b = c y := by
      by_cases e : c b = c x
      · exact rel1_yes e
      · rw [rel1_no e, eb]
    rcases Nat.lt_or_gt_of_ne hne with hl | hl
    · refine ⟨b, by omega, ?_, fb⟩
      cases hf : frst (rel1 c (c x) (c y)) b
      · rfl
      · exact absurd (e1.trans e2.symm) (frst_iff.1 hf a hl)
    · refine ⟨a, by omega, ?_, fa⟩
      cases hf : frst (rel1 c (c x) (c y)) a
      · rfl
      · exact absurd (e2.trans e1.symm) (frst_iff.1 hf b hl)
end Go.Proofs.YthhnngmfbbljaaaGreat
