/-
  What implies what, in a distributive lattice: as plain mathematics. Conditions: a lattice of at least one element that is distributive. No Go text here.
-/
import Derived.Test.YtibnadbobijjpaaGalM
namespace Go.Proofs.Ytibnadbobijjpaa

section
variable {α : Type} {L : AL α} {I : α → α → α} {o t : α}
/-- What implies the least element. -/
def nI (I : α → α → α) (o x : α) : α := I x o
theorem nI_low (hI : ∀ x y z, L.le (L.m z x) y ↔ L.le z (I x y)) (x : α) : L.le (L.m x (nI I o x)) o := by
  rw [L.mc]; exact (hI x o _).2 (L.refl _)
theorem nI_up (hI : ∀ x y z, L.le (L.m z x) y ↔ L.le z (I x y)) {x y : α} (h : L.le (L.m x y) o) : L.le x (nI I o y) := (hI y o x).1 h
theorem nn_up (hI : ∀ x y z, L.le (L.m z x) y ↔ L.le z (I x y)) (x : α) : L.le x (nI I o (nI I o x)) := nI_up hI (nI_low hI x)
theorem nI_anti (hI : ∀ x y z, L.le (L.m z x) y ↔ L.le z (I x y)) {x y : α} (h : L.le x y) : L.le (nI I o y) (nI I o x) :=
  nI_up hI (L.trans (L.mm (L.refl _) h) (by rw [L.mc]; exact nI_low hI y))
theorem nn_meet (hI : ∀ x y z, L.le (L.m z x) y ↔ L.le z (I x y)) {x y : α} (hx : L.le (nI I o (nI I o x)) x) (hy : L.le (nI I o (nI I o y)) y) : L.le (nI I o (nI I o (L.m x y))) (L.m x y) :=
  L.glb (L.trans (nI_anti hI (nI_anti hI (L.ml x y))) hx) (L.trans (nI_anti hI (nI_anti hI (L.mr x y))) hy)
theorem nn_imp (hI : ∀ x y z, L.le (L.m z x) y ↔ L.le z (I x y)) {x y : α} (hy : L.le (nI I o (nI I o y)) y) : L.le (nI I o (nI I o (I x y))) (I x y) := by
  refine (hI x y _).1 (L.trans (nI_up hI ?_) hy)
  have h1 : L.le (L.m (I x y) x) y := (hI x y _).2 (L.refl _)
  have h2 : L.le (L.m x (nI I o y)) (nI I o (I x y)) := nI_up hI (by
    refine L.trans (L.glb ?_ ?_) (nI_low hI y)
    · refine L.trans ?_ h1
      exact L.glb (L.mr _ _) (L.trans (L.ml _ _) (L.ml _ _))
    · exact L.trans (L.ml _ _) (L.mr _ _))
  refine L.trans (L.glb (L.trans (L.ml _ _) (L.ml _ _)) (L.trans (L.glb (L.trans (L.ml _ _) (L.mr _ _)) (L.mr _ _)) h2)) ?_
  rw [L.mc]; exact nI_low hI _
theorem all_nn (hI : ∀ x y z, L.le (L.m z x) y ↔ L.le z (I x y)) (ho : ∀ x, L.le o x) (ht : ∀ x, L.le x t) (h : ∀ x, L.le (nI I o (nI I o x)) x) (x : α) : L.m x (nI I o x) = o ∧ L.j x (nI I o x) = t := by
  refine ⟨L.anti (nI_low hI x) (ho _), L.anti (ht _) ?_⟩
  refine L.trans ?_ (h _)
  refine nI_up hI (L.trans (L.mr _ _) ?_)
  have h1 : L.le (nI I o (L.j x (nI I o x))) (nI I o x) := nI_anti hI (L.jl _ _)
  have h2 : L.le (nI I o (L.j x (nI I o x))) (nI I o (nI I o x)) := nI_anti hI (L.jr _ _)
  exact L.trans (L.glb h1 h2) (nI_low hI _)
theorem oth_nn (hI : ∀ x y z, L.le (L.m z x) y ↔ L.le z (I x y)) (hd : L.Dis) (ho : ∀ x, L.le o x) (ht : ∀ x, L.le x t) {x y : α} (h1 : L.m x y = o) (h2 : L.j x y = t) : L.le (nI I o (nI I o x)) x := by
  have hy : L.le y (nI I o x) := nI_up hI (by rw [L.mc, h1]; exact L.refl _)
  have e : L.m (nI I o (nI I o x)) (L.j x y) = nI I o (nI I o x) := by rw [h2]; exact ht _
  rw [hd] at e
  rw [← e]
  refine L.lub (L.mr _ _) (L.trans ?_ (ho x))
  exact L.trans (L.mm (L.refl _) hy) (by rw [L.mc]; exact nI_low hI _)
end
section
variable {q : Nat} {m j : Nat → Nat → Nat}
/-- The greatest element that has, with x, nothing but what is below y. -/
def imp (q : Nat) (m j : Nat → Nat → Nat) (x y : Nat) : Nat := bk q m j m (fun z => m z x) y
theorem imp_lt (h : Lat q m j) (h1 : 1 ≤ q) (x y : Nat) : imp q m j x y < q := bk_lt h h1 y
theorem keep_meet (h : Lat q m j) (h1 : 1 ≤ q) (hd : All3 q (disB m j)) {x : Nat} (hx : x < q) : Keep q m j q m j (fun z => m z x) :=
  ⟨h.least h1 hx, fun a b ha hb => by
    have e := hd x a b hx ha hb
    simp only [disB, beq_iff_eq] at e
    show m (j a b) x = j (m a x) (m b x)
    rw [h.comm (h.ij a b ha hb) hx, e, h.comm hx ha, h.comm hx hb]⟩
theorem imp_iff (h : Lat q m j) (h1 : 1 ≤ q) (hd : All3 q (disB m j)) {x y z : Nat} (hx : x < q) (hy : y < q) (hz : z < q) : m (m z x) y = m z x ↔ m z (imp q m j x y) = z :=
  bk_iff h h1 h h1 (fun z hz => h.im z x hz hx) (keep_meet h h1 hd hx) hz hy
/-- The reference's look at z, the first k looked at. -/
def tpB (m : Nat → Nat → Nat) (x y z : Nat) : Nat → Bool
  | 0 => leB m (m x z) y
  | k + 1 => tpB m x y z k && (!leB m (m x k) y || leB m k z)
theorem tpB_iff {x y z : Nat} : ∀ k, tpB m x y z k = true ↔ m (m x z) y = m x z ∧ ∀ w, w < k → m (m x w) y = m x w → m w z = w
  | 0 => by simp [tpB, leB]
  | k + 1 => by
    rw [tpB, Bool.and_eq_true, tpB_iff k]
    constructor
    · rintro ⟨⟨h1, h2⟩, h3⟩
      refine ⟨h1, fun w hw hl => ?_⟩
      by_cases e : w = k
      · subst e
        rw [Bool.or_eq_true, Bool.not_eq_true'] at h3
        rcases h3 with h3 | h3
        · rw [leB_iff.2 hl] at h3; cases h3
        · exact leB_iff.1 h3
      · exact h2 w (by omega) hl
    · rintro ⟨h1, h2⟩
      refine ⟨⟨h1, fun w hw => h2 w (by omega)⟩, ?_⟩
      cases hl : leB m (m x k) y
      · rfl
      · simp [leB_iff.2 (h2 k (by omega) (leB_iff.1 hl))]
theorem tp_one (h : Lat q m j) (h1 : 1 ≤ q) (hd : All3 q (disB m j)) {x y z : Nat} (hx : x < q) (hy : y < q) (hz : z < q) : tpB m x y z q = true ↔ z = imp q m j x y := by
  have hi := imp_lt h h1 x y
  have low : m (m x (imp q m j x y)) y = m x (imp q m j x y) := by
    rw [h.comm hx hi]; exact (imp_iff h h1 hd hx hy hi).2 (h.le_refl hi)
  rw [tpB_iff]
  constructor
  · rintro ⟨h2, h3⟩
    refine h.le_anti hz hi ((imp_iff h h1 hd hx hy hz).1 (by rw [h.comm hz hx]; exact h2)) (h3 _ hi low)
  · rintro rfl
    exact ⟨low, fun w hw hl => (imp_iff h h1 hd hx hy hw).1 (by rw [h.comm hw hx]; exact hl)⟩
/-- Not x. -/
def nt (q : Nat) (m j : Nat → Nat → Nat) (x : Nat) : Nat := imp q m j x (en m q)
def rgB (q : Nat) (m j : Nat → Nat → Nat) (x : Nat) : Bool := nt q m j (nt q m j x) == x
def regs (q : Nat) (m j : Nat → Nat → Nat) : List Nat := filt (rgB q m j) q
/-- The same on elements. -/
def fI (h : Lat q m j) (h1 : 1 ≤ q) (x y : Fin q) : Fin q := ⟨imp q m j x.1 y.1, imp_lt h h1 _ _⟩
def fO (h : Lat q m j) (h1 : 1 ≤ q) : Fin q := ⟨en m q, en_lt h1 h.im q (Nat.le_refl _)⟩
theorem fle (h : Lat q m j) {x y : Fin q} : h.al.le x y ↔ m x.1 y.1 = x.1 := by
  show (⟨m x.1 y.1, _⟩ : Fin q) = x ↔ _
  rw [Fin.ext_iff]
theorem f_res (h : Lat q m j) (h1 : 1 ≤ q) (hd : All3 q (disB m j)) (x y z : Fin q) : h.al.le (h.al.m z x) y ↔ h.al.le z (fI h h1 x y) := by
  rw [fle, fle]; exact imp_iff h h1 hd x.2 y.2 z.2
theorem f_low (h : Lat q m j) (h1 : 1 ≤ q) (x : Fin q) : h.al.le (fO h h1) x := (fle h).2 (h.least h1 x.2)
theorem rg_iff (h : Lat q m j) (h1 : 1 ≤ q) (hd : All3 q (disB m j)) (x : Fin q) : rgB q m j x.1 = true ↔ h.al.le (nI (fI h h1) (fO h h1) (nI (fI h h1) (fO h h1) x)) x := by
  have e : (nI (fI h h1) (fO h h1) (nI (fI h h1) (fO h h1) x)).1 = nt q m j (nt q m j x.1) := rfl
  unfold rgB
  rw [beq_iff_eq, ← e]
  constructor
  · intro h2
    have : nI (fI h h1) (fO h h1) (nI (fI h h1) (fO h h1) x) = x := Fin.ext h2
    rw [this]; exact h.al.refl _
  · intro h2
    exact congrArg Fin.val (h.al.anti h2 (nn_up (f_res h h1 hd) x))
theorem rg_meet (h : Lat q m j) (h1 : 1 ≤ q) (hd : All3 q (disB m j)) {x y : Nat} (hx : x < q) (hy : y < q) (rx : rgB q m j x = true) (ry : rgB q m j y = true) : rgB q m j (m x y) = true :=
  (rg_iff h h1 hd (h.al.m ⟨x, hx⟩ ⟨y, hy⟩)).2 (nn_meet (f_res h h1 hd) ((rg_iff h h1 hd ⟨x, hx⟩).1 rx) ((rg_iff h h1 hd ⟨y, hy⟩).1 ry))
theorem rg_imp (h : Lat q m j) (h1 : 1 ≤ q) (hd : All3 q (disB m j)) {x y : Nat} (hx : x < q) (hy : y < q) (ry : rgB q m j y = true) : rgB q m j (imp q m j x y) = true :=
  (rg_iff h h1 hd (fI h h1 ⟨x, hx⟩ ⟨y, hy⟩)).2 (nn_imp (f_res h h1 hd) ((rg_iff h h1 hd ⟨y, hy⟩).1 ry))
theorem regs_all : ∀ {P : Nat → Bool} (k : Nat), (filt P k).length = k ↔ ∀ x, x < k → P x = true
  | P, 0 => by simp [filt]
  | P, k + 1 => by
    have hl := filt_len P k
    cases hp : P k
    · rw [filt_no hp]
      constructor
      · intro h; omega
      · intro h; have := h k (by omega); rw [hp] at this; cases this
    · rw [filt_yes hp, List.length_append, List.length_singleton]
      constructor
      · intro h x hx
        by_cases e : x = k
        · rw [e]; exact hp
        · exact (regs_all k).1 (by omega) x (by omega)
      · intro h
        rw [(regs_all k).2 fun x hx => h x (by omega)]
/-- Boolean just if each element has one other. -/
theorem boole (h : Lat q m j) (h1 : 1 ≤ q) (hd : All3 q (disB m j)) : (regs q m j).length = q ↔ ∀ x, x < q → (oths q m j x q).length = 1 := by
  have hdis := h.dis.2 hd
  have hgt : ∀ x : Fin q, h.al.le x ⟨en j q, en_lt h1 h.ij q (Nat.le_refl _)⟩ := fun x => (fle h).2 (by
    have hx := x.2
    have he := en_lt h1 h.ij q (Nat.le_refl _)
    have := h.turn.least h1 hx
    rw [h.turn.comm he hx] at this
    exact (h.le_join hx he).2 this)
  rw [regs, regs_all]
  constructor
  · intro hall x hx
    have key := all_nn (f_res h h1 hd) (f_low h h1) hgt (fun y => (rg_iff h h1 hd y).1 (hall y.1 y.2)) ⟨x, hx⟩
    have hle : (oths q m j x q).length ≤ 1 := oths_one (fun y z hy hz a b => by
      simp only [othB, Bool.and_eq_true, beq_iff_eq] at a b
      exact h.one hd hx hy hz (a.1.trans b.1.symm) (a.2.trans b.2.symm)) q (Nat.le_refl _)
    have hmem : (nI (fI h h1) (fO h h1) ⟨x, hx⟩).1 ∈ oths q m j x q := (oths_mem q m j x q _).2 ⟨(nI (fI h h1) (fO h h1) ⟨x, hx⟩).2, by
      simp only [othB, Bool.and_eq_true, beq_iff_eq]
      exact ⟨congrArg Fin.val key.1, congrArg Fin.val key.2⟩⟩
    have := List.length_pos_of_mem hmem
    omega
  · intro hall x hx
    obtain ⟨y, hy⟩ : ∃ y, y ∈ oths q m j x q := List.exists_mem_of_length_pos (by rw [hall x hx]; decide)
    obtain ⟨hyq, ho⟩ := (oths_mem q m j x q y).1 hy
    simp only [othB, Bool.and_eq_true, beq_iff_eq] at ho
    have e1 : h.al.m ⟨x, hx⟩ ⟨y, hyq⟩ = fO h h1 := Fin.ext ho.1
    have e2 : h.al.j ⟨x, hx⟩ ⟨y, hyq⟩ = ⟨en j q, en_lt h1 h.ij q (Nat.le_refl _)⟩ := Fin.ext ho.2
    exact (rg_iff h h1 hd ⟨x, hx⟩).2 (oth_nn (f_res h h1 hd) hdis (f_low h h1) hgt e1 e2)
end
end Go.Proofs.Ytibnadbobijjpaa
