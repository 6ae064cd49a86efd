/-
  What the reference's search finds among sets that rise: what two have in common, and the least that has both. Conditions: as each theorem says.
-/
import Derived.Test.YtpmgengddnafeabLofM
import Derived.Test.YtpmgengddnafeabPlace
namespace Go.Proofs.Ytpmgengddnafeab

/-- Is the a-th set inside the b-th? -/
def insB (l : List Nat) (a b : Nat) : Bool := lack (nth l a) (nth l b) == 0
theorem ins_iff {l : List Nat} {a b : Nat} (ha : nth l a < 1024) (hb : nth l b < 1024) : insB l a b = true ↔ ∀ i, (nth l a).testBit i = true → (nth l b).testBit i = true := by
  unfold insB
  rw [beq_iff_eq]
  exact lack_zero _ _ (by omega) (by omega)
theorem mZ_is {l : List Nat} {m : Nat → Nat → Nat} {x y : Nat} (hr : Rises l) (hs : ∀ k, k < l.length → nth l k < 1024) (hx : x < l.length) (hy : y < l.length) (hm : m x y < l.length ∧ nth l (m x y) = nth l x &&& nth l y) : mZ (insB l) l.length x y = (m x y : Nat) := by
  have sx := hs x hx
  have sy := hs y hy
  have sm := hs _ hm.1
  refine lst_is _ _ hm.1 ?_ ?_
  · show loB (insB l) x y (m x y) l.length = true
    rw [loB_iff]
    refine ⟨⟨(ins_iff sm sx).2 fun i hi => ?_, (ins_iff sm sy).2 fun i hi => ?_⟩, fun k hk h1 h2 => (ins_iff (hs k hk) sm).2 fun i hi => ?_⟩
    · rw [hm.2, Nat.testBit_and, Bool.and_eq_true] at hi; exact hi.1
    · rw [hm.2, Nat.testBit_and, Bool.and_eq_true] at hi; exact hi.2
    · rw [hm.2, Nat.testBit_and, Bool.and_eq_true]
      exact ⟨(ins_iff (hs k hk) sx).1 h1 i hi, (ins_iff (hs k hk) sy).1 h2 i hi⟩
  · intro z hz h
    have h' : loB (insB l) x y z l.length = true := h
    rw [loB_iff] at h'
    obtain ⟨⟨h1, h2⟩, h3⟩ := h'
    refine hr.one hz hm.1 ?_
    apply Nat.eq_of_testBit_eq
    intro i
    have f1 := (ins_iff (hs z hz) sx).1 h1 i
    have f2 := (ins_iff (hs z hz) sy).1 h2 i
    have f3 := (ins_iff sm (hs z hz)).1 (h3 (m x y) hm.1 ((ins_iff sm sx).2 fun i hi => by rw [hm.2, Nat.testBit_and, Bool.and_eq_true] at hi; exact hi.1) ((ins_iff sm sy).2 fun i hi => by rw [hm.2, Nat.testBit_and, Bool.and_eq_true] at hi; exact hi.2)) i
    rw [hm.2, Nat.testBit_and] at f3 ⊢
    rw [Bool.eq_iff_iff]
    constructor
    · intro hi; rw [f1 hi, f2 hi]; rfl
    · exact f3
theorem jZ_is {l : List Nat} {j : Nat → Nat → Nat} {x y : Nat} (hr : Rises l) (hs : ∀ k, k < l.length → nth l k < 1024) (hx : x < l.length) (hy : y < l.length) (hj : j x y < l.length)
    (hu : ∀ i, (nth l x).testBit i = true ∨ (nth l y).testBit i = true → (nth l (j x y)).testBit i = true) (hl : ∀ k, k < l.length → (∀ i, (nth l x).testBit i = true ∨ (nth l y).testBit i = true → (nth l k).testBit i = true) → ∀ i, (nth l (j x y)).testBit i = true → (nth l k).testBit i = true) :
    jZ (insB l) l.length x y = (j x y : Nat) := by
  have sx := hs x hx
  have sy := hs y hy
  have sm := hs _ hj
  have up1 : insB l x (j x y) = true := (ins_iff sx sm).2 fun i hi => hu i (.inl hi)
  have up2 : insB l y (j x y) = true := (ins_iff sy sm).2 fun i hi => hu i (.inr hi)
  refine lst_is _ _ hj ?_ ?_
  · show hgB (insB l) x y (j x y) l.length = true
    rw [hgB_is, loB_iff]
    refine ⟨⟨up1, up2⟩, fun k hk h1 h2 => (ins_iff sm (hs k hk)).2 (hl k hk fun i hi => ?_)⟩
    rcases hi with hi | hi
    · exact (ins_iff sx (hs k hk)).1 h1 i hi
    · exact (ins_iff sy (hs k hk)).1 h2 i hi
  · intro z hz h
    have h' : hgB (insB l) x y z l.length = true := h
    rw [hgB_is, loB_iff] at h'
    obtain ⟨⟨h1, h2⟩, h3⟩ := h'
    refine hr.one hz hj ?_
    apply Nat.eq_of_testBit_eq
    intro i
    have f1 := hl z hz (fun i hi => by
      rcases hi with hi | hi
      · exact (ins_iff sx (hs z hz)).1 h1 i hi
      · exact (ins_iff sy (hs z hz)).1 h2 i hi) i
    have f2 := (ins_iff (hs z hz) sm).1 (h3 (j x y) hj up1 up2) i
    rw [Bool.eq_iff_iff]
    exact ⟨f2, f1⟩
end Go.Proofs.Ytpmgengddnafeab
