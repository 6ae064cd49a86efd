/-
  Glivenko's theorem, as plain mathematics. Conditions: a distributive lattice of at least one element, a formula that is well made. No Go text here.
-/
import Derived.Test.YtfkkjebgccnlnaaVaM
import Derived.Test.YtfkkjebgccnlnaaHeyM
namespace Go.Proofs.Ytfkkjebgccnlnaa

/-- A formula's truth. -/
def bv (g : Nat → Bool) : FT → Bool
  | .node none _ => false
  | .node (some (k, x, _)) kid => if k = 1 then false else if k = 2 then g x.toNat else if k = 3 then bv g (kid 0 rfl) && bv g (kid 1 rfl) else if k = 4 then bv g (kid 0 rfl) || bv g (kid 1 rfl) else !bv g (kid 0 rfl) || bv g (kid 1 rfl)
/-- What has nothing below it but the least element. -/
def Atom (q : Nat) (m : Nat → Nat → Nat) (p : Nat) : Prop := p < q ∧ p ≠ en m q ∧ ∀ x, x < q → m p x = p ∨ m p x = en m q
theorem en_in {q : Nat} {m j : Nat → Nat → Nat} (h : Lat q m j) (h1 : 1 ≤ q) : en m q < q := en_lt h1 h.im q (Nat.le_refl _)
theorem atom_of {q : Nat} {m j : Nat → Nat → Nat} (h : Lat q m j) : ∀ N b, cntB (fun y => leB m y b) q ≤ N → b < q → b ≠ en m q → ∃ p, Atom q m p ∧ m p b = p := by
  intro N
  induction N with
  | zero =>
    intro b hc hb _
    exfalso
    have : cntB (fun _ => false) q < cntB (fun y => leB m y b) q := cntB_lt q (fun i _ hi => by simp at hi) ⟨b, hb, rfl, leB_iff.2 (h.le_refl hb)⟩
    omega
  | succ N ih =>
    intro b hc hb hne
    by_cases ha : ∀ x, x < q → m b x = b ∨ m b x = en m q
    · exact ⟨b, ⟨hb, hne, ha⟩, h.le_refl hb⟩
    · obtain ⟨x, hx⟩ := Classical.not_forall.1 ha
      have hxq : x < q := Classical.byContradiction fun hn => hx fun h' => absurd h' hn
      have h2 : ¬ (m b x = b ∨ m b x = en m q) := fun hh => hx fun _ => hh
      have hcq : m b x < q := h.im b x hb hxq
      have hle : m (m b x) b = m b x := h.meet_l hb hxq
      have hlt : cntB (fun y => leB m y (m b x)) q < cntB (fun y => leB m y b) q := by
        refine cntB_lt q (fun i hi h' => leB_iff.2 (h.le_tr hi hcq hb (leB_iff.1 h') hle)) ⟨b, hb, ?_, leB_iff.2 (h.le_refl hb)⟩
        cases hB : leB m b (m b x) with
        | false => rfl
        | true => exact absurd (.inl (h.le_anti hcq hb hle (leB_iff.1 hB))) h2
      obtain ⟨p, hp, hpc⟩ := ih (m b x) (by omega) hcq (fun e => h2 (.inr e))
      exact ⟨p, hp, h.le_tr hp.1 hcq hb hpc hle⟩
theorem low_one {q : Nat} {m j : Nat → Nat → Nat} (h : Lat q m j) (h1 : 1 ≤ q) {p : Nat} (hp : Atom q m p) : m p (en m q) ≠ p := fun e => by
  have h2 := h.least h1 hp.1
  rw [h.comm (en_in h h1) hp.1, e] at h2
  exact hp.2.1 h2
/-- No part of a formula is missing. -/
def Full : FT → Prop
  | .node none _ => False
  | .node (some (_, _, n)) kid => ∀ i, i < n → Full (kid i rfl)
/-- What lies over an atom is a truth of the formula. -/
theorem val_bv {q : Nat} {m j : Nat → Nat → Nat} (h : Lat q m j) (h1 : 1 ≤ q) (hd : All3 q (disB m j)) {p : Nat} (hp : Atom q m p) {f : Nat → Nat} (hf : ∀ i, i < 3 → f i < q) {g : Nat → Bool} (hg : ∀ i, i < 3 → (m p (f i) = p ↔ g i = true)) (T : FT) : cf T = 0 → Full T → (m p (val q m j f T) = p ↔ bv g T = true) := by
  induction T using FT.ind with
  | leaf => exact fun _ hn => hn.elim
  | mk k x n kid ih =>
    intro hc hfu
    rcases cf_zero hc with ⟨rfl, rfl⟩ | ⟨rfl, rfl, hx1, hx2⟩ | ⟨hk3, rfl, a0, a1⟩
    · simp only [val, bv, if_true]
      exact ⟨fun e => absurd e (low_one h h1 hp), fun e => by simp at e⟩
    · have := hg x.toNat (by omega)
      simpa [val, bv] using this
    · have i0 := ih 0 a0 (hfu 0 (by omega))
      have i1 := ih 1 a1 (hfu 1 (by omega))
      have l0 := val_lt h h1 hf (kid 0) a0
      have l1 := val_lt h h1 hf (kid 1) a1
      have hpq := hp.1
      rcases hk3 with rfl | rfl | rfl
      · have e : m p (m (val q m j f (kid 0)) (val q m j f (kid 1))) = p ↔ m p (val q m j f (kid 0)) = p ∧ m p (val q m j f (kid 1)) = p :=
          ⟨fun e => ⟨h.le_tr hpq (h.im _ _ l0 l1) l0 e (h.meet_l l0 l1), h.le_tr hpq (h.im _ _ l0 l1) l1 e (h.meet_r l0 l1)⟩, fun e => h.meet_glb l0 l1 hpq e.1 e.2⟩
        have : bv g (.mk 3 x 2 kid) = (bv g (kid 0) && bv g (kid 1)) := by simp [bv]
        rw [this, Bool.and_eq_true, ← i0, ← i1]
        simpa [val] using e
      · have e : m p (j (val q m j f (kid 0)) (val q m j f (kid 1))) = p ↔ m p (val q m j f (kid 0)) = p ∨ m p (val q m j f (kid 1)) = p := by
          constructor
          · intro e
            rcases hp.2.2 _ l0 with e0 | e0
            · exact .inl e0
            rcases hp.2.2 _ l1 with e1 | e1
            · exact .inr e1
            exfalso
            have ed := hd p _ _ hpq l0 l1
            simp only [disB, beq_iff_eq] at ed
            rw [e, e0, e1] at ed
            have hen := en_in h h1
            have e2 : j (en m q) (en m q) = en m q := (h.le_join hen hen).1 (h.le_refl hen)
            exact hp.2.1 (ed.trans e2)
          · rintro (e | e)
            · exact h.le_tr hpq l0 (h.ij _ _ l0 l1) e (h.join_l l0 l1)
            · exact h.le_tr hpq l1 (h.ij _ _ l0 l1) e (h.join_r l0 l1)
        have : bv g (.mk 4 x 2 kid) = (bv g (kid 0) || bv g (kid 1)) := by simp [bv]
        rw [this, Bool.or_eq_true, ← i0, ← i1]
        simpa [val] using e
      · have e : m p (imp q m j (val q m j f (kid 0)) (val q m j f (kid 1))) = p ↔ (¬ m p (val q m j f (kid 0)) = p) ∨ m p (val q m j f (kid 1)) = p := by
          rw [← imp_iff h h1 hd l0 l1 hpq]
          constructor
          · intro e
            by_cases e0 : m p (val q m j f (kid 0)) = p
            · rw [e0] at e; exact .inr e
            · exact .inl e0
          · rintro (e | e)
            · rcases hp.2.2 _ l0 with e0 | e0
              · exact absurd e0 e
              · rw [e0]; exact h.least h1 l1
            · have hm := h.im _ _ hpq l0
              exact h.le_tr hm hpq l1 (h.meet_l hpq l0) e
        have : bv g (.mk 5 x 2 kid) = (!bv g (kid 0) || bv g (kid 1)) := by simp [bv]
        rw [this, Bool.or_eq_true, ← i1, Bool.not_eq_true', ← Bool.not_eq_true, ← i0]
        simpa [val] using e
/-- Always true. -/
def Taut (T : FT) : Prop := ∀ g : Nat → Bool, bv g T = true
def vB (q : Nat) (m j : Nat → Nat → Nat) (b : Bool) : Nat := if b then en j q else en m q
theorem top_in {q : Nat} {m j : Nat → Nat → Nat} (h : Lat q m j) (h1 : 1 ≤ q) : en j q < q := en_lt h1 h.ij q (Nat.le_refl _)
theorem v3_of (f : Nat → Nat) : ∀ i, i < 3 → v3 (f 0) (f 1) (f 2) i = f i := fun i hi => by
  rcases (by omega : i = 0 ∨ i = 1 ∨ i = 2) with rfl | rfl | rfl <;> simp [v3]
/-- What is always the greatest, in more than one element, is always true. -/
theorem taut_of {q : Nat} {m j : Nat → Nat → Nat} (h : Lat q m j) (h1 : 1 ≤ q) (h2 : 1 < q) (hd : All3 q (disB m j)) (htop : ∀ x, x < q → m x (en j q) = x) {T : FT} (hc : cf T = 0) (hf : Full T) (hA : ∀ x y z, x < q → y < q → z < q → val q m j (v3 x y z) T = en j q) : Taut T := by
  intro g
  obtain ⟨b, hb, hne⟩ : ∃ b, b < q ∧ b ≠ en m q := by
    by_cases e : en m q = 0
    · exact ⟨1, h2, by omega⟩
    · exact ⟨0, by omega, fun h => e h.symm⟩
  obtain ⟨p, hp, _⟩ := atom_of h _ b (Nat.le_refl _) hb hne
  have hin : ∀ b, vB q m j b < q := fun b => by unfold vB; split; exact top_in h h1; exact en_in h h1
  have hl : ∀ i, i < 3 → v3 (vB q m j (g 0)) (vB q m j (g 1)) (vB q m j (g 2)) i = vB q m j (g i) := v3_of fun i => vB q m j (g i)
  have hv := (val_bv h h1 hd hp (f := v3 (vB q m j (g 0)) (vB q m j (g 1)) (vB q m j (g 2))) (g := g) (fun i hi => by rw [hl i hi]; exact hin _) (fun i hi => by
    rw [hl i hi]
    unfold vB
    cases g i with
    | true => simpa using htop p hp.1
    | false => simpa using low_one h h1 hp) T hc hf).1
  refine hv ?_
  rw [hA _ _ _ (hin _) (hin _) (hin _)]
  exact htop p hp.1
/-- What is always true is not not so. -/
theorem nn_of {q : Nat} {m j : Nat → Nat → Nat} (h : Lat q m j) (h1 : 1 ≤ q) (hd : All3 q (disB m j)) {T : FT} (hc : cf T = 0) (hf : Full T) (hT : Taut T) {f : Nat → Nat} (hfq : ∀ i, i < 3 → f i < q) (htop : ∀ x, x < q → m x (en j q) = x) : imp q m j (imp q m j (val q m j f T) (en m q)) (en m q) = en j q := by
  have hv := val_lt h h1 hfq T hc
  have hen := en_in h h1
  have hn := imp_lt h h1 (val q m j f T) (en m q)
  have hnn := imp_lt h h1 (imp q m j (val q m j f T) (en m q)) (en m q)
  have h0 : imp q m j (val q m j f T) (en m q) = en m q := Classical.byContradiction fun hne => by
    obtain ⟨p, hp, hpb⟩ := atom_of h _ _ (Nat.le_refl _) hn hne
    have hq : m p (val q m j f T) = p := (val_bv h h1 hd hp hfq (g := fun i => m p (f i) == p) (fun i _ => by simp) T hc hf).2 (hT _)
    have h3 := (imp_iff h h1 hd hv hen hp.1).2 hpb
    rw [hq] at h3
    exact low_one h h1 hp h3
  rw [h0]
  rw [h0] at hnn
  refine h.le_anti hnn (top_in h h1) (htop _ hnn) ?_
  refine (imp_iff h h1 hd hen hen (top_in h h1)).1 ?_
  exact h.meet_r (top_in h h1) hen
end Go.Proofs.Ytfkkjebgccnlnaa
