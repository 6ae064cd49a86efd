/-
  From each first point on to the one behind it: the chains that a matching leaves. Plain facts: no Go text here. Conditions: at most ten points.
-/
import Derived.Test.YtadocffdneiaaaaDoorChainM
namespace Go.Proofs.YtadocffdneiaaaaDoor
open Go.RowKit

/-- From a point on, each to the one behind it. -/
def fol (G : Nat → Int) : Nat → Nat → List Nat
  | 0, _ => []
  | m + 1, p => p :: (if G p < 0 then [] else fol G m (G p).toNat)
/-- What goes behind whom: one that is above it, and behind nobody else. -/
structure Nxt (g : Nat → Nat) (n : Nat) (G : Nat → Int) : Prop where
  up : ∀ u, u < n → G u = -1 ∨ ∃ j : Nat, j < n ∧ G u = j ∧ (g j).testBit u = true
  inj : ∀ u v, u < n → v < n → G u = G v → G u ≠ -1 → u = v
theorem nxt_of {g : Nat → Nat} {n : Nat} {G : Nat → Int} (h : MOK (trn g n) n n G) : Nxt g n G := by
  refine ⟨fun u hu => ?_, fun u v hu hv e hne => ?_⟩
  · rcases h u hu with h1 | ⟨j, h1, h2, h3, _⟩
    · exact .inl h1
    · refine .inr ⟨j, h1, h2, ?_⟩
      rw [trn_bit] at h3
      cases h0 : (g j).testBit u
      · rw [h0] at h3; simp at h3
      · rfl
  · exact h.inj hu hv (by simp [goB, hne]) (by simp [goB, ← e, hne]) (by rw [e])
theorem up_lt {g : Nat → Nat} {n : Nat} (hn : n ≤ 10) (hg : Sm n n g) (ho : Ord n g) {u j : Nat} (hu : u < n) (hj : j < n) (h : (g j).testBit u = true) : g u < g j := by
  have hp := pw_le n hn
  have h1 := hg u hu
  have h2 := hg j hj
  have hs := (lack_zero _ _ (by omega) (by omega)).1 ((ho j hj).2 u hu h)
  have hle : g u ≤ g j := by
    have : g u &&& g j = g u := Nat.eq_of_testBit_eq fun i => by
      rw [Nat.testBit_and]
      cases hb : (g u).testBit i
      · rfl
      · rw [hs i hb]; rfl
    rw [← this]; exact Nat.and_le_right
  rcases Nat.lt_or_ge (g u) (g j) with h3 | h3
  · exact h3
  · have e : g u = g j := by omega
    have := (ho u hu).1
    rw [e, h] at this; cases this
theorem fol_stable {g : Nat → Nat} {n : Nat} {G : Nat → Int} (hn : n ≤ 10) (hg : Sm n n g) (ho : Ord n g) (hG : Nxt g n G) : ∀ m m' p, p < n → pw n - g p ≤ m → pw n - g p ≤ m' → fol G m p = fol G m' p
  | 0, m', p, hp, h1, h2 => by have := hg p hp; omega
  | m + 1, 0, p, hp, h1, h2 => by have := hg p hp; omega
  | m + 1, m' + 1, p, hp, h1, h2 => by
    rw [fol, fol]
    rcases hG.up p hp with h | ⟨j, hj, he, hb⟩
    · rw [h]; rfl
    · have hlt := up_lt hn hg ho hp hj hb
      have hpn := hg p hp
      rw [he, if_neg (by omega), if_neg (by omega), Int.toNat_natCast, fol_stable hn hg ho hG m m' j hj (by omega) (by omega)]
/-- The chain from a point on. -/
def fl (g : Nat → Nat) (n : Nat) (G : Nat → Int) (p : Nat) : List Nat := fol G (pw n - g p) p
theorem fl_end {g : Nat → Nat} {n : Nat} {G : Nat → Int} (hg : Sm n n g) {p : Nat} (hp : p < n) (h : G p = -1) : fl g n G p = [p] := by
  have h1 := hg p hp
  rw [fl, show pw n - g p = (pw n - g p - 1) + 1 by omega, fol, h]; rfl
theorem fl_next {g : Nat → Nat} {n : Nat} {G : Nat → Int} (hn : n ≤ 10) (hg : Sm n n g) (ho : Ord n g) (hG : Nxt g n G) {p j : Nat} (hp : p < n) (hj : j < n) (h : G p = (j : Nat)) (hb : (g j).testBit p = true) : fl g n G p = p :: fl g n G j := by
  have h1 := hg p hp
  have hlt := up_lt hn hg ho hp hj hb
  rw [fl, show pw n - g p = (pw n - g p - 1) + 1 by omega, fol, h, if_neg (by omega), Int.toNat_natCast, fl, fol_stable hn hg ho hG _ (pw n - g j) j hj (by omega) (Nat.le_refl _)]
theorem fol_len (G : Nat → Int) : ∀ m p, (fol G m p).length ≤ m
  | 0, p => by simp [fol]
  | m + 1, p => by
    rw [fol]
    split
    · simp
    · have := fol_len G m (G p).toNat
      simp; omega
theorem fl_len {g : Nat → Nat} {n : Nat} (hn : n ≤ 10) (G : Nat → Int) (p : Nat) : (fl g n G p).length ≤ 1024 := by
  have h1 := fol_len G (pw n - g p) p
  have h2 := pw_le n hn
  unfold fl; omega
/-- All along a chain: by what is so of the last, and of each by the one behind it. -/
theorem fl_ind {g : Nat → Nat} {n : Nat} {G : Nat → Int} (hn : n ≤ 10) (hg : Sm n n g) (ho : Ord n g) (hG : Nxt g n G) (M : Nat → List Nat → Prop)
    (h1 : ∀ p, p < n → G p = -1 → M p [p]) (h2 : ∀ p j, p < n → j < n → G p = (j : Nat) → (g j).testBit p = true → M j (fl g n G j) → M p (p :: fl g n G j)) : ∀ m p, p < n → pw n - g p ≤ m → M p (fl g n G p)
  | 0, p, hp, h => by have := hg p hp; omega
  | m + 1, p, hp, h => by
    rcases hG.up p hp with he | ⟨j, hj, he, hb⟩
    · rw [fl_end hg hp he]; exact h1 p hp he
    · have hlt := up_lt hn hg ho hp hj hb
      rw [fl_next hn hg ho hG hp hj he hb]
      have hpn := hg p hp
      exact h2 p j hp hj he hb (fl_ind hn hg ho hG M h1 h2 m j hj (by omega))
theorem fl_all {g : Nat → Nat} {n : Nat} {G : Nat → Int} (hn : n ≤ 10) (hg : Sm n n g) (ho : Ord n g) (hG : Nxt g n G) (M : Nat → List Nat → Prop)
    (h1 : ∀ p, p < n → G p = -1 → M p [p]) (h2 : ∀ p j, p < n → j < n → G p = (j : Nat) → (g j).testBit p = true → M j (fl g n G j) → M p (p :: fl g n G j)) {p : Nat} (hp : p < n) : M p (fl g n G p) :=
  fl_ind hn hg ho hG M h1 h2 _ p hp (Nat.le_refl _)
theorem fl_lt {g : Nat → Nat} {n : Nat} {G : Nat → Int} (hn : n ≤ 10) (hg : Sm n n g) (ho : Ord n g) (hG : Nxt g n G) {p : Nat} (hp : p < n) : ∀ q ∈ fl g n G p, q < n :=
  fl_all hn hg ho hG (fun _ l => ∀ q ∈ l, q < n) (fun p hp _ q hq => by simp at hq; omega) (fun p j hp _ _ _ ih q hq => by
    rcases List.mem_cons.1 hq with h | h
    · omega
    · exact ih q h) hp
theorem fl_head {g : Nat → Nat} {n : Nat} {G : Nat → Int} (hn : n ≤ 10) (hg : Sm n n g) (ho : Ord n g) (hG : Nxt g n G) {p : Nat} (hp : p < n) : p ∈ fl g n G p :=
  fl_all hn hg ho hG (fun p l => p ∈ l) (fun p _ _ => by simp) (fun p j _ _ _ _ _ => by simp) hp
theorem fl_up {g : Nat → Nat} {n : Nat} {G : Nat → Int} (hn : n ≤ 10) (hg : Sm n n g) (ho : Ord n g) (hG : Nxt g n G) {p : Nat} (hp : p < n) : ∀ q ∈ fl g n G p, q = p ∨ (g q).testBit p = true := by
  refine fl_all hn hg ho hG (fun p l => ∀ q ∈ l, q = p ∨ (g q).testBit p = true) (fun p _ _ q hq => .inl (by simpa using hq)) (fun p j hp hj _ hb ih q hq => ?_) hp
  rcases List.mem_cons.1 hq with h | h
  · exact .inl h
  · refine .inr ?_
    rcases ih q h with h1 | h1
    · rw [h1]; exact hb
    · exact ord_trans hn hg ho hj (fl_lt hn hg ho hG hj q h) hb h1
theorem fl_pair {g : Nat → Nat} {n : Nat} {G : Nat → Int} (hn : n ≤ 10) (hg : Sm n n g) (ho : Ord n g) (hG : Nxt g n G) {p : Nat} (hp : p < n) : (fl g n G p).Pairwise (fun a b => (g b).testBit a = true) := by
  refine fl_all hn hg ho hG (fun _ l => l.Pairwise (fun a b => (g b).testBit a = true)) (fun p _ _ => by simp) (fun p j hp hj he hb ih => ?_) hp
  refine List.pairwise_cons.2 ⟨fun q hq => ?_, ih⟩
  rcases fl_up hn hg ho hG hj q hq with h1 | h1
  · rw [h1]; exact hb
  · exact ord_trans hn hg ho hj (fl_lt hn hg ho hG hj q hq) hb h1
theorem fl_step {g : Nat → Nat} {n : Nat} {G : Nat → Int} (hn : n ≤ 10) (hg : Sm n n g) (ho : Ord n g) (hG : Nxt g n G) {p : Nat} (hp : p < n) : ∀ u ∈ fl g n G p, ∀ j : Nat, G u = (j : Nat) → j ∈ fl g n G p := by
  refine fl_all hn hg ho hG (fun _ l => ∀ u ∈ l, ∀ j : Nat, G u = (j : Nat) → j ∈ l) (fun p _ he u hu j hj => ?_) (fun p j hp hj he hb ih u hu k hk => ?_) hp
  · have : u = p := by simpa using hu
    rw [this, he] at hj; omega
  · rcases List.mem_cons.1 hu with h | h
    · rw [h, he] at hk
      have : k = j := by omega
      rw [this]
      exact List.mem_cons_of_mem _ (fl_head hn hg ho hG hj)
    · exact List.mem_cons_of_mem _ (ih u h k hk)
theorem fl_pred {g : Nat → Nat} {n : Nat} {G : Nat → Int} (hn : n ≤ 10) (hg : Sm n n g) (ho : Ord n g) (hG : Nxt g n G) {p : Nat} (hp : p < n) : ∀ q ∈ fl g n G p, q = p ∨ ∃ u, u ∈ fl g n G p ∧ G u = (q : Nat) := by
  refine fl_all hn hg ho hG (fun p l => ∀ q ∈ l, q = p ∨ ∃ u, u ∈ l ∧ G u = (q : Nat)) (fun p _ _ q hq => .inl (by simpa using hq)) (fun p j hp hj he hb ih q hq => ?_) hp
  rcases List.mem_cons.1 hq with h | h
  · exact .inl h
  · refine .inr ?_
    rcases ih q h with h1 | ⟨u, h1, h2⟩
    · exact ⟨p, by simp, by rw [h1]; exact he⟩
    · exact ⟨u, List.mem_cons_of_mem _ h1, h2⟩
/-- Is a point behind nobody? -/
def Frst (n : Nat) (G : Nat → Int) (p : Nat) : Prop := ∀ u, u < n → G u ≠ (p : Nat)
theorem root_ex {g : Nat → Nat} {n : Nat} {G : Nat → Int} (hn : n ≤ 10) (hg : Sm n n g) (ho : Ord n g) (hG : Nxt g n G) : ∀ m p, p < n → g p ≤ m → ∃ f, f < n ∧ Frst n G f ∧ p ∈ fl g n G f := by
  intro m
  induction m with
  | zero =>
    intro p hp hm
    refine ⟨p, hp, fun u hu e => ?_, fl_head hn hg ho hG hp⟩
    rcases hG.up u hu with h | ⟨j, hj, he, hb⟩
    · omega
    · have : j = p := by omega
      subst this
      have := up_lt hn hg ho hu hj hb
      omega
  | succ m ih =>
    intro p hp hm
    by_cases hf : Frst n G p
    · exact ⟨p, hp, hf, fl_head hn hg ho hG hp⟩
    · have : ∃ u, u < n ∧ G u = (p : Nat) := Classical.byContradiction fun hno => hf fun u hu e => hno ⟨u, hu, e⟩
      obtain ⟨u, hu, e⟩ := this
      rcases hG.up u hu with h | ⟨j, hj, he, hb⟩
      · omega
      · have : j = p := by omega
        subst this
        have hlt := up_lt hn hg ho hu hj hb
        obtain ⟨f, h1, h2, h3⟩ := ih u hu (by omega)
        exact ⟨f, h1, h2, fl_step hn hg ho hG h1 u h3 j e⟩
theorem root_one {g : Nat → Nat} {n : Nat} {G : Nat → Int} (hn : n ≤ 10) (hg : Sm n n g) (ho : Ord n g) (hG : Nxt g n G) {f f' : Nat} (hf : f < n) (hf' : f' < n) (h1 : Frst n G f) (h2 : Frst n G f') : ∀ m p, p < n → g p ≤ m → p ∈ fl g n G f → p ∈ fl g n G f' → f = f' := by
  intro m
  induction m with
  | zero =>
    intro p hp hm a b
    rcases fl_up hn hg ho hG hf p a with e | e
    · rcases fl_up hn hg ho hG hf' p b with e' | e'
      · omega
      · rw [show g p = 0 by omega] at e'; simp at e'
    · rw [show g p = 0 by omega] at e; simp at e
  | succ m ih =>
    intro p hp hm a b
    rcases fl_pred hn hg ho hG hf p a with e | ⟨u, ha, e⟩
    · rcases fl_pred hn hg ho hG hf' p b with e' | ⟨u', hb, e'⟩
      · omega
      · rw [e] at e'
        exact absurd e' (h1 u' (fl_lt hn hg ho hG hf' u' hb))
    · have hu := fl_lt hn hg ho hG hf u ha
      rcases fl_pred hn hg ho hG hf' p b with e' | ⟨u', hb, e'⟩
      · rw [e'] at e
        exact absurd e (h2 u hu)
      · have hu' := fl_lt hn hg ho hG hf' u' hb
        have : u = u' := hG.inj u u' hu hu' (by rw [e, e']) (by rw [e]; omega)
        subst this
        rcases hG.up u hu with h | ⟨j, hj, he, hbb⟩
        · omega
        · have : j = p := by omega
          subst this
          have := up_lt hn hg ho hu hj hbb
          exact ih u hu (by omega) ha hb
end Go.Proofs.YtadocffdneiaaaaDoor
