/-
  FUNAYAMA, NAKAYAMA: the congruences of a lattice, all of them in a list, are a distributive lattice by what has only pairs that another one has; and what is simple and distributive has two elements. Plain facts on numbers.
-/
import Derived.Test.YtappekjkcgmheabFunA
import Derived.Test.YtappekjkcgmheabLofM
namespace Go.Proofs.Ytappekjkcgmheab
open Go.RowKit

theorem ker_refl (q : Nat) (c : Nat → Nat) : Ker q c c := fun _ _ _ _ e => e
theorem ker_trans {q : Nat} {a b c : Nat → Nat} (h1 : Ker q a b) (h2 : Ker q b c) : Ker q a c := fun x y hx hy e => h2 x y hx hy (h1 x y hx hy e)
/-- Classes out of a relation: the first that is in one class with an element. -/
theorem classes_of (T : Nat → Nat → Prop) (hr : ∀ x, T x x) (hs : ∀ x y, T x y → T y x) (ht : ∀ x y z, T x y → T y z → T x z) : ∃ t : Nat → Nat, ∀ x y, t x = t y ↔ T x y := by
  have least : ∀ x, ∃ u, T x u ∧ ∀ v, T x v → u ≤ v := fun x => by
    have : ∀ k, (∃ u, u ≤ k ∧ T x u) → ∃ u, T x u ∧ ∀ v, T x v → u ≤ v := by
      intro k
      induction k with
      | zero =>
        rintro ⟨u, hu, h⟩
        obtain rfl : u = 0 := by omega
        exact ⟨0, h, fun v _ => Nat.zero_le v⟩
      | succ k ih =>
        rintro ⟨u, hu, h⟩
        by_cases hk : ∃ u, u ≤ k ∧ T x u
        · exact ih hk
        · refine ⟨u, h, fun v hv => ?_⟩
          rcases Nat.lt_or_ge k v with h1 | h1
          · omega
          · exact absurd ⟨v, h1, hv⟩ hk
    exact this x ⟨x, Nat.le_refl _, hr x⟩
  obtain ⟨t, ht'⟩ := Classical.axiomOfChoice least
  refine ⟨t, fun x y => ⟨fun e => ?_, fun h => ?_⟩⟩
  · have h1 := (ht' x).1
    have h2 := (ht' y).1
    rw [e] at h1
    exact ht _ _ _ h1 (hs _ _ h2)
  · have h1 := (ht' x).2 (t y) (ht _ _ _ h (ht' y).1)
    have h2 := (ht' y).2 (t x) (ht _ _ _ (hs _ _ h) (ht' x).1)
    omega
/-- What two congruences bring together. -/
theorem join_ex {q : Nat} {m j : Nat → Nat → Nat} (hm : Inn q m) (hj : Inn q j) {a b : Nat → Nat} (ha : Con q m j a) (hb : Con q m j b) :
    ∃ t, Con q m j t ∧ Ker q a t ∧ Ker q b t ∧ ∀ e : Nat → Nat, Ker q a e → Ker q b e → Ker q t e := by
  obtain ⟨t, ht⟩ := classes_of (fun x y => x = y ∨ (x < q ∧ y < q ∧ ∀ e : Nat → Nat, Ker q a e → Ker q b e → e x = e y)) (fun x => .inl rfl)
    (fun x y h => h.elim (fun e => .inl e.symm) (fun ⟨h1, h2, h3⟩ => .inr ⟨h2, h1, fun e k1 k2 => (h3 e k1 k2).symm⟩))
    (fun x y z h h' => by
      rcases h with rfl | ⟨h1, h2, h3⟩
      · exact h'
      · rcases h' with rfl | ⟨h4, h5, h6⟩
        · exact .inr ⟨h1, h2, h3⟩
        · exact .inr ⟨h1, h5, fun e k1 k2 => (h3 e k1 k2).trans (h6 e k1 k2)⟩)
  refine ⟨t, fun x y z hx hy hz e => ?_, fun x y hx hy e => (ht x y).2 (.inr ⟨hx, hy, fun e' k1 _ => k1 x y hx hy e⟩), fun x y hx hy e => (ht x y).2 (.inr ⟨hx, hy, fun e' _ k2 => k2 x y hx hy e⟩), fun e k1 k2 x y hx hy h => ?_⟩
  · have h0 : ∀ e : Nat → Nat, Ker q a e → Ker q b e → e x = e y := by
      rcases (ht x y).1 e with rfl | ⟨_, _, h⟩
      · exact fun _ _ _ => rfl
      · exact h
    refine ⟨(ht _ _).2 (.inr ⟨hm x z hx hz, hm y z hy hz, fun e' k1 k2 => ?_⟩), (ht _ _).2 (.inr ⟨hj x z hx hz, hj y z hy hz, fun e' k1 k2 => ?_⟩)⟩
    · exact h0 (fun u => e' (m u z)) (fun u v hu hv h => k1 _ _ (hm u z hu hz) (hm v z hv hz) (ha u v z hu hv hz h).1) (fun u v hu hv h => k2 _ _ (hm u z hu hz) (hm v z hv hz) (hb u v z hu hv hz h).1)
    · exact h0 (fun u => e' (j u z)) (fun u v hu hv h => k1 _ _ (hj u z hu hz) (hj v z hv hz) (ha u v z hu hv hz h).2) (fun u v hu hv h => k2 _ _ (hj u z hu hz) (hj v z hv hz) (hb u v z hu hv hz h).2)
  · rcases (ht x y).1 h with rfl | ⟨_, _, h'⟩
    · rfl
    · exact h' e k1 k2
/-- What two congruences have in common. -/
theorem meet_ex {q : Nat} {m j : Nat → Nat → Nat} {a b : Nat → Nat} (ha : Con q m j a) (hb : Con q m j b) : ∃ t, Con q m j t ∧ ∀ x y, t x = t y ↔ a x = a y ∧ b x = b y := by
  obtain ⟨t, ht⟩ := classes_of (fun x y => a x = a y ∧ b x = b y) (fun x => ⟨rfl, rfl⟩) (fun x y h => ⟨h.1.symm, h.2.symm⟩) (fun x y z h h' => ⟨h.1.trans h'.1, h.2.trans h'.2⟩)
  refine ⟨t, fun x y z hx hy hz e => ?_, ht⟩
  have h := (ht x y).1 e
  have h1 := ha x y z hx hy hz h.1
  have h2 := hb x y z hx hy hz h.2
  exact ⟨(ht _ _).2 ⟨h1.1, h2.1⟩, (ht _ _).2 ⟨h1.2, h2.2⟩⟩
/-- The middle one of three. -/
def med (m j : Nat → Nat → Nat) (x u y : Nat) : Nat := j (j (m x u) (m u y)) (m y x)
theorem Con.two {q : Nat} {m j : Nat → Nat → Nat} {c : Nat → Nat} (hL : Lat q m j) (h : Con q m j c) {x x' y y' : Nat} (hx : x < q) (hx' : x' < q) (hy : y < q) (hy' : y' < q) (e : c x = c x') (e' : c y = c y') : c (m x y) = c (m x' y') ∧ c (j x y) = c (j x' y') := by
  have cm : ∀ x y, x < q → y < q → m x y = m y x := fun x y hx hy => (hL.lm.at hx hy hx).2.1
  have cj : ∀ x y, x < q → y < q → j x y = j y x := fun x y hx hy => (hL.lj.at hx hy hx).2.1
  have h1 := h x x' y hx hx' hy e
  have h2 := h y y' x' hy hy' hx' e'
  refine ⟨?_, ?_⟩
  · rw [h1.1, cm x' y hx' hy, h2.1, cm y' x' hy' hx']
  · rw [h1.2, cj x' y hx' hy, h2.2, cj y' x' hy' hx']
theorem med_in {q : Nat} {m j : Nat → Nat → Nat} (hL : Lat q m j) {x u y : Nat} (hx : x < q) (hu : u < q) (hy : y < q) : med m j x u y < q :=
  hL.ij _ _ (hL.ij _ _ (hL.im _ _ hx hu) (hL.im _ _ hu hy)) (hL.im _ _ hy hx)
theorem med_con {q : Nat} {m j : Nat → Nat → Nat} {c : Nat → Nat} (hL : Lat q m j) (h : Con q m j c) {x x' u u' y y' : Nat} (hx : x < q) (hx' : x' < q) (hu : u < q) (hu' : u' < q) (hy : y < q) (hy' : y' < q) (e1 : c x = c x') (e2 : c u = c u') (e3 : c y = c y') : c (med m j x u y) = c (med m j x' u' y') := by
  have a1 := (h.two hL hx hx' hu hu' e1 e2).1
  have a2 := (h.two hL hu hu' hy hy' e2 e3).1
  have a3 := (h.two hL hy hy' hx hx' e3 e1).1
  have i1 := hL.im x u hx hu
  have i1' := hL.im x' u' hx' hu'
  have i2 := hL.im u y hu hy
  have i2' := hL.im u' y' hu' hy'
  have b1 := (h.two hL i1 i1' i2 i2' a1 a2).2
  exact (h.two hL (hL.ij _ _ i1 i2) (hL.ij _ _ i1' i2') (hL.im _ _ hy hx) (hL.im _ _ hy' hx') b1 a3).2
/-- x, u, x: x; and x, x, y: x. -/
theorem med_self {q : Nat} {m j : Nat → Nat → Nat} (hL : Lat q m j) {x u : Nat} (hx : x < q) (hu : u < q) : med m j x u x = x ∧ med m j x x u = x ∧ med m j u x x = x := by
  obtain ⟨mi, mc, _, ma⟩ := hL.lm.at hx hu hx
  obtain ⟨ji, jc, _, ja⟩ := hL.lj.at hx hu hx
  have i1 := hL.im x u hx hu
  have j1 : j (m x u) x = x := by
    have h := (hL.lj.at (x := m x u) (y := x) (z := x) i1 hx hx).2.1
    rw [h, ja]
  have j2 : j x (m x u) = x := ja
  have j3 : j (m x u) (m x u) = m x u := (hL.lj.at i1 i1 i1).1
  refine ⟨?_, ?_, ?_⟩
  · show j (j (m x u) (m u x)) (m x x) = x
    rw [← mc, j3, mi, j1]
  · show j (j (m x x) (m x u)) (m u x) = x
    rw [mi, j2, ← mc, j2]
  · show j (j (m u x) (m x x)) (m x u) = x
    rw [mi, ← mc, j1, j2]
/-- FUNAYAMA, NAKAYAMA. -/
theorem funayama {q : Nat} {m j : Nat → Nat → Nat} (hL : Lat q m j) {a b c d t : Nat → Nat} (ha : Con q m j a) (hb : Con q m j b) (hc : Con q m j c)
    (ht : ∀ e : Nat → Nat, Ker q b e → Ker q c e → Ker q t e) (h1 : ∀ x y, x < q → y < q → a x = a y → b x = b y → d x = d y) (h2 : ∀ x y, x < q → y < q → a x = a y → c x = c y → d x = d y) : ∀ x y, x < q → y < q → a x = a y → t x = t y → d x = d y := fun x y hx hy eA eT => by
  have atx : ∀ u, u < q → a (med m j x u y) = a x := fun u hu => by
    have := med_con hL ha hx hx hu hu hy hx rfl rfl eA.symm
    rw [this, (med_self hL hx hu).1]
  have k : ∀ {s : Nat → Nat}, Con q m j s → (∀ x y, x < q → y < q → a x = a y → s x = s y → d x = d y) → Ker q s (fun u => d (med m j x u y)) := fun {s} hs h u v hu hv e =>
    h _ _ (med_in hL hx hu hy) (med_in hL hx hv hy) ((atx u hu).trans (atx v hv).symm) (med_con hL hs hx hx hu hv hy hy rfl e rfl)
  have hk := ht (fun u => d (med m j x u y)) (k hb h1) (k hc h2) x y hx hy eT
  simp only at hk
  rw [(med_self hL hx hy).2.1] at hk
  have h3 : med m j x y y = y := (med_self hL hy hx).2.2
  rw [h3] at hk
  exact hk
/-- All congruences, apart. -/
structure Cgs (q : Nat) (m j : Nat → Nat → Nat) (n : Nat) (G : Nat → Nat → Nat) : Prop where
  cg : ∀ a, a < n → Cg q m j (G a)
  df : ∀ a b, a < b → b < n → ¬ ∀ i, i < q → G a i = G b i
  all : ∀ d, Con q m j d → ∃ a, a < n ∧ ∀ i, i < q → G a i = nbr d i
theorem Cgs.con {q : Nat} {m j : Nat → Nat → Nat} {n : Nat} {G : Nat → Nat → Nat} (h : Cgs q m j n G) {a : Nat} (ha : a < n) (hm : Inn q m) (hj : Inn q j) : Con q m j (G a) := by
  obtain ⟨c, hc, e⟩ := h.cg a ha
  intro x y z hx hy hz e'
  rw [e x hx, e y hy] at e'
  have := hc x y z hx hy hz (nbr_ker.1 e')
  rw [e _ (hm x z hx hz), e _ (hm y z hy hz), e _ (hj x z hx hz), e _ (hj y z hy hz)]
  exact ⟨nbr_ker.2 this.1, nbr_ker.2 this.2⟩
theorem Cgs.anti {q : Nat} {m j : Nat → Nat → Nat} {n : Nat} {G : Nat → Nat → Nat} (h : Cgs q m j n G) {a b : Nat} (ha : a < n) (hb : b < n) (h1 : Ker q (G a) (G b)) (h2 : Ker q (G b) (G a)) : a = b := by
  obtain ⟨c, hc, e⟩ := h.cg a ha
  obtain ⟨d, hd, e'⟩ := h.cg b hb
  have same : ∀ i, i < q → G a i = G b i := fun i hi => by
    rw [e i hi, e' i hi]
    refine nbr_same (q := q) (fun s t hs ht e2 => ?_) (fun s t hs ht e2 => ?_) i hi
    · have := h1 s t hs ht (by rw [e s hs, e t ht]; exact nbr_ker.2 e2)
      rw [e' s hs, e' t ht] at this
      exact nbr_ker.1 this
    · have := h2 s t hs ht (by rw [e' s hs, e' t ht]; exact nbr_ker.2 e2)
      rw [e s hs, e t ht] at this
      exact nbr_ker.1 this
  rcases Nat.lt_trichotomy a b with hl | hl | hl
  · exact absurd same (h.df a b hl hb)
  · exact hl
  · exact absurd (fun i hi => (same i hi).symm) (h.df b a hl ha)
theorem Cgs.at {q : Nat} {m j : Nat → Nat → Nat} {n : Nat} {G : Nat → Nat → Nat} (h : Cgs q m j n G) {d : Nat → Nat} (hd : Con q m j d) : ∃ a, a < n ∧ Ker q (G a) d ∧ Ker q d (G a) := by
  obtain ⟨a, ha, e⟩ := h.all d hd
  exact ⟨a, ha, fun x y hx hy e' => by rw [e x hx, e y hy] at e'; exact nbr_ker.1 e', fun x y hx hy e' => by rw [e x hx, e y hy]; exact nbr_ker.2 e'⟩
/-- The last one that is so is so. -/
theorem lst_so {I : Nat → Bool} : ∀ k, (∃ z, z < k ∧ I z = true) → ∃ z, z < k ∧ lst I k = (z : Int) ∧ I z = true
  | 0, h => by obtain ⟨z, hz, _⟩ := h; omega
  | k + 1, h => by
    by_cases hk : I k = true
    · exact ⟨k, by omega, lst_yes hk, hk⟩
    · have hf : I k = false := by simpa using hk
      obtain ⟨z, hz, hI⟩ := h
      obtain ⟨z', hz', e, hI'⟩ := lst_so (I := I) k ⟨z, by
        rcases Nat.lt_or_ge z k with h1 | h1
        · exact h1
        · obtain rfl : z = k := by omega
          exact absurd hI hk, hI⟩
      exact ⟨z', by omega, by rw [lst_no hf]; exact e, hI'⟩
/-- What lies below two, and is the greatest such. -/
theorem Cgs.low {q : Nat} {m j : Nat → Nat → Nat} {n : Nat} {G : Nat → Nat → Nat} {P : Nat → Nat → Bool} (h : Cgs q m j n G) (hm : Inn q m) (hj : Inn q j) (hP : ∀ x y, P x y = true ↔ Ker q (G x) (G y)) {x y : Nat} (hx : x < n) (hy : y < n) : ∃ z, z < n ∧ loB P x y z n = true := by
  obtain ⟨t, ht, ht2⟩ := meet_ex (h.con hx hm hj) (h.con hy hm hj)
  obtain ⟨z, hz, k1, k2⟩ := h.at ht
  refine ⟨z, hz, (loB_iff n).2 ⟨⟨(hP _ _).2 ?_, (hP _ _).2 ?_⟩, fun w hw h1 h2 => (hP _ _).2 ?_⟩⟩
  · exact fun u v hu hv e => ((ht2 u v).1 (k1 u v hu hv e)).1
  · exact fun u v hu hv e => ((ht2 u v).1 (k1 u v hu hv e)).2
  · exact fun u v hu hv e => k2 u v hu hv ((ht2 u v).2 ⟨(hP _ _).1 h1 u v hu hv e, (hP _ _).1 h2 u v hu hv e⟩)
theorem Cgs.high {q : Nat} {m j : Nat → Nat → Nat} {n : Nat} {G : Nat → Nat → Nat} {P : Nat → Nat → Bool} (h : Cgs q m j n G) (hm : Inn q m) (hj : Inn q j) (hP : ∀ x y, P x y = true ↔ Ker q (G x) (G y)) {x y : Nat} (hx : x < n) (hy : y < n) : ∃ z, z < n ∧ hgB P x y z n = true := by
  obtain ⟨t, ht, ka, kb, kt⟩ := join_ex hm hj (h.con hx hm hj) (h.con hy hm hj)
  obtain ⟨z, hz, k1, k2⟩ := h.at ht
  refine ⟨z, hz, ?_⟩
  rw [hgB_is]
  refine (loB_iff n).2 ⟨⟨(hP _ _).2 (ker_trans ka k2), (hP _ _).2 (ker_trans kb k2)⟩, fun w hw h1 h2 => (hP _ _).2 (ker_trans k1 (kt (G w) ((hP _ _).1 h1) ((hP _ _).1 h2)))⟩
/-- Tables of the greatest below two, and of the least above. -/
structure Glb (n : Nat) (P : Nat → Nat → Bool) (M : Nat → Nat → Nat) : Prop where
  inn : ∀ x y, x < n → y < n → M x y < n
  l : ∀ x y, x < n → y < n → P (M x y) x = true
  r : ∀ x y, x < n → y < n → P (M x y) y = true
  g : ∀ x y w, x < n → y < n → w < n → P w x = true → P w y = true → P w (M x y) = true
theorem lws_glb {n : Nat} {P : Nat → Nat → Bool} {M J : Nat → Nat → Nat} (rf : ∀ x, x < n → P x x = true) (tr : ∀ x y z, x < n → y < n → z < n → P x y = true → P y z = true → P x z = true) (an : ∀ x y, x < n → y < n → P x y = true → P y x = true → x = y) (hM : Glb n P M) (hJ : Glb n (fun a b => P b a) J) : Lws n M J := by
  refine lws_iff.2 fun x y z hx hy hz => ⟨?_, ?_, ?_, ?_⟩
  · exact an _ _ (hM.inn x x hx hx) hx (hM.l x x hx hx) (hM.g x x x hx hx hx (rf x hx) (rf x hx))
  · exact an _ _ (hM.inn x y hx hy) (hM.inn y x hy hx) (hM.g y x _ hy hx (hM.inn x y hx hy) (hM.r x y hx hy) (hM.l x y hx hy)) (hM.g x y _ hx hy (hM.inn y x hy hx) (hM.r y x hy hx) (hM.l y x hy hx))
  · have iyz := hM.inn y z hy hz
    have ixy := hM.inn x y hx hy
    have i1 := hM.inn x _ hx iyz
    have i2 := hM.inn _ z ixy hz
    refine an _ _ i1 i2 ?_ ?_
    · have a1 := hM.l x _ hx iyz
      have a2 := hM.r x _ hx iyz
      have a3 := tr _ _ _ i1 iyz hy a2 (hM.l y z hy hz)
      have a4 := tr _ _ _ i1 iyz hz a2 (hM.r y z hy hz)
      exact hM.g _ z _ ixy hz i1 (hM.g x y _ hx hy i1 a1 a3) a4
    · have a1 := hM.l _ z ixy hz
      have a2 := hM.r _ z ixy hz
      have a3 := tr _ _ _ i2 ixy hx a1 (hM.l x y hx hy)
      have a4 := tr _ _ _ i2 ixy hy a1 (hM.r x y hx hy)
      exact hM.g x _ _ hx iyz i2 a3 (hM.g y z _ hy hz i2 a4 a2)
  · have ij := hJ.inn x y hx hy
    exact an _ _ (hM.inn x _ hx ij) hx (hM.l x _ hx ij) (hM.g x _ x hx ij hx (rf x hx) (hJ.l x y hx hy))
theorem lat_glb {n : Nat} {P : Nat → Nat → Bool} {M J : Nat → Nat → Nat} (rf : ∀ x, x < n → P x x = true) (tr : ∀ x y z, x < n → y < n → z < n → P x y = true → P y z = true → P x z = true) (an : ∀ x y, x < n → y < n → P x y = true → P y x = true → x = y) (hM : Glb n P M) (hJ : Glb n (fun a b => P b a) J) : Lat n M J :=
  ⟨hM.inn, hJ.inn, lws_glb rf tr an hM hJ, lws_glb (P := fun a b => P b a) rf (fun x y z hx hy hz h1 h2 => tr z y x hz hy hx h2 h1) (fun x y hx hy h1 h2 => an x y hx hy h2 h1) hJ hM⟩
/-- The lattice of congruences is one, and distributive. -/
theorem Cgs.lat {q : Nat} {m j : Nat → Nat → Nat} {n : Nat} {G : Nat → Nat → Nat} {P : Nat → Nat → Bool} {M J : Nat → Nat → Nat} (h : Cgs q m j n G) (hP : ∀ x y, P x y = true ↔ Ker q (G x) (G y)) (hM : Glb n P M) (hJ : Glb n (fun a b => P b a) J) : Lat n M J :=
  lat_glb (fun _ _ => (hP _ _).2 (ker_refl _ _)) (fun _ _ _ _ _ _ h1 h2 => (hP _ _).2 (ker_trans ((hP _ _).1 h1) ((hP _ _).1 h2))) (fun _ _ hx hy h1 h2 => h.anti hx hy ((hP _ _).1 h1) ((hP _ _).1 h2)) hM hJ
theorem Cgs.dis {q : Nat} {m j : Nat → Nat → Nat} {n : Nat} {G : Nat → Nat → Nat} {P : Nat → Nat → Bool} {M J : Nat → Nat → Nat} (hL : Lat q m j) (h : Cgs q m j n G) (hP : ∀ x y, P x y = true ↔ Ker q (G x) (G y)) (hM : Glb n P M) (hJ : Glb n (fun a b => P b a) J) {x y z : Nat} (hx : x < n) (hy : y < n) (hz : z < n) : M x (J y z) = J (M x y) (M x z) := by
  have iy := hJ.inn y z hy hz
  have ia := hM.inn x y hx hy
  have ib := hM.inn x z hx hz
  have i1 := hM.inn x _ hx iy
  have i2 := hJ.inn _ _ ia ib
  have K : ∀ {u v : Nat}, P u v = true → Ker q (G u) (G v) := fun e => (hP _ _).1 e
  refine h.anti i1 i2 ?_ ?_
  · -- the greatest below x and the join of y and z: what x has of t, the least above y and z
    obtain ⟨t, ht, ka, kb, kt⟩ := join_ex hL.im hL.ij (h.con hy hL.im hL.ij) (h.con hz hL.im hL.ij)
    obtain ⟨u, hu, k1, k2⟩ := h.at ht
    have jt : Ker q (G (J y z)) t := ker_trans (K (hJ.g y z u hy hz hu ((hP _ _).2 (ker_trans ka k2)) ((hP _ _).2 (ker_trans kb k2)))) k1
    have mA : ∀ {s : Nat}, s < n → ∀ u v, u < q → v < q → G x u = G x v → G s u = G s v → G (M x s) u = G (M x s) v := fun {s} hs u v hu hv e1 e2 => by
      obtain ⟨c, hc, hc2⟩ := meet_ex (h.con hx hL.im hL.ij) (h.con hs hL.im hL.ij)
      obtain ⟨w, hw, l1, l2⟩ := h.at hc
      have : Ker q (G w) (G (M x s)) := K (hM.g x s w hx hs hw ((hP _ _).2 fun a b ha hb e => ((hc2 a b).1 (l1 a b ha hb e)).1) ((hP _ _).2 fun a b ha hb e => ((hc2 a b).1 (l1 a b ha hb e)).2))
      exact this u v hu hv (l2 u v hu hv ((hc2 u v).2 ⟨e1, e2⟩))
    have fu := funayama hL (t := t) (h.con hx hL.im hL.ij) (h.con hy hL.im hL.ij) (h.con hz hL.im hL.ij) kt (fun u v hu hv e1 e2 => K (hJ.l _ _ ia ib) u v hu hv (mA hy u v hu hv e1 e2)) (fun u v hu hv e1 e2 => K (hJ.r _ _ ia ib) u v hu hv (mA hz u v hu hv e1 e2))
    exact fun u v hu hv e => fu u v hu hv (K (hM.l x _ hx iy) u v hu hv e) (jt u v hu hv (K (hM.r x _ hx iy) u v hu hv e))
  · refine K (hJ.g _ _ _ ia ib i1 ?_ ?_)
    · exact hM.g x _ _ hx iy ia (hM.l x y hx hy) ((hP _ _).2 (ker_trans (K (hM.r x y hx hy)) (K (hJ.l y z hy hz))))
    · exact hM.g x _ _ hx iy ib (hM.l x z hx hz) ((hP _ _).2 (ker_trans (K (hM.r x z hx hz)) (K (hJ.r y z hy hz))))
/-- What is simple and distributive has two elements. -/
theorem simple_two {q : Nat} {m j : Nat → Nat → Nat} {H : Nat → Nat → Nat} (hL : Lat q m j) (hD : ∀ x y z, x < q → y < q → z < q → m x (j y z) = j (m x y) (m x z)) (ho : OP q m j q 0 1 H) : q = 2 := by
  obtain ⟨x0, y0, hyx0, hxq0, _⟩ := ho.come 0 (by omega)
  have cm : ∀ x y, x < q → y < q → m x y = m y x := fun x y hx hy => (hL.lm.at hx hy hx).2.1
  have cj : ∀ x y, x < q → y < q → j x y = j y x := fun x y hx hy => (hL.lj.at hx hy hx).2.1
  have one : ∀ d : Nat → Nat, Con q m j d → (∃ x y, y < x ∧ x < q ∧ d x = d y) → ∀ s t, s < q → t < q → d s = d t := fun d hd hx => by
    obtain ⟨x, y, hyx, hxq, e⟩ := hx
    obtain ⟨b, hb, c1, hlc, e1⟩ := ho.all x y hyx hxq (.inl hxq)
    obtain rfl : b = 0 := by omega
    have kc : Ker q c1 d := hlc.2.2 d hd (fun p hp => by obtain rfl := List.mem_singleton.1 hp; exact e)
    have all0 : ∀ s, s < q → d s = d 0 := fun s hs => by
      rcases Nat.eq_zero_or_pos s with h0 | h0
      · rw [h0]
      · obtain ⟨b, hb, c2, hlc2, e2⟩ := ho.all s 0 h0 hs (.inl hs)
        obtain rfl : b = 0 := by omega
        have h3 : nbr c2 s = nbr c2 0 := nbr_ker.2 (hlc2.2.1 (s, 0) (by simp))
        have h6 : nbr c1 s = nbr c1 0 := by rw [← e1 s hs, ← e1 0 (by omega), e2 s hs, e2 0 (by omega), h3]
        exact kc s 0 hs (by omega) (nbr_ker.1 h6)
    exact fun s t hs ht => (all0 s hs).trans (all0 t ht).symm
  have conP : ∀ p, p < q → Con q m j (fun u => m p u) := fun p hp u v z hu hv hz e => by
    have e' : m p u = m p v := e
    refine ⟨?_, ?_⟩
    · show m p (m u z) = m p (m v z)
      rw [(hL.lm.at hp hu hz).2.2.1, (hL.lm.at hp hv hz).2.2.1, e']
    · show m p (j u z) = m p (j v z)
      rw [hD p u z hp hu hz, hD p v z hp hv hz, e']
  -- each element is above all, or below all
  have two : ∀ p, p < q → (∀ z, z < q → j p z = p) ∨ (∀ z, z < q → m p z = p) := fun p hp => by
    by_cases ht : ∀ z, z < q → j p z = p
    · exact .inl ht
    · right
      have : ∃ z, z < q ∧ j p z ≠ p := Classical.byContradiction fun hn => ht fun z hz => Classical.byContradiction fun hne => hn ⟨z, hz, hne⟩
      obtain ⟨z, hz, hne⟩ := this
      have ij := hL.ij p z hp hz
      have e : m p (j p z) = m p p := by rw [(hL.lm.at hp hz hz).2.2.2, (hL.lm.at hp hp hp).1]
      have hpair : ∃ x y, y < x ∧ x < q ∧ (fun u => m p u) x = (fun u => m p u) y := by
        rcases Nat.lt_or_gt_of_ne hne with hl | hl
        · exact ⟨p, j p z, hl, hp, e.symm⟩
        · exact ⟨j p z, p, hl, ij, e⟩
      intro u hu
      have := one _ (conP p hp) hpair u p hu hp
      have h2 : m p u = m p p := this
      rw [h2, (hL.lm.at hp hp hp).1]
  have oneT : ∀ p p', p < q → p' < q → (∀ z, z < q → j p z = p) → (∀ z, z < q → j p' z = p') → p = p' := fun p p' hp hp' h h' => by rw [← h p' hp', cj p p' hp hp', h' p hp]
  have oneB : ∀ p p', p < q → p' < q → (∀ z, z < q → m p z = p) → (∀ z, z < q → m p' z = p') → p = p' := fun p p' hp hp' h h' => by rw [← h p' hp', cm p p' hp hp', h' p hp]
  rcases Nat.lt_or_ge 2 q with h3 | h3
  · exfalso
    rcases two 0 (by omega) with a0 | a0 <;> rcases two 1 (by omega) with a1 | a1 <;> rcases two 2 (by omega) with a2 | a2
    · exact absurd (oneT 0 1 (by omega) (by omega) a0 a1) (by omega)
    · exact absurd (oneT 0 1 (by omega) (by omega) a0 a1) (by omega)
    · exact absurd (oneT 0 2 (by omega) (by omega) a0 a2) (by omega)
    · exact absurd (oneB 1 2 (by omega) (by omega) a1 a2) (by omega)
    · exact absurd (oneT 1 2 (by omega) (by omega) a1 a2) (by omega)
    · exact absurd (oneB 0 2 (by omega) (by omega) a0 a2) (by omega)
    · exact absurd (oneB 0 1 (by omega) (by omega) a0 a1) (by omega)
    · exact absurd (oneB 0 1 (by omega) (by omega) a0 a1) (by omega)
  · omega
end Go.Proofs.Ytappekjkcgmheab
