/-
  How a set falls into pieces, in both ways, and what that says of the term. Plain facts: no Go text here. Conditions: an order of ten points at most.
-/
import Derived.Test.YtglkjeidkjkdaaaDoorPieP
import Derived.Test.YtglkjeidkjkdaaaDoorLkP
import Derived.Test.YtglkjeidkjkdaaaDoorFourM
import Derived.Test.YtglkjeidkjkdaaaDoorFFour
import Derived.Test.YtglkjeidkjkdaaaDoorSrtF
namespace Go.Proofs.YtglkjeidkjkdaaaDoor

def okl (c : Nat) : Bool := (List.range 10).all fun j => !(c.testBit j) || decide (lo c ≤ j)
theorem okl_all : ((List.range 1024).all okl) = true := by decide +kernel
theorem lo_min {S x : Nat} (hS : S < 1024) (hx : S.testBit x = true) : lo S ≤ x := by
  have hx10 : x < 10 := bit_of_lt (n := 10) hS hx
  have h := List.all_eq_true.1 (List.all_eq_true.1 okl_all S (List.mem_range.2 hS)) x (List.mem_range.2 hx10)
  simpa [hx] using h
theorem pcn_mono {s t : Nat} (h : Sub s t) : ∀ k, pcn s k ≤ pcn t k
  | 0 => Nat.le_refl _
  | k + 1 => by
    have ih := pcn_mono h k
    unfold pcn
    cases e : s.testBit k
    · cases e2 : t.testBit k
      · simpa using ih
      · simp; omega
    · rw [h k e]; simpa using ih
theorem pcn_strict {s t x : Nat} (h : Sub s t) (hx : t.testBit x = true) (hn : s.testBit x = false) : ∀ k, x < k → pcn s k < pcn t k
  | 0, hk => absurd hk (Nat.not_lt_zero _)
  | k + 1, hk => by
    by_cases e : x = k
    · subst e
      have := pcn_mono h x
      unfold pcn
      rw [hx, hn]; simp; omega
    · have ih := pcn_strict h hx hn k (by omega)
      unfold pcn
      cases e : s.testBit k
      · cases e2 : t.testBit k
        · simpa using ih
        · simp; omega
      · rw [h k e]; simpa using ih
theorem pc_strict {s t x : Nat} (h : Sub s t) (ht : t < 1024) (hx : t.testBit x = true) (hn : s.testBit x = false) : pc s < pc t := pcn_strict h hx hn 10 (bit_of_lt (n := 10) ht hx)
theorem pcn_pos {s x : Nat} (hx : s.testBit x = true) : ∀ k, x < k → 0 < pcn s k
  | 0, hk => absurd hk (Nat.not_lt_zero _)
  | k + 1, hk => by
    by_cases e : x = k
    · subst e; unfold pcn; rw [hx]; simp
    · have ih := pcn_pos hx k (by omega)
      unfold pcn; split <;> omega
/-- Connected within itself. -/
def Cnn (h : Nat → Nat) (S : Nat) : Prop := ∀ x, S.testBit x = true → Cn h S (lo S) x
theorem lack_b {S P : Nat} (hS : S < 1024) (hP : P < 1024) (i : Nat) : (lack S P).testBit i = true ↔ S.testBit i = true ∧ P.testBit i = false := by
  rw [lack_bit S P i (by omega) (by omega)]; simp
/-- What the list of pieces says. -/
structure PcF (h : Nat → Nat) (L : List Nat) (S : Nat) : Prop where
  un : ∀ x, S.testBit x = true ↔ ∃ i, i < L.length ∧ (nth L i).testBit x = true
  ap : ∀ i j, i < j → j < L.length → ∀ a b, (nth L i).testBit a = true → (nth L j).testBit b = true → a ≠ b ∧ (h a).testBit b = false
  lt : ∀ i, i < L.length → nth L i < 1024 ∧ nth L i ≠ 0
  ri : ∀ i j, i < j → j < L.length → lo (nth L i) < lo (nth L j)
  co : ∀ i, i < L.length → Cnn h (nth L i)
theorem PcL.facts {h : Nat → Nat} {n : Nat} (hn : n ≤ 10) : ∀ {L : List Nat} {S : Nat}, S < pw n → PcL h L S 0 → PcF h L S
  | [], S, _, e => by
    have e : S = 0 := e
    subst e
    refine ⟨fun x => ?_, fun i j _ hj => absurd hj (Nat.not_lt_zero _), fun i hi => absurd hi (Nat.not_lt_zero _), fun i j _ hj => absurd hj (Nat.not_lt_zero _), fun i hi => absurd hi (Nat.not_lt_zero _)⟩
    simp
  | P :: L, S, hS, ⟨h0, hP, hL⟩ => by
    have hpl := pw_le n hn
    have hS1 : S < 1024 := by omega
    have hlb := lo_bit hS1 h0
    have hlo : lo S < n := bit_of_lt hS hlb
    have hPl : P < pw n := hP.lt hS hlo
    have hbit := fun i => hP.bit hn hS hlo i
    have hself : P.testBit (lo S) = true := hP.self hn hS hlo
    have hsub : ∀ x, P.testBit x = true → S.testBit x = true := fun x hx => (hbit x).1 hx (fun y => S.testBit y = true) hlb fun _ _ _ _ k => k
    have hlk := lack_b (S := S) (P := P) hS1 (by omega)
    have hle := lack_le S P
    have ih := PcL.facts hn (L := L) (S := lack S P) (by omega) hL
    have hP0 : P ≠ 0 := fun e => by subst e; simp at hself
    have eP : lo P = lo S := by
      have h1 := lo_min (S := P) (by omega) hself
      have h2 := lo_min hS1 (hsub _ (lo_bit (S := P) (by omega) hP0))
      omega
    have n0 : nth (P :: L) 0 = P := rfl
    have nS : ∀ i, nth (P :: L) (i + 1) = nth L i := fun i => rfl
    refine ⟨fun x => ?_, fun i j hij hj a b ha hb => ?_, fun i hi => ?_, fun i j hij hj => ?_, fun i hi => ?_⟩
    · constructor
      · intro hx
        cases e : P.testBit x
        · obtain ⟨i, h1, h2⟩ := (ih.un x).1 ((hlk x).2 ⟨hx, e⟩)
          exact ⟨i + 1, by simp; omega, h2⟩
        · exact ⟨0, by simp, e⟩
      · rintro ⟨i, hi, hx⟩
        cases i with
        | zero => exact hsub x hx
        | succ i => exact ((hlk x).1 ((ih.un x).2 ⟨i, by simpa using hi, hx⟩)).1
    · obtain ⟨j, rfl⟩ : ∃ m, j = m + 1 := ⟨j - 1, by omega⟩
      have hj' : j < L.length := by simpa using hj
      cases i with
      | zero =>
        have hb' := (hlk b).1 ((ih.un b).2 ⟨j, hj', hb⟩)
        refine ⟨fun e => ?_, ?_⟩
        · subst e; rw [n0, hb'.2] at ha; cases ha
        · cases e : (h a).testBit b
          · rfl
          · have := (hbit b).2 (((hbit a).1 ha).next e hb'.1)
            rw [hb'.2] at this; cases this
      | succ i => exact ih.ap i j (by omega) hj' a b ha hb
    · cases i with
      | zero => exact ⟨by rw [n0]; omega, hP0⟩
      | succ i => exact ih.lt i (by simpa using hi)
    · obtain ⟨j, rfl⟩ : ∃ m, j = m + 1 := ⟨j - 1, by omega⟩
      have hj' : j < L.length := by simpa using hj
      cases i with
      | zero =>
        have hb := lo_bit (ih.lt j hj').1 (ih.lt j hj').2
        have hm := (hlk _).1 ((ih.un _).2 ⟨j, hj', hb⟩)
        rw [n0, nS, eP]
        have h1 := lo_min hS1 hm.1
        rcases Nat.lt_or_eq_of_le h1 with h2 | h2
        · exact h2
        · rw [← h2, hself] at hm; cases hm.2
      | succ i => exact ih.ri i j (by omega) hj'
    · cases i with
      | zero =>
        intro x hx
        rw [n0] at hx ⊢
        rw [eP]
        exact ((hbit x).1 hx (fun y => P.testBit y = true ∧ Cn h P (lo S) y) ⟨hself, Cn.self _ _ _⟩ fun y z k h1 h2 => by
          have hz := (hbit z).2 (((hbit y).1 k.1).next h1 h2)
          exact ⟨hz, k.2.next h1 hz⟩).2
      | succ i => exact ih.co i (by simpa using hi)
theorem PcF.len {h : Nat → Nat} {L : List Nat} {S : Nat} (f : PcF h L S) : L.length ≤ 10 := by
  have key : ∀ i, i < L.length → i ≤ lo (nth L i) := fun i => by
    induction i with
    | zero => intro _; exact Nat.zero_le _
    | succ i ih => intro hi; have := ih (by omega); have := f.ri i (i + 1) (by omega) hi; omega
  rcases Nat.lt_or_ge 10 L.length with h1 | h1
  · have h2 := key 10 h1
    have h3 := bit_of_lt (n := 10) (f.lt 10 h1).1 (lo_bit (f.lt 10 h1).1 (f.lt 10 h1).2)
    omega
  · exact h1
theorem PcF.one {h : Nat → Nat} {P S : Nat} (f : PcF h [P] S) (_ : S < 1024) : S = P ∧ Cnn h S := by
  have e : S = P := by
    apply Nat.eq_of_testBit_eq
    intro x
    rw [Bool.eq_iff_iff, f.un x]
    constructor
    · rintro ⟨i, hi, hx⟩
      obtain rfl : i = 0 := by simpa using hi
      exact hx
    · exact fun hx => ⟨0, by simp, hx⟩
  subst e
  exact ⟨rfl, f.co 0 (by simp)⟩
theorem PcF.pos {h : Nat → Nat} {L : List Nat} {S : Nat} (f : PcF h L S) (hS : S < 1024) (h0 : S ≠ 0) : 0 < L.length := by
  obtain ⟨i, hi, _⟩ := (f.un _).1 (lo_bit hS h0)
  omega
/-- A piece of several is smaller. -/
theorem PcF.less {h : Nat → Nat} {L : List Nat} {S : Nat} (f : PcF h L S) (hS : S < 1024) (h2 : 2 ≤ L.length) {i : Nat} (hi : i < L.length) : pc (nth L i) < pc S := by
  obtain ⟨j, hj, hij⟩ : ∃ j, j < L.length ∧ i ≠ j := by
    by_cases e : i = 0
    · exact ⟨1, by omega, by omega⟩
    · exact ⟨0, by omega, by omega⟩
  have hb := lo_bit (f.lt j hj).1 (f.lt j hj).2
  refine pc_strict (x := lo (nth L j)) (fun x hx => (f.un x).2 ⟨i, hi, hx⟩) hS ((f.un _).2 ⟨j, hj, hb⟩) ?_
  cases e : (nth L i).testBit (lo (nth L j))
  · rfl
  · rcases Nat.lt_or_ge i j with k | k
    · exact absurd rfl (f.ap i j k hj _ _ e hb).1
    · exact absurd rfl (f.ap j i (by omega) hi _ _ hb e).1
theorem kno_bit {g : Nat → Nat} {n : Nat} (a b : Nat) (hb : b < n) : (kno g n a).testBit b = true ↔ (g a).testBit b = true ∨ (g b).testBit a = true := by
  unfold kno
  rw [Nat.testBit_or, trn_bit]; simp [hb]
theorem strange_bit {g : Nat → Nat} {n : Nat} (hn : n ≤ 10) (hg : Sm n n g) (a b : Nat) (ha : a < n) (hb : b < n) : (lack (pw n - 1) (kno g n a)).testBit b = true ↔ (g a).testBit b = false ∧ (g b).testBit a = false := by
  have hpl := pw_le n hn
  have hpp := pw_pos n
  have hk : kno g n a < pw n := Nat.or_lt_two_pow (hg a ha) (trn_lt g n a)
  rw [lack_b (by omega) (by omega), full_bit]
  have := kno_bit (g := g) (n := n) a b hb
  cases e : (kno g n a).testBit b
  · rw [e] at this
    simp only [Bool.false_eq_true, false_iff, not_or, Bool.not_eq_true] at this
    simp [hb, this]
  · rw [e] at this
    have h1 := this.1 rfl
    simp only [Bool.true_eq_false, and_false, false_iff, not_and]
    intro h2
    rcases h1 with h1 | h1
    · rw [h2] at h1; cases h1
    · simp [h1]
/-- The relation of an order. -/
def lss (g : Nat → Nat) (a b : Nat) : Bool := (g b).testBit a
/-- No four points of S that cannot be split. -/
def NZ (g : Nat → Nat) (S : Nat) : Prop := ∀ a b c d, S.testBit a = true → S.testBit b = true → S.testBit c = true → S.testBit d = true → zigP g a b c d = true → a = b
/-- By what they know nothing goes across. -/
theorem split0 {g : Nat → Nat} {n : Nat} (_ : n ≤ 10) {L : List Nat} {S : Nat} (hS : S < pw n) (f : PcF (lkF g n 1) L S) {i j a b : Nat} (hij : i < j) (hj : j < L.length) (ha : (nth L i).testBit a = true) (hb : (nth L j).testBit b = true) : a ≠ b ∧ lss g a b = false ∧ lss g b a = false := by
  obtain ⟨h1, h2⟩ := f.ap i j hij hj a b ha hb
  have hbn : b < n := bit_of_lt hS ((f.un b).2 ⟨j, hj, hb⟩)
  have h3 : ¬ (kno g n a).testBit b = true := by
    have e : lkF g n 1 a = kno g n a := rfl
    rw [← e, h2]; simp
  rw [kno_bit a b hbn] at h3
  simp only [not_or, Bool.not_eq_true] at h3
  exact ⟨h1, h3.2, h3.1⟩
theorem split1 {g : Nat → Nat} {n : Nat} (hn : n ≤ 10) (hg : Sm n n g) (_ : Ord n g) {L : List Nat} {S : Nat} (hS : S < pw n) (f : PcF (lkF g n 2) L S) {i j a b : Nat} (hij : i ≠ j) (hi : i < L.length) (hj : j < L.length) (ha : (nth L i).testBit a = true) (hb : (nth L j).testBit b = true) : a ≠ b ∧ (lss g a b = true ∨ lss g b a = true) := by
  have han : a < n := bit_of_lt hS ((f.un a).2 ⟨i, hi, ha⟩)
  have hbn : b < n := bit_of_lt hS ((f.un b).2 ⟨j, hj, hb⟩)
  have key : ∀ {x y : Nat}, x < n → y < n → (lkF g n 2 x).testBit y = false → lss g x y = true ∨ lss g y x = true := fun {x y} hx hy k => by
    have e : lkF g n 2 x = lack (pw n - 1) (kno g n x) := rfl
    rw [e] at k
    have := strange_bit hn hg x y hx hy
    rw [k] at this
    simp only [Bool.false_eq_true, false_iff, not_and, Bool.not_eq_false] at this
    cases e : lss g y x
    · exact .inl (this e)
    · exact .inr rfl
  rcases Nat.lt_or_ge i j with k | k
  · obtain ⟨h1, h2⟩ := f.ap i j k hj a b ha hb
    exact ⟨h1, key han hbn h2⟩
  · obtain ⟨h1, h2⟩ := f.ap j i (by omega) hi b a hb ha
    exact ⟨fun e => h1 e.symm, (key hbn han h2).symm⟩
theorem lss_irr {g : Nat → Nat} {n : Nat} (_ : n ≤ 10) (_ : Sm n n g) (ho : Ord n g) {a : Nat} (ha : a < n) : lss g a a = false := (ho a ha).1
theorem lss_tr {g : Nat → Nat} {n : Nat} (hn : n ≤ 10) (hg : Sm n n g) (ho : Ord n g) {a b c : Nat} (hb : b < n) (hc : c < n) (h1 : lss g a b = true) (h2 : lss g b c = true) : lss g a c = true := ord_tr hn hg ho hb hc h1 h2
theorem lss_asym {g : Nat → Nat} {n : Nat} (hn : n ≤ 10) (hg : Sm n n g) (ho : Ord n g) {a b : Nat} (ha : a < n) (hb : b < n) (h1 : lss g a b = true) : lss g b a = false := by
  cases e : lss g b a
  · rfl
  · have h2 := lss_tr hn hg ho hb ha h1 e
    rw [lss_irr hn hg ho ha] at h2; cases h2
/-- Of two pieces by strangeness the one whose least point is below the other's is below it, whole. -/
theorem over1 {g : Nat → Nat} {n : Nat} (hn : n ≤ 10) (hg : Sm n n g) (ho : Ord n g) {L : List Nat} {S : Nat} (hS : S < pw n) (f : PcF (lkF g n 2) L S) {i j : Nat} (hij : i ≠ j) (hi : i < L.length) (hj : j < L.length) (h : lss g (lo (nth L i)) (lo (nth L j)) = true) :
    ∀ a b, (nth L i).testBit a = true → (nth L j).testBit b = true → lss g a b = true := by
  have mem : ∀ {i x}, i < L.length → (nth L i).testBit x = true → x < n := fun {i x} hi hx => bit_of_lt hS ((f.un x).2 ⟨i, hi, hx⟩)
  have st : ∀ {x y}, x < n → y < n → (lkF g n 2 x).testBit y = true → lss g x y = false ∧ lss g y x = false := fun {x y} hx hy k => by
    have e : lkF g n 2 x = lack (pw n - 1) (kno g n x) := rfl
    rw [e] at k
    have := (strange_bit hn hg x y hx hy).1 k
    exact ⟨this.2, this.1⟩
  have hq := lo_bit (f.lt j hj).1 (f.lt j hj).2
  have hp := lo_bit (f.lt i hi).1 (f.lt i hi).2
  have h1 : ∀ a, (nth L i).testBit a = true → lss g a (lo (nth L j)) = true := fun a ha =>
    (f.co i hi a ha (fun y => (nth L i).testBit y = true ∧ lss g y (lo (nth L j)) = true) ⟨hp, h⟩ fun y z k h1 h2 => by
      refine ⟨h2, ((split1 hn hg ho hS f hij hi hj h2 hq).2).resolve_right fun k2 => ?_⟩
      have := lss_tr hn hg ho (mem hj hq) (mem hi h2) k.2 k2
      rw [(st (mem hi k.1) (mem hi h2) h1).1] at this; cases this).2
  intro a b ha hb
  exact (f.co j hj b hb (fun y => (nth L j).testBit y = true ∧ lss g a y = true) ⟨hq, h1 a ha⟩ fun y z k h3 h4 => by
    refine ⟨h4, ((split1 hn hg ho hS f hij hi hj ha h4).2).resolve_right fun k2 => ?_⟩
    have := lss_tr hn hg ho (mem hi ha) (mem hj k.1) k2 k.2
    rw [(st (mem hj k.1) (mem hj h4) h3).2] at this; cases this).2
theorem key_less {g : Nat → Nat} {n : Nat} (hn : n ≤ 10) (hg : Sm n n g) (ho : Ord n g) {p q : Nat} (hp : p < n) (hq : q < n) (h : lss g p q = true) : pc (g p) < pc (g q) := by
  have hpl := pw_le n hn
  refine pc_strict (x := p) (fun x hx => ?_) (by have := hg q hq; omega) h (lss_irr hn hg ho hp)
  exact lss_tr hn hg ho hp hq hx h
/-- Pieces by strangeness that rise by how many are below their least points are one above the other. -/
theorem over_ris {g : Nat → Nat} {n : Nat} (hn : n ≤ 10) (hg : Sm n n g) (ho : Ord n g) {L : List Nat} {S : Nat} (hS : S < pw n) (f : PcF (lkF g n 2) L S) {h : Nat → Nat} (hi : InjT h L.length) (hm : ∀ v, Mem h L.length v ↔ Mem (nth L) L.length v) (hr : Ris (fun P => lkF g n 0 (lo P)) h L.length) {i j a b : Nat} (hij : i < j) (hj : j < L.length) (ha : (h i).testBit a = true) (hb : (h j).testBit b = true) : a ≠ b ∧ lss g a b = true ∧ lss g b a = false := by
  obtain ⟨p, hp, ep⟩ := (hm (h i)).1 ⟨i, by omega, rfl⟩
  obtain ⟨q, hq, eq⟩ := (hm (h j)).1 ⟨j, hj, rfl⟩
  have hpq : p ≠ q := fun e => by
    subst e
    have := hi i j (by omega) hj (ep.symm.trans eq)
    omega
  have hk : pc (g (lo (h i))) ≤ pc (g (lo (h j))) := hr i j hij hj
  rw [← ep] at ha hk
  rw [← eq] at hb hk
  have mem : ∀ {i x}, i < L.length → (nth L i).testBit x = true → x < n := fun {i x} hi hx => bit_of_lt hS ((f.un x).2 ⟨i, hi, hx⟩)
  have lp := lo_bit (f.lt p hp).1 (f.lt p hp).2
  have lq := lo_bit (f.lt q hq).1 (f.lt q hq).2
  have hl : lss g (lo (nth L p)) (lo (nth L q)) = true := ((split1 hn hg ho hS f hpq hp hq lp lq).2).resolve_right fun k => by
    have := key_less hn hg ho (mem hq lq) (mem hp lp) k
    omega
  have h1 := over1 hn hg ho hS f hpq hp hq hl a b ha hb
  exact ⟨(split1 hn hg ho hS f hpq hp hq ha hb).1, h1, lss_asym hn hg ho (mem hp ha) (mem hq hb) h1⟩
/-- A zig lies in one piece, in both ways. -/
theorem zig_in {g : Nat → Nat} {n : Nat} (hn : n ≤ 10) (hg : Sm n n g) (ho : Ord n g) {L : List Nat} {S w : Nat} (hw : w = 1 ∨ w = 2) (hS : S < pw n) (f : PcF (lkF g n w) L S) (hN : ∀ i, i < L.length → NZ g (nth L i)) : NZ g S := by
  intro a b c d ha hb hc hd hz
  obtain ⟨⟨ac, bc, bd⟩, ⟨ab, ba⟩, ⟨ad, da⟩, cd, dc⟩ := (zigP_iff g a b c d).1 hz
  obtain ⟨i, hi, ia⟩ := (f.un a).1 ha
  obtain ⟨j, hj, jb⟩ := (f.un b).1 hb
  obtain ⟨k, hk, kc⟩ := (f.un c).1 hc
  obtain ⟨m, hm, md⟩ := (f.un d).1 hd
  have e : j = i ∧ k = i ∧ m = i := by
    rcases hw with rfl | rfl
    · have same : ∀ {i j a b}, i < L.length → j < L.length → (nth L i).testBit a = true → (nth L j).testBit b = true → (g b).testBit a = true → i = j := fun {i j a b} hi hj ha hb h => by
        rcases Nat.lt_trichotomy i j with q | q | q
        · have := (split0 hn hS f q hj ha hb).2.1
          have h' : lss g a b = true := h
          rw [h'] at this; cases this
        · exact q
        · have := (split0 hn hS f q hi hb ha).2.2
          have h' : lss g a b = true := h
          rw [h'] at this; cases this
      have e1 := same hi hk ia kc ac
      have e2 := same hj hk jb kc bc
      have e3 := same hj hm jb md bd
      omega
    · have same : ∀ {i j a b}, i < L.length → j < L.length → (nth L i).testBit a = true → (nth L j).testBit b = true → (g b).testBit a = false → (g a).testBit b = false → i = j := fun {i j a b} hi hj ha hb h h' => by
        by_cases q : i = j
        · exact q
        · have h1 : lss g a b = false := h
          have h2 : lss g b a = false := h'
          rcases (split1 hn hg ho hS f q hi hj ha hb).2 with k | k
          · rw [h1] at k; cases k
          · rw [h2] at k; cases k
      have e1 := same hi hj ia jb ab ba
      have e2 := same hi hm ia md ad da
      have e3 := same hk hm kc md cd dc
      omega
  obtain ⟨rfl, rfl, rfl⟩ := e
  exact hN m hm a b c d ia jb kc md hz
/-- What hangs together in both ways has a zig. -/
theorem not_both {g : Nat → Nat} {n : Nat} (hn : n ≤ 10) (hg : Sm n n g) (ho : Ord n g) {S : Nat} (hS : S < pw n) (h2 : 2 ≤ pc S) (hN : NZ g S) (c0 : Cnn (lkF g n 1) S) (c1 : Cnn (lkF g n 2) S) : False := by
  have hpl := pw_le n hn
  let l := pts S 10
  have hml : ∀ x, x ∈ l ↔ S.testBit x = true := fun x => (pts_mem 10).trans ⟨fun h => h.2, fun h => ⟨bit_of_lt (n := 10) (by have := hS; show S < 1024; omega) h, h⟩⟩
  have mem : ∀ {x}, x ∈ l → x < n := fun {x} hx => bit_of_lt hS ((hml x).1 hx)
  have nd : ∀ k, (pts S k).Nodup := fun k => by
    induction k with
    | zero => exact List.nodup_nil
    | succ k ih =>
      cases e : S.testBit k
      · rw [pts_no e]; exact ih
      · rw [pts_yes e, List.nodup_append]
        refine ⟨ih, by simp, fun a ha b hb => ?_⟩
        have := pts_lt S k a ha
        simp at hb; omega
  have len : ∀ k, (pts S k).length = pcn S k := fun k => by
    induction k with
    | zero => rfl
    | succ k ih =>
      cases e : S.testBit k
      · rw [pts_no e, ih]; show pcn S k = (if S.testBit k = true then pcn S k + 1 else pcn S k); rw [e]; simp
      · rw [pts_yes e, List.length_append, ih]; show pcn S k + _ = (if S.testBit k = true then pcn S k + 1 else pcn S k); rw [e]; simp
  let L : Nat → Nat → Prop := fun a b => a < n ∧ b < n ∧ lss g a b = true
  have ht : ∀ x y z, L x y → L y z → L x z := fun x y z h1 h2 => ⟨h1.1, h2.2.1, lss_tr hn hg ho h1.2.1 h2.2.1 h1.2.2 h2.2.2⟩
  have hP : NoP (Kn L) l := noP_of_noZig ht (fun a b c d ha hb hc hd z => z.ne (by
    refine hN a b c d ((hml a).1 ha) ((hml b).1 hb) ((hml c).1 hc) ((hml d).1 hd) ((zigP_iff g a b c d).2 ?_)
    have f : ∀ {x y}, x ∈ l → y ∈ l → ¬ Kn L x y → lss g x y = false ∧ lss g y x = false := fun {x y} hx hy k => by
      refine ⟨?_, ?_⟩
      · cases e : lss g x y
        · rfl
        · exact absurd (.inl ⟨mem hx, mem hy, e⟩) k
      · cases e : lss g y x
        · rfl
        · exact absurd (.inr ⟨mem hy, mem hx, e⟩) k
    exact ⟨⟨z.ac.2.2, z.bc.2.2, z.bd.2.2⟩, f ha hb z.ab, f ha hd z.ad, f hc hd z.cd⟩))
  have hs : ∀ x y, Kn L x y → Kn L y x := fun x y h => h.symm
  have hs' : ∀ x y, ¬ Kn L x y → ¬ Kn L y x := fun x y h k => h k.symm
  have S0 : S ≠ 0 := fun e => by subst e; revert h2; decide
  have hlo := lo_bit (S := S) (by omega) S0
  have al : ∀ (w : Nat) (R : Nat → Nat → Prop), (∀ x y, R x y → R y x) → (∀ x y, x ∈ l → y ∈ l → (lkF g n w x).testBit y = true → R x y) → Cnn (lkF g n w) S → ∀ p q, p ∈ l → q ∈ l → Con R (· ∈ l) p q := fun w R sy hR hc p q hp hq => by
    have key : ∀ x, x ∈ l → Con R (· ∈ l) (lo S) x := fun x hx => (hc x ((hml x).1 hx) (fun y => y ∈ l ∧ Con R (· ∈ l) (lo S) y) ⟨(hml _).2 hlo, Con.self _ _ _⟩ fun y z k h1 h2 => ⟨(hml z).2 h2, k.2.next (hR y z k.1 ((hml z).2 h2) h1) ((hml z).2 h2)⟩).2
    exact ((key p hp).symm sy ((hml _).2 hlo)).trans (key q hq)
  rcases apart_of hs (nd 10) (by rw [len 10]; exact h2) hP with ⟨p, q, hp, hq, hpq⟩ | ⟨p, q, hp, hq, hpq⟩
  · exact hpq (al 1 (Kn L) hs (fun x y hx hy h => by
      have e : lkF g n 1 x = kno g n x := rfl
      rw [e, kno_bit x y (mem hy)] at h
      rcases h with h | h
      · exact .inr ⟨mem hy, mem hx, h⟩
      · exact .inl ⟨mem hx, mem hy, h⟩) c0 p q hp hq)
  · exact hpq (al 2 (fun x y => ¬ Kn L x y) hs' (fun x y hx hy h => by
      have e : lkF g n 2 x = lack (pw n - 1) (kno g n x) := rfl
      rw [e, strange_bit hn hg x y (mem hx) (mem hy)] at h
      rintro (k | k)
      · have := k.2.2; unfold lss at this; rw [h.2] at this; cases this
      · have := k.2.2; unfold lss at this; rw [h.1] at this; cases this) c1 p q hp hq)
end Go.Proofs.YtglkjeidkjkdaaaDoor
