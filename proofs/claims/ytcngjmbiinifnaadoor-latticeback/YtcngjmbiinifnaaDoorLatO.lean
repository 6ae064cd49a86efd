/-
  An order whose points have meets and joins two by two is a lattice, and its tables say it again. Conditions: an order of at most ten points.
-/
import Derived.Test.YtcngjmbiinifnaaDoorOrdO
import Derived.Test.YtcngjmbiinifnaaDoorTablesO
namespace Go.Proofs.YtcngjmbiinifnaaDoor
open Go.RowKit

/-- Is k the point p, or below it? -/
def leO (g : Nat → Nat) (k p : Nat) : Prop := (up g p).testBit k = true
theorem leO_iff {g : Nat → Nat} {k p : Nat} : leO g k p ↔ (g p).testBit k = true ∨ p = k := by
  unfold leO; rw [up_at, Bool.or_eq_true, decide_eq_true_iff]
theorem leO_lt {n : Nat} {g : Nat → Nat} (hg : Sm n n g) {k p : Nat} (hp : p < n) (h : leO g k p) : k < n := bit_of_lt (up_pw hg hp) h
theorem leO_refl (g : Nat → Nat) (p : Nat) : leO g p p := leO_iff.2 (.inr rfl)
theorem leO_tr {n : Nat} {g : Nat → Nat} (hn : n ≤ 10) (hg : Sm n n g) (ho : Ord n g) {a b c : Nat} (hb : b < n) (hc : c < n) (h1 : leO g a b) (h2 : leO g b c) : leO g a c := by
  rw [leO_iff] at *
  rcases h1 with h1 | rfl
  · rcases h2 with h2 | rfl
    · exact .inl (ord_tr hn hg ho hb hc h1 h2)
    · exact .inl h1
  · exact h2
theorem leO_anti {n : Nat} {g : Nat → Nat} (hn : n ≤ 10) (hg : Sm n n g) (ho : Ord n g) {a b : Nat} (ha : a < n) (hb : b < n) (h1 : leO g a b) (h2 : leO g b a) : a = b := by
  rw [leO_iff] at *
  rcases h1 with h1 | h1
  · rcases h2 with h2 | h2
    · have := ord_tr hn hg ho ha hb h2 h1
      rw [(ho b hb).1] at this; cases this
    · exact h2
  · exact h1.symm
theorem leO_dual {n : Nat} {g : Nat → Nat} {k p : Nat} (hk : k < n) : leO (trn g n) k p ↔ leO g p k := by
  rw [leO_iff, leO_iff, trn_bit, Bool.and_eq_true, decide_eq_true_iff]
  constructor
  · rintro (⟨_, h⟩ | rfl)
    · exact .inl h
    · exact .inr rfl
  · rintro (h | rfl)
    · exact .inl ⟨hk, h⟩
    · exact .inr rfl
theorem mt_iff {g : Nat → Nat} {x y p : Nat} : Mt g x y p ↔ (leO g p x ∧ leO g p y) ∧ ∀ k, leO g k x → leO g k y → leO g k p := by
  unfold Mt Hi leO
  rw [Nat.testBit_and, Bool.and_eq_true]
  constructor
  · rintro ⟨h1, h2⟩
    exact ⟨h1, fun k a b => h2 k (by rw [Nat.testBit_and, a, b]; rfl)⟩
  · rintro ⟨h1, h2⟩
    refine ⟨h1, fun k hk => ?_⟩
    rw [Nat.testBit_and, Bool.and_eq_true] at hk
    exact h2 k hk.1 hk.2
/-- A meet that there is: below both, and above all that is so. -/
theorem mF_le {n : Nat} {g : Nat → Nat} (hA : AllMt g n) {x y : Nat} (hx : x < n) (hy : y < n) : (leO g (mF g x y) x ∧ leO g (mF g x y) y) ∧ ∀ k, leO g k x → leO g k y → leO g k (mF g x y) :=
  mt_iff.1 (mF_is (hA x y hx hy))
theorem mF_lt {n : Nat} {g : Nat → Nat} (hg : Sm n n g) (hA : AllMt g n) {x y : Nat} (hx : x < n) (hy : y < n) : mF g x y < n := leO_lt hg hx (mF_le hA hx hy).1.1
/-- The laws of a table of meets, beside one that is above. -/
theorem mF_laws {n : Nat} {g : Nat → Nat} (hn : n ≤ 10) (hg : Sm n n g) (ho : Ord n g) (hA : AllMt g n) {j : Nat → Nat → Nat} (hj : ∀ x y, x < n → y < n → j x y < n ∧ leO g x (j x y)) : Lws n (mF g) j := by
  have E : ∀ {x y p : Nat}, x < n → y < n → p < n → leO g p x → leO g p y → (∀ k, k < n → leO g k x → leO g k y → leO g k p) → mF g x y = p := fun {x y p} hx hy hp h1 h2 h3 =>
    leO_anti hn hg ho (mF_lt hg hA hx hy) hp (h3 _ (mF_lt hg hA hx hy) (mF_le hA hx hy).1.1 (mF_le hA hx hy).1.2) ((mF_le hA hx hy).2 p h1 h2)
  refine lws_iff.2 fun x y z hx hy hz => ⟨?_, ?_, ?_, ?_⟩
  · exact E hx hx hx (leO_refl _ _) (leO_refl _ _) (fun k _ h _ => h)
  · exact E hx hy (mF_lt hg hA hy hx) (mF_le hA hy hx).1.2 (mF_le hA hy hx).1.1 (fun k _ h1 h2 => (mF_le hA hy hx).2 k h2 h1)
  · have hyz := mF_lt hg hA hy hz
    have hxy := mF_lt hg hA hx hy
    have hp := mF_lt hg hA hxy hz
    have a1 := (mF_le hA hxy hz).1.1
    have a2 := (mF_le hA hxy hz).1.2
    refine E hx hyz hp (leO_tr hn hg ho hxy hx a1 (mF_le hA hx hy).1.1) ((mF_le hA hy hz).2 _ (leO_tr hn hg ho hxy hy a1 (mF_le hA hx hy).1.2) a2) (fun k hk h1 h2 => ?_)
    exact (mF_le hA hxy hz).2 k ((mF_le hA hx hy).2 k h1 (leO_tr hn hg ho hyz hy h2 (mF_le hA hy hz).1.1)) (leO_tr hn hg ho hyz hz h2 (mF_le hA hy hz).1.2)
  · exact E hx (hj x y hx hy).1 hx (leO_refl _ _) (hj x y hx hy).2 (fun k _ h _ => h)
theorem trn_trn {g : Nat → Nat} {n : Nat} (hg : Sm n n g) (k : Nat) (hk : k < n) : trn (trn g n) n k = g k :=
  eq_of_bits (trn_sm _ n k hk) (hg k hk) (fun i hi => by rw [trn_bit, trn_bit]; simp [hi, hk])
theorem leO_congr {n : Nat} {g h : Nat → Nat} (e : ∀ k, k < n → g k = h k) {k p : Nat} (hp : p < n) : leO g k p ↔ leO h k p := by
  rw [leO_iff, leO_iff, e p hp]
theorem mt_congr {n : Nat} {g h : Nat → Nat} (hg : Sm n n g) (hh : Sm n n h) (e : ∀ k, k < n → g k = h k) {x y p : Nat} (hx : x < n) (hy : y < n) : Mt g x y p ↔ Mt h x y p := by
  rw [mt_iff, mt_iff]
  constructor
  · rintro ⟨⟨h1, h2⟩, h3⟩
    have hp := leO_lt hg hx h1
    exact ⟨⟨(leO_congr e hx).1 h1, (leO_congr e hy).1 h2⟩, fun k a b => (leO_congr e hp).1 (h3 k ((leO_congr e hx).2 a) ((leO_congr e hy).2 b))⟩
  · rintro ⟨⟨h1, h2⟩, h3⟩
    have hp := leO_lt hh hx h1
    exact ⟨⟨(leO_congr e hx).2 h1, (leO_congr e hy).2 h2⟩, fun k a b => (leO_congr e hp).2 (h3 k ((leO_congr e hx).1 a) ((leO_congr e hy).1 b))⟩
theorem AllMt.congr {n : Nat} {g h : Nat → Nat} (hg : Sm n n g) (hh : Sm n n h) (e : ∀ k, k < n → g k = h k) : AllMt g n ↔ AllMt h n :=
  ⟨fun a x y hx hy => by obtain ⟨p, hp⟩ := a x y hx hy; exact ⟨p, (mt_congr hg hh e hx hy).1 hp⟩, fun a x y hx hy => by obtain ⟨p, hp⟩ := a x y hx hy; exact ⟨p, (mt_congr hg hh e hx hy).2 hp⟩⟩
theorem mF_congr {n : Nat} {g h : Nat → Nat} (hn : n ≤ 10) (hg : Sm n n g) (hh : Sm n n h) (ho : Ord n h) (hA : AllMt g n) (e : ∀ k, k < n → g k = h k) {x y : Nat} (hx : x < n) (hy : y < n) : mF g x y = mF h x y :=
  (mF_eq hn hh ho hx ((mt_congr hg hh e hx hy).1 (mF_is (hA x y hx hy)))).symm
/-- The lattice of an order. -/
theorem lat_of {n : Nat} {g : Nat → Nat} (hn : n ≤ 10) (hg : Sm n n g) (ho : Ord n g) (hA : AllMt g n) (hD : AllMt (trn g n) n) : Lat n (mF g) (mF (trn g n)) := by
  have hdo := trn_ord hn hg ho
  refine ⟨fun x y hx hy => mF_lt hg hA hx hy, fun x y hx hy => mF_lt (trn_sm g n) hD hx hy, mF_laws hn hg ho hA (fun x y hx hy => ?_), mF_laws hn (trn_sm g n) hdo hD (fun x y hx hy => ?_)⟩
  · have hl := mF_lt (trn_sm g n) hD hx hy
    exact ⟨hl, (leO_dual hl).1 (mF_le hD hx hy).1.1⟩
  · have hl := mF_lt hg hA hx hy
    exact ⟨hl, (leO_dual hx).2 (mF_le hA hx hy).1.1⟩
/-- Its order is the order. -/
theorem ord_back {n : Nat} {g : Nat → Nat} (hn : n ≤ 10) (hg : Sm n n g) (ho : Ord n g) (hA : AllMt g n) {k : Nat} (hk : k < n) : trn (upF (mF g) n) n k = g k := by
  refine eq_of_bits (trn_sm _ n k hk) (hg k hk) (fun x hx => ?_)
  rw [trn_bit, upF_at hk]
  simp only [hx, decide_true, Bool.true_and]
  rw [Bool.eq_iff_iff, Bool.and_eq_true, Bool.not_eq_true', beq_eq_false_iff_ne, beq_iff_eq]
  constructor
  · rintro ⟨hne, h⟩
    have := (mF_le hA hx hk).1.2
    rw [h, leO_iff] at this
    rcases this with h' | h'
    · exact h'
    · exact absurd h'.symm hne
  · intro h
    refine ⟨fun e => ?_, ?_⟩
    · subst e; rw [(ho x hx).1] at h; cases h
    · exact leO_anti hn hg ho (mF_lt hg hA hx hk) hx (mF_le hA hx hk).1.1 ((mF_le hA hx hk).2 x (leO_refl _ _) (leO_iff.2 (.inl h)))
end Go.Proofs.YtcngjmbiinifnaaDoor
