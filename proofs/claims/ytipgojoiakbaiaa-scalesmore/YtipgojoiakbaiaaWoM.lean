/-
  What is weighed out: what is known more, open pairs, the cost, and how many rows there are at most. Plain facts: no Go text here. Conditions: at most five points.
-/
import Derived.Test.YtipgojoiakbaiaaTurnsM
namespace Go.Proofs.Ytipgojoiakbaiaa
open Go.RowKit

/-- Of neither point it is known that it stands ahead. -/
def opn (g : Nat → Nat) (a b : Nat) : Bool := !(g a).testBit b && !(g b).testBit a
theorem opn_comm (g : Nat → Nat) (a b : Nat) : opn g a b = opn g b a := by unfold opn; rw [Bool.and_comm]
theorem opn_iff {g : Nat → Nat} {a b : Nat} : opn g a b = true ↔ (g a).testBit b = false ∧ (g b).testBit a = false := by
  unfold opn; simp
/-- A weighing more. -/
def wth (g : Nat → Nat) (a b p : Nat) : Nat := if p = b ∨ (g p).testBit b = true then g p ||| (g a ||| pw a) else g p
theorem wth_bit (g : Nat → Nat) (a b p x : Nat) : (wth g a b p).testBit x = true ↔ ((g p).testBit x = true ∨ ((p = b ∨ (g p).testBit b = true) ∧ ((g a).testBit x = true ∨ x = a))) := by
  unfold wth
  by_cases h : p = b ∨ (g p).testBit b = true
  · rw [if_pos h]
    simp only [Nat.testBit_or, pw_bit, Bool.or_eq_true, decide_eq_true_eq, h, true_and]
    constructor
    · rintro (h1 | h1 | rfl)
      · exact .inl h1
      · exact .inr (.inl h1)
      · exact .inr (.inr rfl)
    · rintro (h1 | h1 | rfl)
      · exact .inl h1
      · exact .inr (.inl h1)
      · exact .inr (.inr rfl)
  · rw [if_neg h]
    simp only [h, false_and, or_false]
theorem wth_up {g : Nat → Nat} {a b p x : Nat} (h : (g p).testBit x = true) : (wth g a b p).testBit x = true := (wth_bit g a b p x).2 (.inl h)
theorem wth_new (g : Nat → Nat) (a b : Nat) : (wth g a b b).testBit a = true := (wth_bit g a b b a).2 (.inr ⟨.inl rfl, .inr rfl⟩)

/-- An order of n points, at most five, and nothing beyond. -/
structure WOk (n : Nat) (g : Nat → Nat) : Prop where
  n5 : n ≤ 5
  sm : Sm n n g
  out : ∀ p, n ≤ p → g p = 0
  irr : ∀ p, (g p).testBit p = false
  tr : ∀ p x y, (g p).testBit x = true → (g x).testBit y = true → (g p).testBit y = true
theorem WOk.lt {n : Nat} {g : Nat → Nat} (h : WOk n g) {p x : Nat} (hx : (g p).testBit x = true) : x < n ∧ p < n := by
  rcases Nat.lt_or_ge p n with h1 | h1
  · exact ⟨bit_of_lt (h.sm p h1) hx, h1⟩
  · rw [h.out p h1] at hx; simp at hx
theorem WOk.small {n : Nat} {g : Nat → Nat} (h : WOk n g) (p : Nat) : g p < 32 := by
  rcases Nat.lt_or_ge p n with h1 | h1
  · exact Nat.lt_of_lt_of_le (h.sm p h1) (Nat.pow_le_pow_right (by decide) h.n5)
  · rw [h.out p h1]; decide
theorem WOk.smn {n : Nat} {g : Nat → Nat} (h : WOk n g) (p : Nat) : g p < pw n := by
  rcases Nat.lt_or_ge p n with h1 | h1
  · exact h.sm p h1
  · rw [h.out p h1]; exact pw_pos n
theorem WOk.ord {n : Nat} {g : Nat → Nat} (h : WOk n g) : Ord n g := fun u _ => ⟨h.irr u, fun p _ hp => by
  have h1 := h.small p; have h2 := h.small u
  exact (lack_zero _ _ (by omega) (by omega)).2 fun i hi => h.tr u p i hp hi⟩
theorem WOk.lack {n : Nat} {g : Nat → Nat} (h : WOk n g) {p s : Nat} (hs : s < pw n) : lack (g p) s = 0 ↔ ∀ x, (g p).testBit x = true → s.testBit x = true := by
  have h1 := h.small p
  have h2 : pw n ≤ 32 := Nat.pow_le_pow_right (by decide) h.n5
  exact lack_zero _ _ (by omega) (by omega)
theorem WOk.mk' {n : Nat} {g : Nat → Nat} (h5 : n ≤ 5) (hs : Sm n n g) (ho : Ord n g) (hz : ∀ p, n ≤ p → g p = 0) : WOk n g := by
  have hlt : ∀ p x, (g p).testBit x = true → x < n ∧ p < n := fun p x hx => by
    rcases Nat.lt_or_ge p n with h1 | h1
    · exact ⟨bit_of_lt (hs p h1) hx, h1⟩
    · rw [hz p h1] at hx; simp at hx
  have h2 : pw n ≤ 32 := Nat.pow_le_pow_right (by decide) h5
  refine ⟨h5, hs, hz, fun p => ?_, fun p x y hx hy => ?_⟩
  · rcases Nat.lt_or_ge p n with h1 | h1
    · exact (ho p h1).1
    · rw [hz p h1]; simp
  · obtain ⟨h3, h4⟩ := hlt p x hx
    have h5 := hs x h3; have h6 := hs p h4
    exact (lack_zero _ _ (by omega) (by omega)).1 ((ho p h4).2 x h3 hx) y hy
theorem WOk.wth {n : Nat} {g : Nat → Nat} (h : WOk n g) {a b : Nat} (ha : a < n) (hb : b < n) (hab : a ≠ b) (ho : opn g a b = true) : WOk n (wth g a b) := by
  obtain ⟨o1, o2⟩ := opn_iff.1 ho
  refine ⟨h.n5, fun p hp => ?_, fun p hp => ?_, fun p => ?_, fun p x y hx hy => ?_⟩
  · unfold Proofs.Ytipgojoiakbaiaa.wth
    split
    · exact Nat.or_lt_two_pow (h.sm p hp) (Nat.or_lt_two_pow (h.sm a ha) (Nat.pow_lt_pow_right (by decide) ha))
    · exact h.sm p hp
  · unfold Proofs.Ytipgojoiakbaiaa.wth
    rw [h.out p hp, if_neg]
    rintro (rfl | h1)
    · omega
    · simp at h1
  · rw [Bool.eq_false_iff]
    intro hc
    rcases (wth_bit g a b p p).1 hc with h1 | ⟨rfl | h1, h2 | rfl⟩
    · rw [h.irr p] at h1; cases h1
    · rw [o1] at h2; cases h2
    · exact hab rfl
    · have := h.tr a p b h2 h1; rw [o1] at this; cases this
    · rw [o1] at h1; cases h1
  · refine (wth_bit g a b p y).2 ?_
    rcases (wth_bit g a b p x).1 hx with h1 | ⟨h1, h2⟩
    · rcases (wth_bit g a b x y).1 hy with h3 | ⟨h3, h4⟩
      · exact .inl (h.tr p x y h1 h3)
      · refine .inr ⟨.inr ?_, h4⟩
        rcases h3 with rfl | h3
        · exact h1
        · exact h.tr p x b h1 h3
    · refine .inr ⟨h1, ?_⟩
      rcases (wth_bit g a b x y).1 hy with h3 | ⟨h3, h4⟩
      · rcases h2 with h2 | rfl
        · exact .inl (h.tr a x y h2 h3)
        · exact .inl h3
      · rcases h2 with h2 | rfl
        · exfalso
          rcases h3 with rfl | h3
          · rw [o1] at h2; cases h2
          · have := h.tr a x b h2 h3; rw [o1] at this; cases this
        · exfalso
          rcases h3 with rfl | h3
          · exact hab rfl
          · rw [o1] at h3; cases h3

/-! How many rows. -/
theorem ways_inv {u v : Nat → Nat} {n : Nat} (I : Nat → Prop) (hI : ∀ s i, s < pw n → I s → i < n → may u s i = true → I (s + pw i)) (h : ∀ s i, s < pw n → I s → i < n → may u s i = may v s i) :
    ∀ m s, pw n - s ≤ m → s < pw n → I s → ways u n s = ways v n s
  | 0, s, hm, hs, _ => by omega
  | m + 1, s, hm, hs, hi => by
    by_cases e : s + 1 < pw n
    · rw [ways_eq e, ways_eq e]
      refine sumTo_congr n fun i hin => ?_
      have e1 := h s i hs hi hin
      cases hb : may u s i
      · rw [goes_no hb, goes_no (e1 ▸ hb)]
      · rw [goes_yes hb, goes_yes (e1 ▸ hb)]
        have hp := pw_pos i
        exact ways_inv I hI h m (s + pw i) (by omega) (add_lt hs hin (may_out hb)) (hI s i hs hi hin hb)
    · have : s = pw n - 1 := by omega
      rw [this, ways_all, ways_all]
theorem may_iff {n : Nat} {g : Nat → Nat} (h : WOk n g) {s i : Nat} (hs : s < pw n) : may g s i = true ↔ s.testBit i = false ∧ ∀ x, (g i).testBit x = true → s.testBit x = true := by
  unfold may
  rw [Bool.and_eq_true, decide_eq_true_eq, h.lack hs, Bool.not_eq_true']
theorem down_iff {n : Nat} {g : Nat → Nat} (h : WOk n g) {s : Nat} (hs : s < pw n) : Down g n s ↔ ∀ i x, s.testBit i = true → (g i).testBit x = true → s.testBit x = true := by
  unfold Down
  constructor
  · intro hd i x h1 h2
    exact (h.lack hs).1 (hd i (h.lt h2).2 h1) x h2
  · intro hd i _ h1
    exact (h.lack hs).2 fun x h2 => hd i x h1 h2
theorem ways_far {n : Nat} {g : Nat → Nat} (h : WOk n g) {a b : Nat} (ha : a < n) (hb : b < n) (hab : a ≠ b) (ho : opn g a b = true) {s : Nat} (hs : s < pw n) (hd : Down g n s) (hsa : s.testBit a = true) :
    ways (wth g a b) n s = ways g n s := by
  have hw := h.wth ha hb hab ho
  refine (ways_inv (u := g) (v := wth g a b) (fun s => Down g n s ∧ s.testBit a = true) ?_ ?_ (pw n) s (by omega) hs ⟨hd, hsa⟩).symm
  · rintro s i hs ⟨hd, hsa⟩ hi hm
    refine ⟨hd.add (by have := h.n5; omega) h.sm hs hi hm, ?_⟩
    rw [add_bit (may_out hm)]; simp [hsa]
  · rintro s i hs ⟨hd, hsa⟩ hi
    rw [Bool.eq_iff_iff, may_iff h hs, may_iff hw hs]
    refine and_congr_right fun _ => ⟨fun hx x h1 => ?_, fun hx x h1 => hx x (wth_up h1)⟩
    rcases (wth_bit g a b i x).1 h1 with h2 | ⟨_, h2 | rfl⟩
    · exact hx x h2
    · exact (down_iff h hs).1 hd a x hsa h2
    · exact hsa
theorem ways_split {n : Nat} {g : Nat → Nat} (h : WOk n g) {a b : Nat} (ha : a < n) (hb : b < n) (hab : a ≠ b) (ho : opn g a b = true) :
    ∀ m s, pw n - s ≤ m → s < pw n → Down g n s → s.testBit a = false → s.testBit b = false → ways g n s = ways (wth g a b) n s + ways (wth g b a) n s
  | 0, s, hm, hs, _, _, _ => by omega
  | m + 1, s, hm, hs, hd, hsa, hsb => by
    have e : s + 1 < pw n := by
      rcases Nat.lt_or_ge (s + 1) (pw n) with h1 | h1
      · exact h1
      · exfalso
        have : s = pw n - 1 := by omega
        rw [this, all_bit ha] at hsa; cases hsa
    have o2 : opn g b a = true := by rw [opn_comm]; exact ho
    have ha2 : ∀ i, i < n → i ≠ a → i ≠ b → may (wth g a b) s i = may g s i ∧ may (wth g b a) s i = may g s i := by
      intro i hi h1 h2
      have aux : ∀ c d, s.testBit d = false → i ≠ d → opn g c d = true → c < n → d < n → c ≠ d → may (wth g c d) s i = may g s i := by
        intro c d hsd hid hcd hc hd' hne
        rw [Bool.eq_iff_iff, may_iff (h.wth hc hd' hne hcd) hs, may_iff h hs]
        refine and_congr_right fun _ => ⟨fun hx x k1 => hx x (wth_up k1), fun hx x k1 => ?_⟩
        rcases (wth_bit g c d i x).1 k1 with k2 | ⟨rfl | k2, _⟩
        · exact hx x k2
        · exact absurd rfl hid
        · have := hx d k2; rw [hsd] at this; cases this
      exact ⟨aux a b hsb h2 ho ha hb hab, aux b a hsa h1 o2 hb ha (Ne.symm hab)⟩
    have key : ∀ i, i < n → goes g n s i = goes (wth g a b) n s i + goes (wth g b a) n s i := by
      intro i hi
      by_cases hia : i = a
      · subst hia
        have e1 : may (wth g i b) s i = may g s i := by
          rw [Bool.eq_iff_iff, may_iff (h.wth ha hb hab ho) hs, may_iff h hs]
          refine and_congr_right fun _ => ⟨fun hx x k1 => hx x (wth_up k1), fun hx x k1 => ?_⟩
          rcases (wth_bit g i b i x).1 k1 with k2 | ⟨k2 | k2, _⟩
          · exact hx x k2
          · exact absurd k2 hab
          · rw [(opn_iff.1 ho).1] at k2; cases k2
        have e2 : may (wth g b i) s i = false := by
          rw [Bool.eq_false_iff, Ne, may_iff (h.wth hb ha (Ne.symm hab) o2) hs]
          rintro ⟨_, hx⟩
          have := hx b (wth_new g b i); rw [hsb] at this; cases this
        rw [goes_no e2, Nat.add_zero]
        cases hm1 : may g s i
        · rw [goes_no hm1, goes_no (e1.trans hm1)]
        · rw [goes_yes hm1, goes_yes (e1.trans hm1)]
          refine (ways_far h ha hb hab ho (add_lt hs ha hsa) (hd.add (by have := h.n5; omega) h.sm hs ha hm1) ?_).symm
          rw [add_bit hsa]; simp
      · by_cases hib : i = b
        · subst hib
          have e1 : may (wth g i a) s i = may g s i := by
            rw [Bool.eq_iff_iff, may_iff (h.wth hb ha (Ne.symm hab) o2) hs, may_iff h hs]
            refine and_congr_right fun _ => ⟨fun hx x k1 => hx x (wth_up k1), fun hx x k1 => ?_⟩
            rcases (wth_bit g i a i x).1 k1 with k2 | ⟨k2 | k2, _⟩
            · exact hx x k2
            · exact absurd k2 hia
            · rw [(opn_iff.1 o2).1] at k2; cases k2
          have e2 : may (wth g a i) s i = false := by
            rw [Bool.eq_false_iff, Ne, may_iff (h.wth ha hb hab ho) hs]
            rintro ⟨_, hx⟩
            have := hx a (wth_new g a i); rw [hsa] at this; cases this
          rw [goes_no e2, Nat.zero_add]
          cases hm1 : may g s i
          · rw [goes_no hm1, goes_no (e1.trans hm1)]
          · rw [goes_yes hm1, goes_yes (e1.trans hm1)]
            refine (ways_far h hb ha (Ne.symm hab) o2 (add_lt hs hb hsb) (hd.add (by have := h.n5; omega) h.sm hs hb hm1) ?_).symm
            rw [add_bit hsb]; simp
        · obtain ⟨e1, e2⟩ := ha2 i hi hia hib
          cases hm1 : may g s i
          · rw [goes_no hm1, goes_no (e1.trans hm1), goes_no (e2.trans hm1)]
          · rw [goes_yes hm1, goes_yes (e1.trans hm1), goes_yes (e2.trans hm1)]
            have hp := pw_pos i
            refine ways_split h ha hb hab ho m (s + pw i) (by omega) (add_lt hs hi (may_out hm1)) (hd.add (by have := h.n5; omega) h.sm hs hi hm1) ?_ ?_
            · rw [add_bit (may_out hm1), hsa]; simp [hia]
            · rw [add_bit (may_out hm1), hsb]; simp [hib]
    rw [ways_eq e, ways_eq e, ways_eq e, ← sumTo_add]
    exact sumTo_congr n key
theorem down_none (g : Nat → Nat) (n : Nat) : Down g n 0 := fun i _ h => by simp at h
theorem ways_two {n : Nat} {g : Nat → Nat} (h : WOk n g) {a b : Nat} (ha : a < n) (hb : b < n) (hab : a ≠ b) (ho : opn g a b = true) : ways g n 0 = ways (wth g a b) n 0 + ways (wth g b a) n 0 :=
  ways_split h ha hb hab ho (pw n) 0 (by omega) (pw_pos n) (down_none g n) (by simp) (by simp)
theorem WOk.some {n : Nat} {g : Nat → Nat} (h : WOk n g) : 0 < ways g n 0 := ways_some (by have := h.n5; omega) h.sm h.ord
theorem sum_one {φ : Nat → Nat} : ∀ n, (∀ i, i < n → φ i ≤ 1) → (∀ i j, i < n → j < n → φ i ≠ 0 → φ j ≠ 0 → i = j) → sumTo φ n ≤ 1
  | 0, _, _ => Nat.zero_le _
  | n + 1, h1, h2 => by
    rw [sumTo]
    have := h1 n (by omega)
    have ih := sum_one n (fun i hi => h1 i (by omega)) (fun i j hi hj => h2 i j (by omega) (by omega))
    by_cases e : φ n = 0
    · omega
    · have : sumTo φ n = 0 := by
        have hz : ∀ k, k < n → φ k = (fun _ => 0) k := fun k hk => by
          by_cases e2 : φ k = 0
          · exact e2
          · exact absurd (h2 k n (by omega) (by omega) e2 e) (by omega)
        rw [sumTo_congr n hz]
        have := sumTo_le (φ := fun _ => 0) (B := 0) n (fun _ _ => Nat.le_refl _)
        omega
      omega
/-- No pair is open. -/
def Lin (n : Nat) (g : Nat → Nat) : Prop := ∀ a b, a < b → b < n → opn g a b = false
theorem Lin.or {n : Nat} {g : Nat → Nat} (h : Lin n g) {a b : Nat} (ha : a < n) (hb : b < n) (hab : a ≠ b) : (g a).testBit b = true ∨ (g b).testBit a = true := by
  have : opn g a b = false := by
    rcases Nat.lt_or_ge a b with h1 | h1
    · exact h a b h1 hb
    · rw [opn_comm]; exact h b a (by omega) ha
  cases h1 : (g a).testBit b
  · cases h2 : (g b).testBit a
    · rw [opn_iff.2 ⟨h1, h2⟩] at this; cases this
    · exact .inr rfl
  · exact .inl rfl
theorem ways_line {n : Nat} {g : Nat → Nat} (h : WOk n g) (hl : Lin n g) : ∀ m s, pw n - s ≤ m → s < pw n → ways g n s ≤ 1
  | 0, s, hm, hs => by omega
  | m + 1, s, hm, hs => by
    by_cases e : s + 1 < pw n
    · rw [ways_eq e]
      refine sum_one n (fun i hi => ?_) (fun i j hi hj h1 h2 => ?_)
      · cases hb : may g s i
        · rw [goes_no hb]; omega
        · rw [goes_yes hb]
          have := pw_pos i
          exact ways_line h hl m _ (by omega) (add_lt hs hi (may_out hb))
      · have k1 : may g s i = true := by
          cases hb : may g s i
          · exact absurd (goes_no hb) h1
          · rfl
        have k2 : may g s j = true := by
          cases hb : may g s j
          · exact absurd (goes_no hb) h2
          · rfl
        obtain ⟨a1, a2⟩ := (may_iff h hs).1 k1
        obtain ⟨b1, b2⟩ := (may_iff h hs).1 k2
        by_cases hij : i = j
        · exact hij
        · exfalso
          rcases hl.or hi hj hij with h3 | h3
          · rw [a2 j h3] at b1; cases b1
          · rw [b2 i h3] at a1; cases a1
    · have : s = pw n - 1 := by omega
      rw [this, ways_all]; omega

/-! The cost. -/
structure Wg where
  a : Nat
  b : Nat
  c : Nat
def stepW (o : Bool) (a b c : Nat) (l : Wg) : Wg := if o = true ∧ (l.c = 0 ∨ c < l.c) then ⟨a, b, c⟩ else l
def accB (O : Nat → Nat → Bool) (C : Nat → Nat → Nat) (a : Nat) (s : Wg) : Nat → Wg
  | 0 => s
  | b + 1 => if a < b then stepW (O a b) a b (C a b) (accB O C a s b) else accB O C a s b
def accA (O : Nat → Nat → Bool) (C : Nat → Nat → Nat) (n : Nat) : Nat → Wg
  | 0 => ⟨0, 0, 0⟩
  | a + 1 => accB O C a (accA O C n a) n
theorem accB_low {O : Nat → Nat → Bool} {C : Nat → Nat → Nat} {a : Nat} {s : Wg} : ∀ b, b ≤ a + 1 → accB O C a s b = s
  | 0, _ => rfl
  | b + 1, h => by rw [accB, if_neg (by omega)]; exact accB_low b (by omega)
theorem accB_more {O : Nat → Nat → Bool} {C : Nat → Nat → Nat} {a b : Nat} {s : Wg} (h : a < b) : accB O C a s (b + 1) = stepW (O a b) a b (C a b) (accB O C a s b) := by rw [accB, if_pos h]
theorem accB_congr {O : Nat → Nat → Bool} {C C' : Nat → Nat → Nat} {a n : Nat} {s : Wg} (h : ∀ b, a < b → b < n → O a b = true → C a b = C' a b) : ∀ b, b ≤ n → accB O C a s b = accB O C' a s b
  | 0, _ => rfl
  | b + 1, hb => by
    rw [accB, accB, accB_congr h b (by omega)]
    split
    · unfold stepW
      by_cases ho : O a b = true
      · rw [h b (by omega) (by omega) ho]
      · rw [if_neg (fun k => ho k.1), if_neg (fun k => ho k.1)]
    · rfl
theorem accA_congr {O : Nat → Nat → Bool} {C C' : Nat → Nat → Nat} {n : Nat} (h : ∀ a b, a < b → b < n → O a b = true → C a b = C' a b) : ∀ a, a ≤ n → accA O C n a = accA O C' n a
  | 0, _ => rfl
  | a + 1, ha => by rw [accA, accA, accA_congr h a (by omega), accB_congr (h a) n (Nat.le_refl _)]
/-- The best one of the pairs that were seen. -/
def Bst (O : Nat → Nat → Bool) (C : Nat → Nat → Nat) (Q : Nat → Nat → Prop) (R : Wg) : Prop :=
  (R = ⟨0, 0, 0⟩ ∧ ∀ a b, Q a b → O a b = false) ∨ (Q R.a R.b ∧ O R.a R.b = true ∧ R.c = C R.a R.b ∧ ∀ a b, Q a b → O a b = true → R.c ≤ C a b ∧ ((a < R.a ∨ (a = R.a ∧ b < R.b)) → R.c < C a b))
theorem Bst.step {O : Nat → Nat → Bool} {C : Nat → Nat → Nat} {Q Q' : Nat → Nat → Prop} {R : Wg} {a b : Nat} (hC : ∀ a b, 0 < C a b) (h : Bst O C Q R) (hQ : ∀ x y, Q' x y ↔ Q x y ∨ (x = a ∧ y = b)) (hlex : ∀ x y, Q x y → x < a ∨ (x = a ∧ y < b)) :
    Bst O C Q' (stepW (O a b) a b (C a b) R) := by
  unfold stepW
  cases ho : O a b
  · rw [if_neg (by simp)]
    rcases h with ⟨e, h⟩ | ⟨h1, h2, h3, h4⟩
    · refine .inl ⟨e, fun x y hxy => ?_⟩
      rcases (hQ x y).1 hxy with h5 | ⟨rfl, rfl⟩
      · exact h x y h5
      · exact ho
    · refine .inr ⟨(hQ _ _).2 (.inl h1), h2, h3, fun x y hxy hoxy => ?_⟩
      rcases (hQ x y).1 hxy with h5 | ⟨rfl, rfl⟩
      · exact h4 x y h5 hoxy
      · rw [ho] at hoxy; cases hoxy
  · by_cases hc : R.c = 0 ∨ C a b < R.c
    · rw [if_pos ⟨rfl, hc⟩]
      refine .inr ⟨(hQ _ _).2 (.inr ⟨rfl, rfl⟩), ho, rfl, fun x y hxy hoxy => ?_⟩
      rcases (hQ x y).1 hxy with h5 | ⟨rfl, rfl⟩
      · rcases h with ⟨e, h⟩ | ⟨h1, h2, h3, h4⟩
        · rw [h x y h5] at hoxy; cases hoxy
        · have := h4 x y h5 hoxy
          have h0 := hC R.a R.b
          have : C a b < R.c := by
            rcases hc with h6 | h6
            · omega
            · exact h6
          exact ⟨by show C a b ≤ C x y; omega, fun _ => by show C a b < C x y; omega⟩
      · exact ⟨Nat.le_refl _, fun k => by rcases k with k | ⟨_, k⟩ <;> exact absurd k (Nat.lt_irrefl _)⟩
    · rw [if_neg (fun k => hc k.2)]
      rcases h with ⟨e, h⟩ | ⟨h1, h2, h3, h4⟩
      · rw [e] at hc; exact absurd (Or.inl rfl) hc
      · refine .inr ⟨(hQ _ _).2 (.inl h1), h2, h3, fun x y hxy hoxy => ?_⟩
        rcases (hQ x y).1 hxy with h5 | ⟨rfl, rfl⟩
        · exact h4 x y h5 hoxy
        · refine ⟨by omega, fun k => ?_⟩
          have := hlex R.a R.b h1
          omega
theorem accB_bst {O : Nat → Nat → Bool} {C : Nat → Nat → Nat} {a n : Nat} {s : Wg} (hC : ∀ a b, 0 < C a b) (h : Bst O C (fun x y => x < y ∧ y < n ∧ x < a) s) : ∀ b, b ≤ n → Bst O C (fun x y => x < y ∧ y < n ∧ (x < a ∨ (x = a ∧ y < b))) (accB O C a s b)
  | 0, _ => by
    have e : (fun x y => x < y ∧ y < n ∧ (x < a ∨ (x = a ∧ y < 0))) = (fun x y => x < y ∧ y < n ∧ x < a) := by
      funext x y; simp
    rw [e]; exact h
  | b + 1, hb => by
    have ih := accB_bst hC h b (by omega)
    rw [accB]
    split
    · rename_i hab
      refine ih.step hC (fun x y => ?_) (fun x y k => k.2.2)
      constructor
      · rintro ⟨k1, k2, k3 | ⟨rfl, k3⟩⟩
        · exact .inl ⟨k1, k2, .inl k3⟩
        · by_cases e : y = b
          · exact .inr ⟨rfl, e⟩
          · exact .inl ⟨k1, k2, .inr ⟨rfl, by omega⟩⟩
      · rintro (⟨k1, k2, k3⟩ | ⟨rfl, rfl⟩)
        · exact ⟨k1, k2, by rcases k3 with k3 | ⟨k3, k4⟩; exact .inl k3; exact .inr ⟨k3, by omega⟩⟩
        · exact ⟨hab, by omega, .inr ⟨rfl, by omega⟩⟩
    · rename_i hab
      have e : (fun x y => x < y ∧ y < n ∧ (x < a ∨ (x = a ∧ y < b + 1))) = (fun x y => x < y ∧ y < n ∧ (x < a ∨ (x = a ∧ y < b))) := by
        funext x y
        refine propext ⟨?_, ?_⟩
        · rintro ⟨k1, k2, k3 | ⟨k3, k4⟩⟩
          · exact ⟨k1, k2, .inl k3⟩
          · exact ⟨k1, k2, .inr ⟨k3, by omega⟩⟩
        · rintro ⟨k1, k2, k3 | ⟨k3, k4⟩⟩
          · exact ⟨k1, k2, .inl k3⟩
          · exact ⟨k1, k2, .inr ⟨k3, by omega⟩⟩
      rw [e]; exact ih
theorem accA_bst {O : Nat → Nat → Bool} {C : Nat → Nat → Nat} {n : Nat} (hC : ∀ a b, 0 < C a b) : ∀ a, Bst O C (fun x y => x < y ∧ y < n ∧ x < a) (accA O C n a)
  | 0 => .inl ⟨rfl, fun x y k => by omega⟩
  | a + 1 => by
    have := accB_bst hC (accA_bst (O := O) (n := n) hC a) n (Nat.le_refl _)
    have e : (fun x y => x < y ∧ y < n ∧ (x < a ∨ (x = a ∧ y < n))) = (fun x y => x < y ∧ y < n ∧ x < a + 1) := by
      funext x y; refine propext ⟨fun k => ⟨k.1, k.2.1, by omega⟩, fun k => ⟨k.1, k.2.1, by omega⟩⟩
    rw [e] at this
    exact this
/-- What is weighed next, with so much fuel. -/
def nxF (n : Nat) : Nat → (Nat → Nat) → Wg
  | 0, _ => ⟨0, 0, 0⟩
  | d + 1, g => accA (opn g) (fun a b => 1 + max (nxF n d (wth g a b)).c (nxF n d (wth g b a)).c) n n
/-- How many pairs are open. -/
def ops (n : Nat) (g : Nat → Nat) : Nat := sumTo (fun a => sumTo (fun b => if a < b ∧ opn g a b = true then 1 else 0) n) n
theorem sumTo_up {φ ψ : Nat → Nat} : ∀ n, (∀ k, k < n → φ k ≤ ψ k) → sumTo φ n ≤ sumTo ψ n
  | 0, _ => Nat.le_refl _
  | n + 1, h => by
    rw [sumTo, sumTo]
    have := sumTo_up n (fun k hk => h k (by omega))
    have := h n (by omega)
    omega
theorem sumTo_less {φ ψ : Nat → Nat} {i : Nat} : ∀ n, i < n → (∀ k, k < n → φ k ≤ ψ k) → φ i < ψ i → sumTo φ n < sumTo ψ n
  | 0, h, _, _ => absurd h (Nat.not_lt_zero _)
  | n + 1, h, h1, h2 => by
    rw [sumTo, sumTo]
    have := h1 n (by omega)
    by_cases e : i = n
    · subst e
      have := sumTo_up i (fun k hk => h1 k (by omega))
      omega
    · have := sumTo_less n (by omega) (fun k hk => h1 k (by omega)) h2
      omega
theorem opn_less {g : Nat → Nat} {a b x y : Nat} (h : opn (wth g a b) x y = true) : opn g x y = true := by
  obtain ⟨h1, h2⟩ := opn_iff.1 h
  refine opn_iff.2 ⟨?_, ?_⟩
  · rw [Bool.eq_false_iff]; intro k; rw [wth_up k] at h1; cases h1
  · rw [Bool.eq_false_iff]; intro k; rw [wth_up k] at h2; cases h2
theorem ops_less {n : Nat} {g : Nat → Nat} {a b : Nat} (ha : a < n) (hb : b < n) (hab : a ≠ b) (ho : opn g a b = true) : ops n (wth g a b) < ops n g := by
  have hle : ∀ x y, (if x < y ∧ opn (wth g a b) x y = true then 1 else 0) ≤ (if x < y ∧ opn g x y = true then 1 else 0) := fun x y => by
    by_cases k : x < y ∧ opn (wth g a b) x y = true
    · rw [if_pos k, if_pos ⟨k.1, opn_less k.2⟩]; exact Nat.le_refl _
    · rw [if_neg k]; exact Nat.zero_le _
  have h0 : opn (wth g a b) a b = false := by
    rw [Bool.eq_false_iff]; intro k; have := (opn_iff.1 k).2; rw [wth_new] at this; cases this
  rcases Nat.lt_or_ge a b with h1 | h1
  · refine sumTo_less n ha (fun x _ => sumTo_up n fun y _ => hle x y) (sumTo_less n hb (fun y _ => hle a y) ?_)
    rw [if_neg (fun k => by rw [h0] at k; exact absurd k.2 (by decide)), if_pos ⟨h1, ho⟩]; decide
  · refine sumTo_less n hb (fun x _ => sumTo_up n fun y _ => hle x y) (sumTo_less n ha (fun y _ => hle b y) ?_)
    rw [if_neg (fun k => by rw [opn_comm, h0] at k; exact absurd k.2 (by decide)), if_pos ⟨by omega, by rw [opn_comm]; exact ho⟩]; decide
theorem ops_le {n : Nat} (h : n ≤ 5) (g : Nat → Nat) : ops n g ≤ 10 := by
  have h1 : ops n g ≤ sumTo (fun a => sumTo (fun b => if a < b then 1 else 0) n) n := sumTo_up n fun a _ => sumTo_up n fun b _ => by
    by_cases k : a < b
    · rw [if_pos k]; split <;> omega
    · rw [if_neg k, if_neg (fun k2 => k k2.1)]; exact Nat.le_refl _
  have h2 : ∀ m, m < 6 → sumTo (fun a => sumTo (fun b => if a < b then 1 else 0) m) m ≤ 10 := by decide
  exact Nat.le_trans h1 (h2 n (by omega))
theorem nxF_eq {n : Nat} : ∀ d d' (g : Nat → Nat), WOk n g → ops n g ≤ d → ops n g ≤ d' → nxF n d g = nxF n d' g
  | 0, 0, _, _, _, _ => rfl
  | 0, d' + 1, g, hg, h, _ => by
    have hz : ∀ a b, a < b → b < n → opn g a b = true → False := fun a b h1 h2 h3 => by
      have := ops_less (n := n) (by omega) h2 (by omega) h3; omega
    rw [nxF, nxF]
    rcases accA_bst (O := opn g) (C := fun a b => 1 + max (nxF n d' (wth g a b)).c (nxF n d' (wth g b a)).c) (n := n) (fun _ _ => by omega) n with ⟨e, _⟩ | ⟨h1, h2, _⟩
    · exact e.symm
    · exact (hz _ _ h1.1 h1.2.1 h2).elim
  | d + 1, 0, g, hg, _, h => by
    have hz : ∀ a b, a < b → b < n → opn g a b = true → False := fun a b h1 h2 h3 => by
      have := ops_less (n := n) (by omega) h2 (by omega) h3; omega
    rw [nxF, nxF]
    rcases accA_bst (O := opn g) (C := fun a b => 1 + max (nxF n d (wth g a b)).c (nxF n d (wth g b a)).c) (n := n) (fun _ _ => by omega) n with ⟨e, _⟩ | ⟨h1, h2, _⟩
    · exact e
    · exact (hz _ _ h1.1 h1.2.1 h2).elim
  | d + 1, d' + 1, g, hg, h, h' => by
    rw [nxF, nxF]
    refine accA_congr (fun a b h1 h2 h3 => ?_) n (Nat.le_refl _)
    have h4 : opn g b a = true := by rw [opn_comm]; exact h3
    have k1 := ops_less (n := n) (by omega) h2 (by omega) h3
    have k2 := ops_less (n := n) h2 (by omega) (by omega) h4
    rw [nxF_eq d d' _ (hg.wth (by omega) h2 (by omega) h3) (by omega) (by omega), nxF_eq d d' _ (hg.wth h2 (by omega) (by omega) h4) (by omega) (by omega)]
/-- What is weighed next. -/
def nx (n : Nat) (g : Nat → Nat) : Wg := nxF n 10 g
def cst (n : Nat) (g : Nat → Nat) : Nat := (nx n g).c
/-- What it costs to begin with a pair. -/
def beg (n : Nat) (g : Nat → Nat) (a b : Nat) : Nat := 1 + max (cst n (wth g a b)) (cst n (wth g b a))
theorem nx_eq {n : Nat} {g : Nat → Nat} (h : WOk n g) : nx n g = accA (opn g) (beg n g) n n := by
  have h0 := ops_le h.n5 g
  unfold nx
  rw [nxF_eq 10 11 g h h0 (by omega), nxF]
  rfl
theorem nx_bst {n : Nat} {g : Nat → Nat} (h : WOk n g) : Bst (opn g) (beg n g) (fun x y => x < y ∧ y < n) (nx n g) := by
  have := accA_bst (O := opn g) (C := beg n g) (n := n) (fun _ _ => by unfold beg; omega) n
  rw [← nx_eq h] at this
  have e : (fun x y => x < y ∧ y < n ∧ x < n) = (fun x y => x < y ∧ y < n) := by
    funext x y; exact propext ⟨fun k => ⟨k.1, k.2.1⟩, fun k => ⟨k.1, k.2, by omega⟩⟩
  rw [e] at this; exact this
theorem cst_zero {n : Nat} {g : Nat → Nat} (h : WOk n g) : cst n g = 0 ↔ Lin n g := by
  rcases nx_bst h with ⟨e, h1⟩ | ⟨h1, h2, h3, h4⟩
  · constructor
    · intro _ a b k1 k2; exact h1 a b ⟨k1, k2⟩
    · intro _; unfold cst; rw [e]
  · constructor
    · intro k; unfold cst at k; rw [h3] at k; unfold beg at k; omega
    · intro k; have := k _ _ h1.1 h1.2; rw [h2] at this; cases this
theorem cst_le {n : Nat} {g : Nat → Nat} (h : WOk n g) {a b : Nat} (hab : a < b) (hb : b < n) (ho : opn g a b = true) : cst n g ≤ beg n g a b := by
  rcases nx_bst h with ⟨e, h1⟩ | ⟨h1, h2, h3, h4⟩
  · unfold cst; rw [e]; exact Nat.zero_le _
  · exact (h4 a b ⟨hab, hb⟩ ho).1
theorem beg_comm (n : Nat) (g : Nat → Nat) (a b : Nat) : beg n g a b = beg n g b a := by unfold beg; rw [Nat.max_comm]
theorem cst_le' {n : Nat} {g : Nat → Nat} (h : WOk n g) {a b : Nat} (ha : a < n) (hb : b < n) (hab : a ≠ b) (ho : opn g a b = true) : cst n g ≤ beg n g a b := by
  rcases Nat.lt_or_ge a b with h1 | h1
  · exact cst_le h h1 hb ho
  · rw [beg_comm]; exact cst_le h (by omega) ha (by rw [opn_comm]; exact ho)
/-- The best pair, where some pair is open. -/
theorem nx_some {n : Nat} {g : Nat → Nat} (h : WOk n g) (hc : cst n g ≠ 0) : (nx n g).a < (nx n g).b ∧ (nx n g).b < n ∧ opn g (nx n g).a (nx n g).b = true ∧ cst n g = beg n g (nx n g).a (nx n g).b ∧
    ∀ a b, a < b → b < n → opn g a b = true → (a < (nx n g).a ∨ (a = (nx n g).a ∧ b < (nx n g).b)) → cst n g < beg n g a b := by
  rcases nx_bst h with ⟨e, h1⟩ | ⟨h1, h2, h3, h4⟩
  · exact absurd (by unfold cst; rw [e]) hc
  · exact ⟨h1.1, h1.2, h2, h3, fun a b k1 k2 k3 => (h4 a b ⟨k1, k2⟩ k3).2⟩
theorem nx_none {n : Nat} {g : Nat → Nat} (h : WOk n g) (hc : cst n g = 0) : nx n g = ⟨0, 0, 0⟩ := by
  rcases nx_bst h with ⟨e, h1⟩ | ⟨h1, h2, h3, h4⟩
  · exact e
  · unfold cst at hc; rw [h3] at hc; unfold beg at hc; omega
theorem cst_ops {n : Nat} : ∀ m (g : Nat → Nat), WOk n g → ops n g ≤ m → cst n g ≤ ops n g
  | m, g, h, hm => by
    by_cases hc : cst n g = 0
    · omega
    · obtain ⟨h1, h2, h3, h4, _⟩ := nx_some h hc
      have k1 := ops_less (n := n) (by omega) h2 (by omega) h3
      have h3' : opn g (nx n g).b (nx n g).a = true := by rw [opn_comm]; exact h3
      have k2 := ops_less (n := n) h2 (by omega) (by omega) h3'
      match m with
      | 0 => omega
      | m + 1 =>
        have e1 := cst_ops m _ (h.wth (by omega) h2 (by omega) h3) (by omega)
        have e2 := cst_ops m _ (h.wth h2 (by omega) (by omega) h3') (by omega)
        rw [h4]; unfold beg; omega
theorem cst_ten {n : Nat} {g : Nat → Nat} (h : WOk n g) : cst n g ≤ 10 := Nat.le_trans (cst_ops _ g h (Nat.le_refl _)) (ops_le h.n5 g)
/-- Rows are no more than two to the power of the cost. -/
theorem rows_le {n : Nat} : ∀ m (g : Nat → Nat), WOk n g → ops n g ≤ m → ways g n 0 ≤ pw (cst n g)
  | m, g, h, hm => by
    by_cases hc : cst n g = 0
    · rw [hc]
      exact ways_line h ((cst_zero h).1 hc) (pw n) 0 (by omega) (pw_pos n)
    · obtain ⟨h1, h2, h3, h4, _⟩ := nx_some h hc
      have k1 := ops_less (n := n) (by omega) h2 (by omega) h3
      have h3' : opn g (nx n g).b (nx n g).a = true := by rw [opn_comm]; exact h3
      have k2 := ops_less (n := n) h2 (by omega) (by omega) h3'
      match m with
      | 0 => omega
      | m + 1 =>
        have e1 := rows_le m _ (h.wth (by omega) h2 (by omega) h3) (by omega)
        have e2 := rows_le m _ (h.wth h2 (by omega) (by omega) h3') (by omega)
        rw [ways_two h (by omega) h2 (by omega) h3, h4]
        unfold beg
        rw [Nat.add_comm 1, pw_succ]
        have m1 : pw (cst n (wth g (nx n g).a (nx n g).b)) ≤ pw (max (cst n (wth g (nx n g).a (nx n g).b)) (cst n (wth g (nx n g).b (nx n g).a))) := Nat.pow_le_pow_right (by decide) (Nat.le_max_left _ _)
        have m2 : pw (cst n (wth g (nx n g).b (nx n g).a)) ≤ pw (max (cst n (wth g (nx n g).a (nx n g).b)) (cst n (wth g (nx n g).b (nx n g).a))) := Nat.pow_le_pow_right (by decide) (Nat.le_max_right _ _)
        omega
theorem rows_cst {n : Nat} {g : Nat → Nat} (h : WOk n g) : ways g n 0 ≤ pw (cst n g) := rows_le _ g h (Nat.le_refl _)
theorem rows_one {n : Nat} {g : Nat → Nat} (h : WOk n g) : cst n g = 0 ↔ ways g n 0 = 1 := by
  constructor
  · intro hc
    have := rows_cst h; rw [hc] at this
    have h2 := h.some
    have h3 : pw 0 = 1 := rfl
    omega
  · intro hw
    by_cases hc : cst n g = 0
    · exact hc
    · exfalso
      obtain ⟨h1, h2, h3, _⟩ := nx_some h hc
      have h3' : opn g (nx n g).b (nx n g).a = true := by rw [opn_comm]; exact h3
      have e := ways_two h (by omega) h2 (by omega) h3
      have k1 := (h.wth (by omega) h2 (by omega) h3).some
      have k2 := (h.wth h2 (by omega) (by omega) h3').some
      omega
/-- Can it be told with so many weighings? -/
theorem told_iff {n k : Nat} {g : Nat → Nat} (h : WOk n g) : cst n g ≤ k + 1 ↔ Lin n g ∨ ∃ a b, a < b ∧ b < n ∧ opn g a b = true ∧ cst n (wth g a b) ≤ k ∧ cst n (wth g b a) ≤ k := by
  constructor
  · intro hk
    by_cases hc : cst n g = 0
    · exact .inl ((cst_zero h).1 hc)
    · obtain ⟨h1, h2, h3, h4, _⟩ := nx_some h hc
      rw [h4] at hk
      unfold beg at hk
      exact .inr ⟨_, _, h1, h2, h3, by omega, by omega⟩
  · rintro (hl | ⟨a, b, h1, h2, h3, h4, h5⟩)
    · rw [(cst_zero h).2 hl]; omega
    · have := cst_le h h1 h2 h3
      unfold beg at this
      omega
end Go.Proofs.Ytipgojoiakbaiaa
