/-
  Rows that say an order: how few are enough. Chains, an antichain and two points more, a point more. Plain facts on finite strict orders: no Go text here. No condition.
-/
import Derived.Test.YtinblbkglkhjmaaDoorOrdered
namespace Go.Proofs.YtinblbkglkhjmaaDoor

/-- Numbers of places that keep to an order, on some points. -/
structure LxS (S : Nat → Prop) (lt : Nat → Nat → Bool) (r : Nat → Nat) : Prop where
  inj : ∀ p q, S p → S q → r p = r q → p = q
  up : ∀ p q, S p → S q → lt p q = true → r p < r q
/-- k rows that say it all. -/
def RzS (S : Nat → Prop) (lt : Nat → Nat → Bool) (k : Nat) : Prop :=
  ∃ R : Nat → Nat → Nat, (∀ i, i < k → LxS S lt (R i)) ∧ ∀ p q, S p → S q → p ≠ q → lt p q = false → ∃ i, i < k ∧ R i q < R i p
theorem RzS.sub {S T : Nat → Prop} {lt : Nat → Nat → Bool} {k : Nat} (h : RzS T lt k) (hs : ∀ p, S p → T p) : RzS S lt k := by
  obtain ⟨R, h1, h2⟩ := h
  exact ⟨R, fun i hi => ⟨fun p q hp hq => (h1 i hi).inj p q (hs p hp) (hs q hq), fun p q hp hq => (h1 i hi).up p q (hs p hp) (hs q hq)⟩, fun p q hp hq => h2 p q (hs p hp) (hs q hq)⟩
theorem RzS.more {S : Nat → Prop} {lt : Nat → Nat → Bool} {k m : Nat} (h : RzS S lt k) (hk : 0 < k) (hm : k ≤ m) : RzS S lt m := by
  obtain ⟨R, h1, h2⟩ := h
  refine ⟨fun i => if i < k then R i else R 0, fun i _ => ?_, fun p q hp hq hne hl => ?_⟩
  · by_cases e : i < k
    · simp only [if_pos e]; exact h1 i e
    · simp only [if_neg e]; exact h1 0 hk
  · obtain ⟨i, hi, h⟩ := h2 p q hp hq hne hl
    exact ⟨i, by omega, by simp only [if_pos hi]; exact h⟩
/-- Two numbers in one. -/
theorem lex_lt {a b B x y : Nat} (hx : x < B) (h : a < b ∨ (a = b ∧ x < y)) : a * B + x < b * B + y := by
  rcases h with h | ⟨rfl, h⟩
  · have : (a + 1) * B ≤ b * B := Nat.mul_le_mul_right B h
    rw [Nat.add_mul, Nat.one_mul] at this; omega
  · omega
theorem lex_inj {a b B x y : Nat} (hx : x < B) (hy : y < B) (h : a * B + x = b * B + y) : a = b ∧ x = y := by
  rcases Nat.lt_trichotomy a b with h1 | h1 | h1
  · have := lex_lt (y := y) hx (.inl h1); omega
  · subst h1; omega
  · have := lex_lt (y := x) hy (.inl h1); omega
/-- How many points below b are so. -/
def nmB (P : Nat → Bool) : Nat → Nat
  | 0 => 0
  | k + 1 => nmB P k + (if P k = true then 1 else 0)
theorem nmB_le {P Q : Nat → Bool} : ∀ n, (∀ k, k < n → P k = true → Q k = true) → nmB P n ≤ nmB Q n
  | 0, _ => Nat.le_refl _
  | n + 1, h => by
    have ih := nmB_le n fun k hk => h k (by omega)
    rw [nmB, nmB]
    by_cases e : P n = true
    · rw [if_pos e, if_pos (h n (by omega) e)]; omega
    · rw [if_neg e]; split <;> omega
theorem nmB_lt {P Q : Nat → Bool} {c : Nat} : ∀ n, (∀ k, k < n → P k = true → Q k = true) → c < n → P c = false → Q c = true → nmB P n < nmB Q n
  | 0, _, hc, _, _ => absurd hc (Nat.not_lt_zero _)
  | n + 1, h, hc, h1, h2 => by
    rw [nmB, nmB]
    by_cases e : c = n
    · subst e
      have := nmB_le c fun k hk => h k (by omega)
      rw [if_pos h2, if_neg (by rw [h1]; decide)]; omega
    · have := nmB_lt n (fun k hk => h k (by omega)) (by omega) h1 h2
      by_cases e2 : P n = true
      · rw [if_pos e2, if_pos (h n (by omega) e2)]; omega
      · rw [if_neg e2]; split <;> omega
theorem nmB_bd (P : Nat → Bool) : ∀ n, nmB P n ≤ n
  | 0 => Nat.le_refl _
  | n + 1 => by have := nmB_bd P n; rw [nmB]; split <;> omega

/-- A strict order of n points. -/
structure Srd (n : Nat) (lt : Nat → Nat → Bool) : Prop where
  irr : ∀ p, lt p p = false
  tr : ∀ p q r, lt p q = true → lt q r = true → lt p r = true
  inn : ∀ p q, lt p q = true → p < n ∧ q < n
section
variable {n : Nat} {lt : Nat → Nat → Bool}
theorem Srd.asy (h : Srd n lt) {p q : Nat} (h1 : lt p q = true) : lt q p = false := by
  rw [Bool.eq_false_iff]; intro h2
  have := h.tr p q p h1 h2; rw [h.irr] at this; cases this
/-- Some row. -/
def r0 (lt : Nat → Nat → Bool) (n p : Nat) : Nat := nmB (fun q => lt q p) n * n + p
theorem Srd.r0_up (h : Srd n lt) {p q : Nat} (hl : lt p q = true) : r0 lt n p < r0 lt n q := by
  obtain ⟨hp, hq⟩ := h.inn p q hl
  exact lex_lt hp (.inl (nmB_lt n (fun k _ hk => h.tr k p q hk hl) hp (h.irr p) hl))
theorem r0_bd {p : Nat} (hp : p < n) : r0 lt n p < n * n + n := by
  unfold r0
  have := Nat.mul_le_mul_right n (nmB_bd (fun q => lt q p) n)
  omega
theorem r0_inj {p q : Nat} (hp : p < n) (hq : q < n) (h : r0 lt n p = r0 lt n q) : p = q := (lex_inj hp hq h).2
/-- Of chains that have all points each gives a row. -/
theorem Srd.chains (h : Srd n lt) {w : Nat} (ch : Nat → Nat) (hw : ∀ p, p < n → ch p < w) (hc : ∀ p q, p < n → q < n → p ≠ q → ch p = ch q → lt p q = true ∨ lt q p = true) : RzS (· < n) lt w := by
  obtain ⟨key, hkey⟩ : ∃ key : Nat → Nat → Nat, key = fun i p => nmB (fun c => decide (ch c = i) && (decide (c = p) || lt c p)) n := ⟨_, rfl⟩
  have mem : ∀ i p c, (decide (ch c = i) && (decide (c = p) || lt c p)) = true ↔ ch c = i ∧ (c = p ∨ lt c p = true) := fun i p c => by simp
  refine ⟨fun i p => key i p * (n * n + n) + r0 lt n p, fun i _ => ⟨fun p q hp hq e => ?_, fun p q hp hq hl => ?_⟩, fun p q hp hq hne hl => ⟨ch p, hw p hp, ?_⟩⟩
  · exact r0_inj hp hq (lex_inj (r0_bd hp) (r0_bd hq) e).2
  · have h1 : key i p ≤ key i q := by
      rw [hkey]
      refine nmB_le n fun c _ hcc => ?_
      obtain ⟨e, h2⟩ := (mem i p c).1 hcc
      refine (mem i q c).2 ⟨e, .inr ?_⟩
      rcases h2 with rfl | h2
      · exact hl
      · exact h.tr c p q h2 hl
    refine lex_lt (r0_bd hp) ?_
    rcases Nat.lt_or_ge (key i p) (key i q) with h2 | h2
    · exact .inl h2
    · exact .inr ⟨by omega, h.r0_up hl⟩
  · refine lex_lt (r0_bd hq) (.inl ?_)
    rw [hkey]
    refine nmB_lt (c := p) n (fun c hcn hcc => ?_) hp ?_ ((mem _ p p).2 ⟨rfl, .inl rfl⟩)
    · obtain ⟨e, h2⟩ := (mem _ q c).1 hcc
      refine (mem _ p c).2 ⟨e, ?_⟩
      by_cases ecp : c = p
      · exact .inl ecp
      · rcases hc c p hcn hp ecp e with h3 | h3
        · exact .inr h3
        · exfalso
          have : lt p q = true := by
            rcases h2 with rfl | h2
            · exact h3
            · exact h.tr p c q h3 h2
          rw [hl] at this; cases this
    · rw [Bool.eq_false_iff]; intro h2
      rcases ((mem _ q p).1 h2).2 with h3 | h3
      · exact hne h3
      · rw [hl] at h3; cases h3
/-- All rows together are enough. -/
theorem Srd.all (h : Srd n lt) : RzS (· < n) lt n := h.chains (fun p => p) (fun _ hp => hp) fun _ _ _ _ hne e => absurd e hne

/-- Where a point of the antichain stands in the first row; and whether it stands right to a point that is above some of them, or below. -/
def kA (b1 b2 : Bool) : Nat := if b1 = true then (if b2 = true then 8 else 4) else (if b2 = true then 12 else 16)
def okF (d : Bool) (v1 v2 : Nat) (b : Bool) (k : Nat) : Bool :=
  if b = true then (if d = true then decide (k < v1 ∧ 20 - k < v2) else decide (v1 < k ∧ v2 < 20 - k)) else decide ((k < v1 ∧ v2 < 20 - k) ∨ (v1 < k ∧ 20 - k < v2))
/-- What a point has on its side. -/
def sdF (lt : Nat → Nat → Bool) (d : Bool) (u a : Nat) : Bool := if d = true then lt a u else lt u a
def ofF (lt : Nat → Nat → Bool) (d : Bool) (u a : Nat) : Bool := if d = true then lt u a else lt a u
theorem okF_says {d : Bool} {u a v1 v2 k : Nat} (ho : ofF lt d u a = false) (h : okF d v1 v2 (sdF lt d u a) k = true) :
    (lt a u = true → k < v1 ∧ 20 - k < v2) ∧ (lt u a = true → v1 < k ∧ v2 < 20 - k) ∧ (lt a u = false → lt u a = false → (k < v1 ∧ v2 < 20 - k) ∨ (v1 < k ∧ 20 - k < v2)) := by
  unfold ofF at ho
  unfold okF sdF at h
  cases d
  · rw [if_neg (by decide)] at ho
    simp only [Bool.false_eq_true, if_false] at h
    rw [ho]
    cases hl : lt u a
    · rw [hl] at h
      simp only [Bool.false_eq_true, if_false, decide_eq_true_eq] at h
      exact ⟨(fun e => by cases e), (fun e => by cases e), fun _ _ => h⟩
    · rw [hl] at h
      simp only [if_true, decide_eq_true_eq] at h
      exact ⟨(fun e => by cases e), fun _ => h, (fun _ e => by cases e)⟩
  · rw [if_pos rfl] at ho
    simp only [if_true] at h
    rw [ho]
    cases hl : lt a u
    · rw [hl] at h
      simp only [Bool.false_eq_true, if_false, decide_eq_true_eq] at h
      exact ⟨(fun e => by cases e), (fun e => by cases e), fun _ _ => h⟩
    · rw [hl] at h
      simp only [if_true, decide_eq_true_eq] at h
      exact ⟨fun _ => h, (fun e => by cases e), (fun e => by cases e)⟩
theorem Srd.two_key (h : Srd n lt) {A : Nat → Bool} {x y : Nat} (hxy : x ≠ y) (hA : ∀ a b, A a = true → A b = true → lt a b = false) (hAn : ∀ a, A a = true → a < n) (hx : A x = false) (hy : A y = false) (hxn : x ≤ n + 1) (hyn : y ≤ n + 1)
    (dx dy : Bool) (ox : ∀ a, A a = true → ofF lt dx x a = false) (oy : ∀ a, A a = true → ofF lt dy y a = false) (x1 y1 x2 y2 : Nat)
    (hF : ∀ a, A a = true → okF dx x1 x2 (sdF lt dx x a) (kA (sdF lt dx x a) (sdF lt dy y a)) = true ∧ okF dy y1 y2 (sdF lt dy y a) (kA (sdF lt dx x a) (sdF lt dy y a)) = true)
    (Hxy : (lt x y = true → x1 < y1 ∧ x2 < y2) ∧ (lt y x = true → y1 < x1 ∧ y2 < x2) ∧ (lt x y = false → lt y x = false → (x1 < y1 ∧ y2 < x2) ∨ (y1 < x1 ∧ x2 < y2))) :
    RzS (fun p => A p = true ∨ p = x ∨ p = y) lt 2 := by
  obtain ⟨k1, hk1⟩ : ∃ k1 : Nat → Nat, ∀ a, k1 a = kA (sdF lt dx x a) (sdF lt dy y a) := ⟨_, fun _ => rfl⟩
  obtain ⟨k2, hk2⟩ : ∃ k2 : Nat → Nat, ∀ a, k2 a = 20 - k1 a := ⟨_, fun _ => rfl⟩
  have Hx : ∀ a, A a = true → (lt a x = true → k1 a < x1 ∧ k2 a < x2) ∧ (lt x a = true → x1 < k1 a ∧ x2 < k2 a) ∧ (lt a x = false → lt x a = false → (k1 a < x1 ∧ x2 < k2 a) ∨ (x1 < k1 a ∧ k2 a < x2)) := fun a ha => by
    rw [hk2, hk1]; exact okF_says (ox a ha) (hF a ha).1
  have Hy : ∀ a, A a = true → (lt a y = true → k1 a < y1 ∧ k2 a < y2) ∧ (lt y a = true → y1 < k1 a ∧ y2 < k2 a) ∧ (lt a y = false → lt y a = false → (k1 a < y1 ∧ y2 < k2 a) ∨ (y1 < k1 a ∧ k2 a < y2)) := fun a ha => by
    rw [hk2, hk1]; exact okF_says (oy a ha) (hF a ha).2
  have bd : ∀ a, k1 a ≤ 16 ∧ 4 ≤ k1 a := fun a => by rw [hk1 a]; unfold kA; split <;> split <;> omega
  clear hF ox oy hk1
  obtain ⟨K1, hK1⟩ : ∃ K1 : Nat → Nat, K1 = fun p => if p = x then x1 else if p = y then y1 else k1 p := ⟨_, rfl⟩
  obtain ⟨K2, hK2⟩ : ∃ K2 : Nat → Nat, K2 = fun p => if p = x then x2 else if p = y then y2 else k2 p := ⟨_, rfl⟩
  have Kx1 : K1 x = x1 := by rw [hK1]; simp
  have Ky1 : K1 y = y1 := by rw [hK1]; simp [hxy.symm]
  have Kx2 : K2 x = x2 := by rw [hK2]; simp
  have Ky2 : K2 y = y2 := by rw [hK2]; simp [hxy.symm]
  have hax : ∀ a, A a = true → a ≠ x := fun a ha e => by rw [e, hx] at ha; cases ha
  have hay : ∀ a, A a = true → a ≠ y := fun a ha e => by rw [e, hy] at ha; cases ha
  have Ka1 : ∀ a, A a = true → K1 a = k1 a := fun a ha => by rw [hK1]; simp [hax a ha, hay a ha]
  have Ka2 : ∀ a, A a = true → K2 a = k2 a := fun a ha => by rw [hK2]; simp [hax a ha, hay a ha]
  clear hK1 hK2
  -- what the keys say of two points
  have say : ∀ p q, (A p = true ∨ p = x ∨ p = y) → (A q = true ∨ q = x ∨ q = y) → p ≠ q →
      (A p = true ∧ A q = true ∧ (K1 p = K1 q ∧ K2 p = K2 q ∨ K1 p < K1 q ∧ K2 q < K2 p ∨ K1 q < K1 p ∧ K2 p < K2 q)) ∨
      ((lt p q = true → K1 p < K1 q ∧ K2 p < K2 q) ∧ (lt q p = true → K1 q < K1 p ∧ K2 q < K2 p) ∧ (lt p q = false → lt q p = false → (K1 p < K1 q ∧ K2 q < K2 p) ∨ (K1 q < K1 p ∧ K2 p < K2 q))) := by
    intro p q hp hq hne
    rcases hp with hp | rfl | rfl
    · rcases hq with hq | rfl | rfl
      · left
        refine ⟨hp, hq, ?_⟩
        rw [Ka1 p hp, Ka1 q hq, Ka2 p hp, Ka2 q hq, hk2 p, hk2 q]
        have := bd p; have := bd q
        omega
      · right
        rw [Ka1 p hp, Ka2 p hp, Kx1, Kx2]
        exact Hx p hp
      · right
        rw [Ka1 p hp, Ka2 p hp, Ky1, Ky2]
        exact Hy p hp
    · rcases hq with hq | rfl | rfl
      · right
        rw [Ka1 q hq, Ka2 q hq, Kx1, Kx2]
        obtain ⟨h1, h2, h3⟩ := Hx q hq
        exact ⟨h2, h1, fun a b => (h3 b a).symm⟩
      · exact absurd rfl hne
      · right
        rw [Kx1, Kx2, Ky1, Ky2]; exact Hxy
    · rcases hq with hq | rfl | rfl
      · right
        rw [Ka1 q hq, Ka2 q hq, Ky1, Ky2]
        obtain ⟨h1, h2, h3⟩ := Hy q hq
        exact ⟨h2, h1, fun a b => (h3 b a).symm⟩
      · right
        rw [Kx1, Kx2, Ky1, Ky2]
        obtain ⟨h1, h2, h3⟩ := Hxy
        exact ⟨h2, h1, fun a b => (h3 b a).symm⟩
      · exact absurd rfl hne
  have hlt : ∀ p, (A p = true ∨ p = x ∨ p = y) → p < n + 2 := fun p hp => by
    rcases hp with hp | rfl | rfl
    · have := hAn p hp; omega
    · omega
    · omega
  refine ⟨fun i p => if i = 0 then K1 p * (n + 2) + p else K2 p * (n + 2) + (n + 1 - p), fun i _ => ?_, fun p q hp hq hne hl => ?_⟩
  · by_cases e : i = 0
    · subst e
      simp only [if_pos]
      refine ⟨fun p q hp hq he => (lex_inj (hlt p hp) (hlt q hq) he).2, fun p q hp hq hl => ?_⟩
      have hne : p ≠ q := fun e => by rw [e, h.irr] at hl; cases hl
      rcases say p q hp hq hne with ⟨h1, h2, _⟩ | ⟨h1, _, _⟩
      · rw [hA p q h1 h2] at hl; cases hl
      · exact lex_lt (hlt p hp) (.inl (h1 hl).1)
    · simp only [if_neg e]
      refine ⟨fun p q hp hq he => ?_, fun p q hp hq hl => ?_⟩
      · have h1 := hlt p hp; have h2 := hlt q hq
        have := (lex_inj (show n + 1 - p < n + 2 by omega) (show n + 1 - q < n + 2 by omega) he).2
        omega
      · have hne : p ≠ q := fun e => by rw [e, h.irr] at hl; cases hl
        rcases say p q hp hq hne with ⟨h1, h2, _⟩ | ⟨h1, _, _⟩
        · rw [hA p q h1 h2] at hl; cases hl
        · exact lex_lt (show n + 1 - p < n + 2 by omega) (.inl (h1 hl).2)
  · have b1 := hlt p hp; have b2 := hlt q hq
    have z1 : (K1 q < K1 p ∨ (K1 q = K1 p ∧ q < p)) → ∃ i, i < 2 ∧ (if i = 0 then K1 q * (n + 2) + q else K2 q * (n + 2) + (n + 1 - q)) < (if i = 0 then K1 p * (n + 2) + p else K2 p * (n + 2) + (n + 1 - p)) := fun hz =>
      ⟨0, by decide, by rw [if_pos rfl, if_pos rfl]; exact lex_lt b2 hz⟩
    have z2 : (K2 q < K2 p ∨ (K2 q = K2 p ∧ p < q)) → ∃ i, i < 2 ∧ (if i = 0 then K1 q * (n + 2) + q else K2 q * (n + 2) + (n + 1 - q)) < (if i = 0 then K1 p * (n + 2) + p else K2 p * (n + 2) + (n + 1 - p)) := fun hz =>
      ⟨1, by decide, by rw [if_neg (by decide), if_neg (by decide)]; exact lex_lt (by omega) (hz.imp id fun h3 => ⟨h3.1, by omega⟩)⟩
    rcases say p q hp hq hne with ⟨_, _, h3 | h3 | h3⟩ | ⟨_, h2, h3⟩
    · rcases Nat.lt_or_gt_of_ne hne with h4 | h4
      · exact z2 (.inr ⟨h3.2.symm, h4⟩)
      · exact z1 (.inr ⟨h3.1.symm, h4⟩)
    · exact z2 (.inl h3.2)
    · exact z1 (.inl h3.1)
    · cases hqp : lt q p
      · rcases h3 hl hqp with h4 | h4
        · exact z2 (.inl h4.2)
        · exact z1 (.inl h4.1)
      · exact z1 (.inl (h2 hqp).1)
/-- An antichain and two points more: two rows. -/
theorem Srd.two (h : Srd n lt) (A : Nat → Bool) (x y : Nat) (hxy : x ≠ y) (hA : ∀ a b, A a = true → A b = true → lt a b = false) (hAn : ∀ a, A a = true → a < n) (hx : A x = false) (hy : A y = false) (hxn : x ≤ n + 1) (hyn : y ≤ n + 1) :
    RzS (fun p => A p = true ∨ p = x ∨ p = y) lt 2 := by
  have side : ∀ u, ∃ d, ∀ a, A a = true → ofF lt d u a = false := fun u => by
    rcases Classical.em (∃ a, A a = true ∧ lt u a = true) with ⟨a, ha, hl⟩ | hno
    · refine ⟨false, fun b hb => ?_⟩
      show lt b u = false
      rw [Bool.eq_false_iff]; intro hl2
      have := h.tr b u a hl2 hl
      rw [hA b a hb ha] at this; cases this
    · refine ⟨true, fun a ha => ?_⟩
      show lt u a = false
      rw [Bool.eq_false_iff]; exact fun hl => hno ⟨a, ha, hl⟩
  obtain ⟨dx, ox⟩ := side x
  obtain ⟨dy, oy⟩ := side y
  have go := h.two_key hxy hA hAn hx hy hxn hyn dx dy ox oy
  have all4 : ∀ (P : Bool → Bool → Bool), (∀ a, A a = true → P (sdF lt dx x a) (sdF lt dy y a) = true) → ∀ (Q : Bool → Bool → Bool), (∀ b1 b2, P b1 b2 = true → Q b1 b2 = true) → ∀ a, A a = true → Q (sdF lt dx x a) (sdF lt dy y a) = true := fun P hP Q hQ a ha => hQ _ _ (hP a ha)
  have fin : ∀ (P : Bool → Bool → Bool) (x1 y1 x2 y2 : Nat), (∀ a, A a = true → P (sdF lt dx x a) (sdF lt dy y a) = true) → (∀ b1 b2, P b1 b2 = true → (okF dx x1 x2 b1 (kA b1 b2) && okF dy y1 y2 b2 (kA b1 b2)) = true) →
      ((lt x y = true → x1 < y1 ∧ x2 < y2) ∧ (lt y x = true → y1 < x1 ∧ y2 < x2) ∧ (lt x y = false → lt y x = false → (x1 < y1 ∧ y2 < x2) ∨ (y1 < x1 ∧ x2 < y2))) → RzS (fun p => A p = true ∨ p = x ∨ p = y) lt 2 :=
    fun P x1 y1 x2 y2 hP hQ hz => go x1 y1 x2 y2 (fun a ha => by
      have := all4 P hP _ hQ a ha
      rw [Bool.and_eq_true] at this; exact this) hz
  clear go all4
  have nn : ∀ {p q : Nat}, ¬ lt p q = true → lt p q = false := fun hh => by rw [Bool.eq_false_iff]; exact hh
  cases h1 : lt x y
  · cases h2 : lt y x
    · -- apart
      rw [h1, h2] at fin
      have z : ∀ {x1 y1 x2 y2 : Nat}, ((x1 < y1 ∧ y2 < x2) ∨ (y1 < x1 ∧ x2 < y2)) → ((false = true → x1 < y1 ∧ x2 < y2) ∧ (false = true → y1 < x1 ∧ y2 < x2) ∧ (false = false → false = false → (x1 < y1 ∧ y2 < x2) ∨ (y1 < x1 ∧ x2 < y2))) := fun hz => ⟨(fun e => by cases e), (fun e => by cases e), fun _ _ => hz⟩
      cases dx <;> cases dy
      · exact fin (fun _ _ => true) 2 6 10 6 (fun _ _ => rfl) (by decide) (z (by decide))
      · refine fin (fun b1 b2 => !(b1 && b2)) 2 14 11 10 (fun a ha => ?_) (by decide) (z (by decide))
        show (!(lt x a && lt a y)) = true
        cases e1 : lt x a <;> cases e2 : lt a y <;> try rfl
        have := h.tr x a y e1 e2; rw [h1] at this; cases this
      · refine fin (fun b1 b2 => !(b1 && b2)) 5 6 17 6 (fun a ha => ?_) (by decide) (z (by decide))
        show (!(lt a x && lt y a)) = true
        cases e1 : lt a x <;> cases e2 : lt y a <;> try rfl
        have := h.tr y a x e2 e1; rw [h2] at this; cases this
      · exact fin (fun _ _ => true) 10 14 17 14 (fun _ _ => rfl) (by decide) (z (by decide))
    · -- y below x
      rw [h1, h2] at fin
      have z : ∀ {x1 y1 x2 y2 : Nat}, (y1 < x1 ∧ y2 < x2) → ((false = true → x1 < y1 ∧ x2 < y2) ∧ (true = true → y1 < x1 ∧ y2 < x2) ∧ (false = false → true = false → (x1 < y1 ∧ y2 < x2) ∨ (y1 < x1 ∧ x2 < y2))) := fun hz => ⟨(fun e => by cases e), fun _ => hz, (fun _ e => by cases e)⟩
      cases dx <;> cases dy
      · refine fin (fun b1 b2 => !b1 || b2) 2 1 10 6 (fun a ha => ?_) (by decide) (z (by decide))
        show (!lt x a || lt y a) = true
        cases e1 : lt x a
        · rfl
        · rw [h.tr y x a h2 e1]; rfl
      · refine fin (fun b1 b2 => !b1 && !b2) 2 1 10 9 (fun a ha => ?_) (by decide) (z (by decide))
        show (!lt x a && !lt a y) = true
        have s1 : lt a x = false := ox a ha
        have s2 : lt y a = false := oy a ha
        rw [nn (p := a) (q := y) (fun hh => by have := h.tr a y x hh h2; rw [s1] at this; cases this), nn (p := x) (q := a) (fun hh => by have := h.tr y x a h2 hh; rw [s2] at this; cases this)]; rfl
      · exact fin (fun _ _ => true) 10 6 17 6 (fun _ _ => rfl) (by decide) (z (by decide))
      · refine fin (fun b1 b2 => !b2 || b1) 10 9 17 14 (fun a ha => ?_) (by decide) (z (by decide))
        show (!lt a y || lt a x) = true
        cases e1 : lt a y
        · rfl
        · rw [h.tr a y x e1 h2]; rfl
  · have h2 : lt y x = false := h.asy h1
    rw [h1, h2] at fin
    have z : ∀ {x1 y1 x2 y2 : Nat}, (x1 < y1 ∧ x2 < y2) → ((true = true → x1 < y1 ∧ x2 < y2) ∧ (false = true → y1 < x1 ∧ y2 < x2) ∧ (true = false → false = false → (x1 < y1 ∧ y2 < x2) ∨ (y1 < x1 ∧ x2 < y2))) := fun hz => ⟨fun _ => hz, (fun e => by cases e), (fun e => by cases e)⟩
    cases dx <;> cases dy
    · refine fin (fun b1 b2 => !b2 || b1) 2 6 10 11 (fun a ha => ?_) (by decide) (z (by decide))
      show (!lt y a || lt x a) = true
      cases e1 : lt y a
      · rfl
      · rw [h.tr x y a h1 e1]; rfl
    · exact fin (fun _ _ => true) 2 14 10 14 (fun _ _ => rfl) (by decide) (z (by decide))
    · refine fin (fun b1 b2 => !b1 && !b2) 5 6 17 18 (fun a ha => ?_) (by decide) (z (by decide))
      show (!lt a x && !lt y a) = true
      have s1 : lt x a = false := ox a ha
      have s2 : lt a y = false := oy a ha
      rw [nn (p := a) (q := x) (fun hh => by have := h.tr a x y hh h1; rw [s2] at this; cases this), nn (p := y) (q := a) (fun hh => by have := h.tr x y a h1 hh; rw [s1] at this; cases this)]; rfl
    · refine fin (fun b1 b2 => !b1 || b2) 10 14 17 18 (fun a ha => ?_) (by decide) (z (by decide))
      show (!lt a x || lt a y) = true
      cases e1 : lt a x
      · rfl
      · rw [h.tr a x y e1 h1]; rfl
/-- A bound behind all that go ahead. -/
theorem bound_of (S : Nat → Prop) (P : Nat → Bool) (r : Nat → Nat) : ∀ b, ∃ M, (∀ d, d < b → S d → P d = true → r d < M) ∧ (M = 0 ∨ ∃ d, d < b ∧ S d ∧ P d = true ∧ M = r d + 1)
  | 0 => ⟨0, fun d hd => absurd hd (Nat.not_lt_zero _), .inl rfl⟩
  | b + 1 => by
    obtain ⟨M, h1, h2⟩ := bound_of S P r b
    rcases Classical.em (S b ∧ P b = true ∧ M ≤ r b) with ⟨hs, hp, hm⟩ | hno
    · refine ⟨r b + 1, fun d hd hS hP => ?_, .inr ⟨b, by omega, hs, hp, rfl⟩⟩
      by_cases e : d = b
      · subst e; omega
      · have := h1 d (by omega) hS hP; omega
    · refine ⟨M, fun d hd hS hP => ?_, h2.imp id fun ⟨d, hd, h3⟩ => ⟨d, by omega, h3⟩⟩
      by_cases e : d = b
      · subst e
        rcases Nat.lt_or_ge (r d) M with h3 | h3
        · exact h3
        · exact absurd ⟨hS, hP, h3⟩ hno
      · exact h1 d (by omega) hS hP
/-- A point more: a row more. -/
theorem Srd.point (h : Srd n lt) {S : Nat → Prop} {k z : Nat} (hS : ∀ p, S p → p < n + 2) (hz : ¬ S z) (hk : 0 < k) (hR : RzS S lt k) : RzS (fun p => S p ∨ p = z) lt (k + 1) := by
  obtain ⟨R, h1, h2⟩ := hR
  have hne : ∀ p, S p → p ≠ z := fun p hp e => hz (e ▸ hp)
  -- the point put in
  have ins : ∀ i, ∃ r : Nat → Nat, i < k → (LxS (fun p => S p ∨ p = z) lt r ∧ ∀ p q, S p → S q → R i p < R i q → r p < r q) := fun i => by
    obtain ⟨M, m1, m2⟩ := bound_of S (fun d => lt d z) (R i) (n + 2)
    refine ⟨fun p => if p = z then 2 * M else 2 * R i p + 1, fun hi => ⟨⟨fun p q hp hq e => ?_, fun p q hp hq hl => ?_⟩, fun p q hp hq hl => ?_⟩⟩
    · have L := h1 i hi
      rcases hp with hp | rfl
      · rcases hq with hq | rfl
        · simp only [if_neg (hne p hp), if_neg (hne q hq)] at e
          exact L.inj p q hp hq (by omega)
        · simp only [if_neg (hne p hp), if_true] at e; omega
      · rcases hq with hq | rfl
        · simp only [if_neg (hne q hq), if_true] at e; omega
        · rfl
    · have L := h1 i hi
      rcases hp with hp | rfl
      · rcases hq with hq | rfl
        · simp only [if_neg (hne p hp), if_neg (hne q hq)]
          have := L.up p q hp hq hl; omega
        · simp only [if_neg (hne p hp), if_true]
          have := m1 p (hS p hp) hp hl; omega
      · rcases hq with hq | rfl
        · simp only [if_neg (hne q hq), if_true]
          rcases m2 with rfl | ⟨d, _, hd, hdz, rfl⟩
          · omega
          · have := L.up d q hd hq (h.tr d p q hdz hl); omega
        · rw [h.irr] at hl; cases hl
    · simp only [if_neg (hne p hp), if_neg (hne q hq)]; omega
  obtain ⟨I, hI⟩ := Classical.axiomOfChoice ins
  obtain ⟨B, b1, _⟩ := bound_of S (fun _ => true) (R 0) (n + 2)
  have hB : ∀ p, S p → R 0 p < B := fun p hp => b1 p (hS p hp) hp rfl
  have L := h1 0 hk
  obtain ⟨lo, hlo⟩ : ∃ lo : Nat → Nat, lo = fun p => if p = z then B else if lt p z = true then R 0 p else B + 1 + R 0 p := ⟨_, rfl⟩
  obtain ⟨hg, hhg⟩ : ∃ hg : Nat → Nat, hg = fun p => if p = z then B else if lt z p = true then B + 1 + R 0 p else R 0 p := ⟨_, rfl⟩
  have loz : lo z = B := by rw [hlo]; simp
  have hgz : hg z = B := by rw [hhg]; simp
  have lo1 : ∀ p, S p → lt p z = true → lo p = R 0 p := fun p hp hl => by rw [hlo]; simp [hne p hp, hl]
  have lo2 : ∀ p, S p → lt p z = false → lo p = B + 1 + R 0 p := fun p hp hl => by rw [hlo]; simp [hne p hp, hl]
  have hg1 : ∀ p, S p → lt z p = true → hg p = B + 1 + R 0 p := fun p hp hl => by rw [hhg]; simp [hne p hp, hl]
  have hg2 : ∀ p, S p → lt z p = false → hg p = R 0 p := fun p hp hl => by rw [hhg]; simp [hne p hp, hl]
  clear hlo hhg
  have Llo : LxS (fun p => S p ∨ p = z) lt lo := by
    refine ⟨fun p q hp hq e => ?_, fun p q hp hq hl => ?_⟩
    · rcases hp with hp | rfl
      · have bp := hB p hp
        rcases hq with hq | rfl
        · have bq := hB q hq
          cases e1 : lt p z <;> cases e2 : lt q z
          · rw [lo2 p hp e1, lo2 q hq e2] at e; exact L.inj p q hp hq (by omega)
          · rw [lo2 p hp e1, lo1 q hq e2] at e; omega
          · rw [lo1 p hp e1, lo2 q hq e2] at e; omega
          · rw [lo1 p hp e1, lo1 q hq e2] at e; exact L.inj p q hp hq e
        · cases e1 : lt p q
          · rw [lo2 p hp e1, loz] at e; omega
          · rw [lo1 p hp e1, loz] at e; omega
      · rcases hq with hq | rfl
        · have bq := hB q hq
          cases e2 : lt q p
          · rw [lo2 q hq e2, loz] at e; omega
          · rw [lo1 q hq e2, loz] at e; omega
        · rfl
    · rcases hp with hp | rfl
      · have bp := hB p hp
        rcases hq with hq | rfl
        · have bq := hB q hq
          have := L.up p q hp hq hl
          cases e2 : lt q z
          · cases e1 : lt p z
            · rw [lo2 p hp e1, lo2 q hq e2]; omega
            · rw [lo1 p hp e1, lo2 q hq e2]; omega
          · rw [lo1 p hp (h.tr p q z hl e2), lo1 q hq e2]; exact this
        · rw [lo1 p hp hl, loz]; exact bp
      · rcases hq with hq | rfl
        · rw [loz, lo2 q hq (h.asy hl)]; omega
        · rw [h.irr] at hl; cases hl
  have Lhg : LxS (fun p => S p ∨ p = z) lt hg := by
    refine ⟨fun p q hp hq e => ?_, fun p q hp hq hl => ?_⟩
    · rcases hp with hp | rfl
      · have bp := hB p hp
        rcases hq with hq | rfl
        · have bq := hB q hq
          cases e1 : lt z p <;> cases e2 : lt z q
          · rw [hg2 p hp e1, hg2 q hq e2] at e; exact L.inj p q hp hq e
          · rw [hg2 p hp e1, hg1 q hq e2] at e; omega
          · rw [hg1 p hp e1, hg2 q hq e2] at e; omega
          · rw [hg1 p hp e1, hg1 q hq e2] at e; exact L.inj p q hp hq (by omega)
        · cases e1 : lt q p
          · rw [hg2 p hp e1, hgz] at e; omega
          · rw [hg1 p hp e1, hgz] at e; omega
      · rcases hq with hq | rfl
        · have bq := hB q hq
          cases e2 : lt p q
          · rw [hg2 q hq e2, hgz] at e; omega
          · rw [hg1 q hq e2, hgz] at e; omega
        · rfl
    · rcases hp with hp | rfl
      · have bp := hB p hp
        rcases hq with hq | rfl
        · have bq := hB q hq
          have := L.up p q hp hq hl
          cases e1 : lt z p
          · cases e2 : lt z q
            · rw [hg2 p hp e1, hg2 q hq e2]; exact this
            · rw [hg2 p hp e1, hg1 q hq e2]; omega
          · rw [hg1 p hp e1, hg1 q hq (h.tr z p q e1 hl)]; omega
        · rw [hg2 p hp (h.asy hl), hgz]; exact bp
      · rcases hq with hq | rfl
        · rw [hgz, hg1 q hq hl]; omega
        · rw [h.irr] at hl; cases hl
  refine ⟨fun i => if i = 0 then hg else if i = k then lo else I i, fun i hi => ?_, fun p q hp hq hpq hl => ?_⟩
  · by_cases e0 : i = 0
    · simp only [if_pos e0]; exact Lhg
    · by_cases ek : i = k
      · simp only [if_neg e0, if_pos ek]; exact Llo
      · simp only [if_neg e0, if_neg ek]; exact (hI i (by omega)).1
  · have zh : hg q < hg p → ∃ i, i < k + 1 ∧ (if i = 0 then hg else if i = k then lo else I i) q < (if i = 0 then hg else if i = k then lo else I i) p := fun hh => ⟨0, by omega, by simp only [if_true]; exact hh⟩
    have zl : lo q < lo p → ∃ i, i < k + 1 ∧ (if i = 0 then hg else if i = k then lo else I i) q < (if i = 0 then hg else if i = k then lo else I i) p := fun hh => ⟨k, by omega, by rw [if_neg (by omega), if_pos rfl]; exact hh⟩
    rcases hp with hp | rfl
    · have bp := hB p hp
      rcases hq with hq | rfl
      · have bq := hB q hq
        obtain ⟨i, hi, hlt⟩ := h2 p q hp hq hpq hl
        by_cases e0 : i = 0
        · subst e0
          -- q ahead of p in the first row
          cases e1 : lt q z
          · cases e2 : lt p z
            · exact zl (by rw [lo2 q hq e1, lo2 p hp e2]; omega)
            · -- p below z: then z is not below q
              have e3 : lt z q = false := by
                rw [Bool.eq_false_iff]; intro hh
                have := h.tr p z q e2 hh; rw [hl] at this; cases this
              have e4 : lt z p = false := h.asy e2
              exact zh (by rw [hg2 q hq e3, hg2 p hp e4]; exact hlt)
          · cases e2 : lt p z
            · exact zl (by rw [lo1 q hq e1, lo2 p hp e2]; omega)
            · exact zl (by rw [lo1 q hq e1, lo1 p hp e2]; exact hlt)
        · exact ⟨i, by omega, by simp only [if_neg e0, if_neg (show ¬ i = k by omega)]; exact (hI i hi).2 q p hq hp hlt⟩
      · exact zl (by rw [loz, lo2 p hp hl]; omega)
    · rcases hq with hq | rfl
      · have bq := hB q hq
        exact zh (by rw [hgz, hg2 q hq hl]; exact bq)
      · exact absurd rfl hpq
end
end Go.Proofs.YtinblbkglkhjmaaDoor
