/-
  Terms, plain facts: what is in one, its points, its set, what it says is below what. No condition.
-/
import Derived.Test.YtjhpegjcknaioaaDoorPieM
namespace Go.Proofs.YtjhpegjcknaioaaDoor

/-- A term: its kind, its point, and what is in it (the leaf is none: it fills the places behind). -/
structure TT where
  node ::
  d : Option (Int × Int × Nat)
  kids : Nat → d.isSome = true → TT
abbrev TT.leaf : TT := .node none (fun _ h => absurd h (by decide))
abbrev TT.mk (k x : Int) (n : Nat) (kid : Nat → TT) : TT := .node (some (k, x, n)) (fun i _ => kid i)
theorem TT.ind {P : TT → Prop} (leaf : P .leaf) (mk : ∀ (k x : Int) (n : Nat) (kid : Nat → TT), (∀ i, P (kid i)) → P (.mk k x n kid)) : ∀ T, P T
  | .node none kids => by
    have e : kids = fun _ h => absurd h (by decide) := by funext _ h; exact absurd h (by decide)
    rw [e]; exact leaf
  | .node (some (k, x, n)) kids => mk k x n (fun i => kids i rfl) (fun i => TT.ind leaf mk (kids i rfl))
/-- What comes of the first places, one behind the other. -/
def fld {A : Type} (f : Nat → A → A) (s : A) : Nat → A
  | 0 => s
  | i + 1 => f i (fld f s i)
def sz : TT → Nat
  | .node none _ => 1
  | .node (some (_, _, n)) kid => fld (fun i a => a + sz (kid i rfl)) 1 n
def np : TT → Nat
  | .node none _ => 0
  | .node (some (k, _, n)) kid => fld (fun i a => a + np (kid i rfl)) (if k = 1 then 1 else 0) n
def pl : TT → List Int
  | .node none _ => []
  | .node (some (k, x, n)) kid => if k = 1 then [x] else fld (fun i a => a ++ pl (kid i rfl)) [] n
def st : TT → Nat
  | .node none _ => 0
  | .node (some (k, x, n)) kid => if k = 1 then pw x.toNat else fld (fun i a => a ||| st (kid i rfl)) 0 n
/-- Well formed. -/
def Gd : TT → Prop
  | .node none _ => False
  | .node (some (k, x, n)) kid => (k = 1 ∧ n = 0) ∨ ((k = 2 ∨ k = 3) ∧ 2 ≤ n ∧ x = 0 ∧ ∀ i, i < n → Gd (kid i rfl))
def szK (kid : Nat → TT) (i : Nat) : Nat := fld (fun i a => a + sz (kid i)) 1 i
def npK (k : Int) (kid : Nat → TT) (i : Nat) : Nat := fld (fun i a => a + np (kid i)) (if k = 1 then 1 else 0) i
def plK (kid : Nat → TT) (i : Nat) : List Int := fld (fun i a => a ++ pl (kid i)) [] i
def stK (kid : Nat → TT) (i : Nat) : Nat := fld (fun i a => a ||| st (kid i)) 0 i
section
variable (k x : Int) (n : Nat) (kid : Nat → TT) (i : Nat)
theorem sz_eq : sz (.mk k x n kid) = szK kid n := rfl
theorem np_eq : np (.mk k x n kid) = npK k kid n := rfl
theorem pl_eq : pl (.mk k x n kid) = if k = 1 then [x] else plK kid n := rfl
theorem st_eq : st (.mk k x n kid) = if k = 1 then pw x.toNat else stK kid n := rfl
theorem szK_succ : szK kid (i + 1) = szK kid i + sz (kid i) := rfl
theorem npK_succ : npK k kid (i + 1) = npK k kid i + np (kid i) := rfl
theorem plK_succ : plK kid (i + 1) = plK kid i ++ pl (kid i) := rfl
theorem stK_succ : stK kid (i + 1) = stK kid i ||| st (kid i) := rfl
end
theorem szK_pos (kid : Nat → TT) : ∀ i, 1 ≤ szK kid i
  | 0 => Nat.le_refl _
  | i + 1 => by rw [szK_succ]; have := szK_pos kid i; omega
theorem sz_pos : ∀ T : TT, 1 ≤ sz T := by
  intro T
  induction T using TT.ind with
  | leaf => exact Nat.le_refl _
  | mk _ _ n kid IHK => exact szK_pos kid n
theorem szK_mono (kid : Nat → TT) (i : Nat) : ∀ d, szK kid i ≤ szK kid (i + d)
  | 0 => Nat.le_refl _
  | d + 1 => by rw [show i + (d + 1) = (i + d) + 1 by omega, szK_succ]; have := szK_mono kid i d; omega
theorem npK_mono (k : Int) (kid : Nat → TT) (i : Nat) : ∀ d, npK k kid i ≤ npK k kid (i + d)
  | 0 => Nat.le_refl _
  | d + 1 => by rw [show i + (d + 1) = (i + d) + 1 by omega, npK_succ]; have := npK_mono k kid i d; omega
theorem szK_ge (kid : Nat → TT) : ∀ i, i + 1 ≤ szK kid i
  | 0 => Nat.le_refl _
  | i + 1 => by rw [szK_succ]; have := szK_ge kid i; have := sz_pos (kid i); omega
theorem stK_bit (kid : Nat → TT) (a : Nat) : ∀ i, (stK kid i).testBit a = true ↔ ∃ j, j < i ∧ (st (kid j)).testBit a = true
  | 0 => by
    have e : stK kid 0 = 0 := rfl
    rw [e]; simp
  | i + 1 => by
    rw [stK_succ, Nat.testBit_or, Bool.or_eq_true, stK_bit kid a i]
    constructor
    · rintro (⟨j, h1, h2⟩ | h)
      · exact ⟨j, by omega, h2⟩
      · exact ⟨i, by omega, h⟩
    · rintro ⟨j, h1, h2⟩
      rcases Nat.lt_or_ge j i with h3 | h3
      · exact .inl ⟨j, h3, h2⟩
      · obtain rfl : j = i := by omega
        exact .inr h2
theorem pl_len : ∀ T : TT, (pl T).length ≤ sz T := by
  intro T
  induction T using TT.ind with
  | leaf => exact Nat.zero_le _
  | mk k x n kid IHK =>
    have hK : ∀ i, (plK kid i).length + 1 ≤ szK kid i := fun i => by
      induction i with
      | zero => exact Nat.le_refl _
      | succ i ih => rw [plK_succ, szK_succ, List.length_append]; have := IHK i; omega
    rw [pl_eq, sz_eq]
    split
    · exact szK_pos kid n
    · have := hK n; omega
theorem plK_len (kid : Nat → TT) : ∀ i, (plK kid i).length + 1 ≤ szK kid i
  | 0 => Nat.le_refl _
  | i + 1 => by rw [plK_succ, szK_succ, List.length_append]; have := pl_len (kid i); have := plK_len kid i; omega

/-- A term is right of a relation. -/
def Ok (L : Nat → Nat → Bool) : TT → Prop
  | .node none _ => False
  | .node (some (k, x, n)) kid => (k = 1 ∧ n = 0 ∧ 0 ≤ x ∧ x < 10) ∨ ((k = 2 ∨ k = 3) ∧ 2 ≤ n ∧ x = 0 ∧ (∀ i, i < n → Ok L (kid i rfl)) ∧
      ∀ i j, i < j → j < n → ∀ a b, (st (kid i rfl)).testBit a = true → (st (kid j rfl)).testBit b = true → a ≠ b ∧ (k = 2 → L a b = false) ∧ (k = 3 → L a b = true) ∧ L b a = false)
theorem Ok.gd {L : Nat → Nat → Bool} : ∀ {T : TT}, Ok L T → Gd T := by
  intro T
  induction T using TT.ind with
  | leaf => exact fun h => h.elim
  | mk k x n kid IHK =>
    intro h
    rcases h with ⟨h1, h2, _⟩ | ⟨h1, h2, h3, h4, _⟩
    · exact .inl ⟨h1, h2⟩
    · exact .inr ⟨h1, h2, h3, fun i hi => (IHK _ (h4 i hi))⟩
theorem Ok.lt {L : Nat → Nat → Bool} : ∀ {T : TT}, Ok L T → st T < 1024 := by
  intro T
  induction T using TT.ind with
  | leaf => exact fun h => h.elim
  | mk k x n kid IHK =>
    intro h
    rw [st_eq]
    rcases h with ⟨h1, h2, h3, h4⟩ | ⟨h1, h2, h3, h4, _⟩
    · rw [if_pos h1]
      exact Nat.pow_lt_pow_right (by decide) (show x.toNat < 10 by omega)
    · rw [if_neg (by omega)]
      have hK : ∀ i, i ≤ n → stK kid i < pw 10 := fun i => by
        induction i with
        | zero => intro _; exact pw_pos 10
        | succ i ih => intro hi; rw [stK_succ]; exact Nat.or_lt_two_pow (ih (by omega)) ((IHK _ (h4 i (by omega))))
      exact hK n (Nat.le_refl _)
theorem Ok.has {L : Nat → Nat → Bool} : ∀ {T : TT}, Ok L T → ∃ a, (st T).testBit a = true := by
  intro T
  induction T using TT.ind with
  | leaf => exact fun h => h.elim
  | mk k x n kid IHK =>
    intro h
    rw [st_eq]
    rcases h with ⟨h1, h2, h3, h4⟩ | ⟨h1, h2, h3, h4, _⟩
    · rw [if_pos h1]
      exact ⟨x.toNat, by rw [pw_bit]; simp⟩
    · rw [if_neg (by omega)]
      obtain ⟨a, ha⟩ := (IHK _ (h4 0 (by omega)))
      exact ⟨a, (stK_bit kid a n).2 ⟨0, by omega, ha⟩⟩
theorem Ok.congr {L L' : Nat → Nat → Bool} : ∀ {T : TT}, (∀ a b, (st T).testBit a = true → (st T).testBit b = true → L a b = L' a b) → Ok L T → Ok L' T := by
  intro T
  induction T using TT.ind with
  | leaf => exact fun _ h => h.elim
  | mk k x n kid IHK =>
    intro hc h
    rcases h with h | ⟨h1, h2, h3, h4, h5⟩
    · exact .inl h
    · rw [st_eq, if_neg (by omega)] at hc
      have up : ∀ i, i < n → ∀ a, (st (kid i)).testBit a = true → (stK kid n).testBit a = true := fun i hi a ha => (stK_bit kid a n).2 ⟨i, hi, ha⟩
      refine .inr ⟨h1, h2, h3, fun i hi => IHK i (fun a b ha hb => hc a b (up i hi a ha) (up i hi b hb)) (h4 i hi), ?_⟩
      intro i j hij hj a b ha hb
      have e1 := hc a b (up i (by omega) a ha) (up j hj b hb)
      have e2 := hc b a (up j hj b hb) (up i (by omega) a ha)
      rw [← e1, ← e2]
      exact h5 i j hij hj a b ha hb
/-- What is built of a right term has no zig. -/
theorem Ok.noZig {L : Nat → Nat → Bool} : ∀ {T : TT}, Ok L T → ∀ a b c d, (st T).testBit a = true → (st T).testBit b = true → (st T).testBit c = true → (st T).testBit d = true →
    L a c = true → L b c = true → L b d = true → L a b = false → L b a = false → L a d = false → L d a = false → L c d = false → L d c = false → a = b := by
  intro T
  induction T using TT.ind with
  | leaf => exact fun h => h.elim
  | mk k x n kid IHK =>
    intro h
    intro a b c d ha hb hc hd ac bc bd ab ba ad da cd dc
    rw [st_eq] at ha hb hc hd
    rcases h with ⟨h1, h2, h3, h4⟩ | ⟨h1, h2, h3, h4, h5⟩
    · rw [if_pos h1, pw_bit] at ha hb
      exact (of_decide_eq_true ha).symm.trans (of_decide_eq_true hb)
    · rw [if_neg (by omega), stK_bit] at ha hb hc hd
      obtain ⟨i, hi, ha⟩ := ha
      obtain ⟨j, hj, hb⟩ := hb
      obtain ⟨l, hl, hc⟩ := hc
      obtain ⟨m, hm, hd⟩ := hd
      have same2 : ∀ {i j p q}, i < n → j < n → (st (kid i)).testBit p = true → (st (kid j)).testBit q = true → k = 2 → L p q = true → i = j := fun {i j p q} hi hj hp hq hk hL => by
        rcases Nat.lt_trichotomy i j with h | h | h
        · have := (h5 i j h hj p q hp hq).2.1 hk; rw [hL] at this; cases this
        · exact h
        · have := (h5 j i h hi q p hq hp).2.2.2; rw [hL] at this; cases this
      have same3 : ∀ {i j p q}, i < n → j < n → (st (kid i)).testBit p = true → (st (kid j)).testBit q = true → k = 3 → L p q = false → L q p = false → i = j := fun {i j p q} hi hj hp hq hk hL hM => by
        rcases Nat.lt_trichotomy i j with h | h | h
        · have := (h5 i j h hj p q hp hq).2.2.1 hk; rw [hL] at this; cases this
        · exact h
        · have := (h5 j i h hi q p hq hp).2.2.1 hk; rw [hM] at this; cases this
      have e : i = j ∧ i = l ∧ i = m := by
        rcases h1 with hk | hk
        · have e1 := same2 hi hl ha hc hk ac
          have e2 := same2 hj hl hb hc hk bc
          have e3 := same2 hj hm hb hd hk bd
          omega
        · have e1 := same3 hi hj ha hb hk ab ba
          have e2 := same3 hi hm ha hd hk ad da
          have e3 := same3 hl hm hc hd hk cd dc
          omega
      obtain ⟨rfl, rfl, rfl⟩ := e
      exact (IHK _ (h4 i hi)) a b c d ha hb hc hd ac bc bd ab ba ad da cd dc
end Go.Proofs.YtjhpegjcknaioaaDoor
