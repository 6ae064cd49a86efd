/-
  Plain facts on units: numbers and a step say an order just if it has neither two chains that know nothing of one another nor three points in a chain of which another one knows nothing (SCOTT, SUPPES); how raising comes to an end.
-/
import Derived.Test.YtkknfnjhpamfbaaFishM
namespace Go.Proofs.Ytkknfnjhpamfbaa
open Go.RowKit

def NoThree (g : Nat → Nat) (n : Nat) : Prop := ∀ a b c d, a < n → b < n → c < n → d < n → threeP g a b c d = false
/-- Numbers v and a step s say the order. -/
def Says (g : Nat → Nat) (n : Nat) (v : Nat → Int) (s : Int) : Prop := ∀ a b, a < n → b < n → ((g b).testBit a = true ↔ v b - v a > s)
theorem says_noTwo {g : Nat → Nat} {n : Nat} {v : Nat → Int} {s : Int} (h : Says g n v s) : NoTwo g n := fun a b c d ha hb hc hd => by
  rcases Bool.eq_false_or_eq_true (twoP g a b c d) with e | e
  · exfalso
    simp only [twoP, Bool.and_eq_true, Bool.not_eq_true'] at e
    obtain ⟨⟨⟨h1, h2⟩, h3⟩, h4⟩ := e
    have e1 := (h a b ha hb).1 h1
    have e2 := (h c d hc hd).1 h2
    have e3 : ¬ v d - v a > s := fun q => by rw [(h a d ha hd).2 q] at h3; cases h3
    have e4 : ¬ v b - v c > s := fun q => by rw [(h c b hc hb).2 q] at h4; cases h4
    omega
  · exact e
theorem says_noThree {g : Nat → Nat} {n : Nat} {v : Nat → Int} {s : Int} (h : Says g n v s) : NoThree g n := fun a b c d ha hb hc hd => by
  rcases Bool.eq_false_or_eq_true (threeP g a b c d) with e | e
  · exfalso
    simp only [threeP, apB, Bool.and_eq_true, Bool.not_eq_true'] at e
    obtain ⟨⟨⟨⟨h1, h2⟩, h3, h4⟩, h5, h6⟩, h7, h8⟩ := e
    have e1 := (h a b ha hb).1 h1
    have e2 := (h b c hb hc).1 h2
    have e3 : ¬ v d - v a > s := fun q => by rw [(h a d ha hd).2 q] at h4; cases h4
    have e4 : ¬ v c - v d > s := fun q => by rw [(h d c hd hc).2 q] at h7; cases h7
    omega
  · exact e

/-! ### what the numbers must be -/
/-- What each asks of the others. -/
structure Feas (g : Nat → Nat) (n : Nat) (P : Nat → Nat) : Prop where
  up : ∀ x y, x < n → y < n → (g x).testBit y = true → P y + n + 1 ≤ P x
  ap : ∀ x y, x < n → y < n → (g x).testBit y = false → (g y).testBit x = false → P y ≤ P x + n
theorem feas_says {g : Nat → Nat} {n : Nat} {P : Nat → Nat} (h : Feas g n P) : Says g n (fun k => (P k : Nat)) n := fun a b ha hb => by
  constructor
  · intro q
    have := h.up b a hb ha q
    simp only; omega
  · intro q
    simp only at q
    cases e : (g b).testBit a
    · exfalso
      cases e2 : (g a).testBit b
      · have := h.ap a b ha hb e2 e; omega
      · have := h.up a b ha hb e2; omega
    · rfl

/-! ### raising comes to an end -/
def sumTo (P : Nat → Nat) : Nat → Nat
  | 0 => 0
  | k + 1 => sumTo P k + P k
theorem sumTo_lt {P Q : Nat → Nat} : ∀ n, (∀ k, k < n → P k ≤ Q k) → (∃ k, k < n ∧ P k < Q k) → sumTo P n < sumTo Q n
  | 0, _, ⟨k, hk, _⟩ => absurd hk (Nat.not_lt_zero _)
  | n + 1, h, ⟨k, hk, hlt⟩ => by
    have hle : ∀ m, (∀ k, k < m → P k ≤ Q k) → sumTo P m ≤ sumTo Q m := fun m => by
      induction m with
      | zero => exact fun _ => Nat.le_refl _
      | succ m ih => exact fun h => by have a1 := ih (fun k hk => h k (by omega)); have a2 := h m (by omega); simp only [sumTo]; omega
    have hn := h n (by omega)
    simp only [sumTo]
    by_cases e : k = n
    · subst e
      have := hle k (fun j hj => h j (by omega)); omega
    · have := sumTo_lt n (fun j hj => h j (by omega)) ⟨k, by omega, hlt⟩; omega
/-- The least of the numbers that will do. -/
structure Least (g : Nat → Nat) (n : Nat) (d : Nat → Nat) : Prop where
  feas : Feas g n d
  min : ∀ d', Feas g n d' → sumTo d n ≤ sumTo d' n
theorem least_of {g : Nat → Nat} {n : Nat} : ∀ (S : Nat) (P : Nat → Nat), sumTo P n ≤ S → Feas g n P → ∃ d, Least g n d
  | S, P, hS, hP => by
    by_cases e : ∃ Q, Feas g n Q ∧ sumTo Q n < sumTo P n
    · obtain ⟨Q, hQ, hlt⟩ := e
      match S, hS with
      | 0, hS => omega
      | S + 1, hS => exact least_of S Q (by omega) hQ
    · exact ⟨P, hP, fun d' hd => by
        rcases Nat.lt_or_ge (sumTo d' n) (sumTo P n) with q | q
        · exact absurd ⟨d', hd, q⟩ e
        · exact q⟩
/-- What a round has done: v0 ahead of it, v1 behind it. -/
structure Raised (g : Nat → Nat) (n : Nat) (v0 v1 : Nat → Nat) : Prop where
  le : ∀ x, x < n → v0 x ≤ v1 x
  least : ∀ d, Feas g n d → (∀ x, x < n → v0 x ≤ d x) → ∀ x, x < n → v1 x ≤ d x
  up : ∀ x y, x < n → y < n → (g x).testBit y = true → v0 y + n + 1 ≤ v1 x
  ap : ∀ x y, x < n → y < n → (g x).testBit y = false → (g y).testBit x = false → v0 y ≤ v1 x + n
def fin (d v : Nat → Nat) (n : Nat) : Nat := cn (fun x => decide (v x = d x)) n
theorem raised_fin {g : Nat → Nat} {n : Nat} {v0 v1 d : Nat → Nat} (hd : Least g n d) (h : Raised g n v0 v1) (h0 : ∀ x, x < n → v0 x ≤ d x) (hr : ∃ x, x < n ∧ v0 x < v1 x) : fin d v0 n < fin d v1 n := by
  have h1 := h.least d hd.feas h0
  obtain ⟨x, hx, hlt⟩ := hr
  -- somebody who is not there yet hangs on somebody who is
  have key : ∃ x y, x < n ∧ y < n ∧ v0 x < d x ∧ v0 y = d y ∧ (((g x).testBit y = true ∧ d x = d y + n + 1) ∨ ((g x).testBit y = false ∧ (g y).testBit x = false ∧ d x + n = d y)) := by
    refine Classical.byContradiction (fun hc => ?_)
    have hnot : ∀ x y, x < n → y < n → v0 x < d x → v0 y = d y → ¬ (((g x).testBit y = true ∧ d x = d y + n + 1) ∨ ((g x).testBit y = false ∧ (g y).testBit x = false ∧ d x + n = d y)) := fun x y a1 a2 a3 a4 a5 => hc ⟨x, y, a1, a2, a3, a4, a5⟩
    have hF : Feas g n (fun x => if v0 x < d x then d x - 1 else d x) := by
      constructor
      · intro x y a1 a2 a3
        have b1 := hd.feas.up x y a1 a2 a3
        by_cases q1 : v0 x < d x
        · rw [if_pos q1]
          by_cases q2 : v0 y < d y
          · rw [if_pos q2]; omega
          · rw [if_neg q2]
            have b2 := hnot x y a1 a2 q1 (by have := h0 y a2; omega)
            have : d x ≠ d y + n + 1 := fun q => b2 (.inl ⟨a3, q⟩)
            omega
        · rw [if_neg q1]
          split <;> omega
      · intro x y a1 a2 a3 a4
        have b1 := hd.feas.ap x y a1 a2 a3 a4
        by_cases q1 : v0 x < d x
        · rw [if_pos q1]
          by_cases q2 : v0 y < d y
          · rw [if_pos q2]; omega
          · rw [if_neg q2]
            have b2 := hnot x y a1 a2 q1 (by have := h0 y a2; omega)
            have : d x + n ≠ d y := fun q => b2 (.inr ⟨a3, a4, q⟩)
            omega
        · rw [if_neg q1]
          split <;> omega
    have b1 := hd.min _ hF
    have b2 : sumTo (fun x => if v0 x < d x then d x - 1 else d x) n < sumTo d n := by
      refine sumTo_lt n (fun k hk => by split <;> omega) ⟨x, hx, ?_⟩
      have := h1 x hx
      rw [if_pos (by omega)]; omega
    omega
  obtain ⟨x, y, hx, hy, a1, a2, a3⟩ := key
  refine cn_strict n (fun z hz q => ?_) ⟨x, hx, decide_eq_false (by omega), decide_eq_true ?_⟩
  · have q := of_decide_eq_true q
    have b1 := h1 z hz
    have b2 := h.le z hz
    exact decide_eq_true (by omega)
  · have b1 := h1 x hx
    rcases a3 with ⟨c1, c2⟩ | ⟨c1, c2, c3⟩
    · have := h.up x y hx hy c1; omega
    · have := h.ap x y hx hy c1 c2; omega
theorem fin_le (d v : Nat → Nat) (n : Nat) : fin d v n ≤ n := cn_le _ n

/-! ### there are such numbers -/
section
variable {g : Nat → Nat} {n : Nat}
def bl (g : Nat → Nat) (x : Nat) : Nat := pc (g x)
def ab (g : Nat → Nat) (n x : Nat) : Nat := cn (fun y => (g y).testBit x) n
def sg (g : Nat → Nat) (n x : Nat) : Nat := (bl g x * 11 + (10 - ab g n x)) * 11 + x
theorem bl_le (x : Nat) : bl g x ≤ 10 := pcn_le (g x) 10
theorem sub_bl (hn : n ≤ 10) (hg : Sm n n g) (h2 : NoTwo g n) {x y : Nat} (hx : x < n) (hy : y < n) (h : bl g y ≤ bl g x) : ∀ t, (g y).testBit t = true → (g x).testBit t = true := fun t ht => by
  cases e : (g x).testBit t
  · have := noTwo_pc hn hg h2 hy hx ht e; unfold bl at h; omega
  · rfl
theorem sg_cases (hn : n ≤ 10) {z y : Nat} (_ : z < n) (hy : y < n) (h : sg g n z ≤ sg g n y) : bl g z < bl g y ∨ (bl g z = bl g y ∧ ab g n y ≤ ab g n z) := by
  have a1 := cn_le (fun t => (g t).testBit z) n
  have a2 := cn_le (fun t => (g t).testBit y) n
  unfold sg at h
  unfold ab at *
  omega
theorem sg_inj (hn : n ≤ 10) {z y : Nat} (hz : z < n) (hy : y < n) (h : sg g n z = sg g n y) : z = y := by unfold sg at h; omega
theorem init (hn : n ≤ 10) (hg : Sm n n g) (ho : Ord n g) (h2 : NoTwo g n) (h3 : NoThree g n) {x y z : Nat} (hx : x < n) (hy : y < n) (hz : z < n) (hyx : (g x).testBit y = true) (hs : sg g n z ≤ sg g n y) : (g x).testBit z = true := by
  cases e : (g x).testBit z
  · exfalso
    rcases sg_cases hn hz hy hs with h | ⟨h, h'⟩
    · obtain ⟨u, hu1, hu2⟩ : ∃ u, (g y).testBit u = true ∧ (g z).testBit u = false := by
        refine Classical.byContradiction (fun hc => ?_)
        have : pc (g y) ≤ pc (g z) := pcn_mono 10 (fun j _ hj => by
          cases q : (g z).testBit j
          · exact absurd ⟨j, hj, q⟩ hc
          · rfl)
        unfold bl at h; omega
      have hu := bit_lt (hg y hy) hu1
      have hux := ord_tr hn hg ho hy hx hu1 hyx
      have q1 : (g u).testBit z = false := by
        cases q : (g u).testBit z
        · rfl
        · rw [ord_tr hn hg ho hu hx q hux] at e; cases e
      have q2 : (g y).testBit z = false := by
        cases q : (g y).testBit z
        · rfl
        · rw [ord_tr hn hg ho hy hx q hyx] at e; cases e
      have q3 : (g z).testBit y = false := by
        cases q : (g z).testBit y
        · rfl
        · rw [ord_tr hn hg ho hy hz hu1 q] at hu2; cases hu2
      have q4 : (g z).testBit x = false := by
        cases q : (g z).testBit x
        · rfl
        · rw [ord_tr hn hg ho hx hz hux q] at hu2; cases hu2
      have := h3 u y x z hu hy hx hz
      simp [threeP, apB, hu1, hyx, q1, hu2, q2, q3, e, q4] at this
    · have : ab g n z < ab g n y := by
        refine cn_strict n (fun t ht q => ?_) ⟨x, hx, e, hyx⟩
        cases q2 : (g t).testBit y
        · have := h2 z t y x hz ht hy hx
          simp [twoP, q, hyx, e, q2] at this
        · rfl
      omega
  · rfl
/-- The last number below n of which it is so. -/
def fnd (P : Nat → Bool) : Nat → Nat
  | 0 => 0
  | k + 1 => if P k = true then k else fnd P k
theorem fnd_is (P : Nat → Bool) : ∀ n, (∃ p, p < n ∧ P p = true) → fnd P n < n ∧ P (fnd P n) = true
  | 0, ⟨p, hp, _⟩ => absurd hp (Nat.not_lt_zero _)
  | k + 1, ⟨p, hp, h⟩ => by
    unfold fnd
    by_cases e : P k = true
    · rw [if_pos e]; exact ⟨Nat.lt_succ_self _, e⟩
    · rw [if_neg e]
      have := fnd_is P k ⟨p, by
        by_cases q : p = k
        · subst q; exact absurd h e
        · omega, h⟩
      exact ⟨by omega, this.2⟩
def parB (g : Nat → Nat) (n x y : Nat) : Bool := (g x).testBit y && (List.range n).all (fun t => !(g x).testBit t || decide (sg g n t ≤ sg g n y))
theorem parB_iff {g : Nat → Nat} {n x y : Nat} : parB g n x y = true ↔ (g x).testBit y = true ∧ ∀ t, t < n → (g x).testBit t = true → sg g n t ≤ sg g n y := by
  unfold parB
  rw [Bool.and_eq_true, List.all_eq_true]
  constructor
  · rintro ⟨h1, h2⟩
    refine ⟨h1, fun t ht q => ?_⟩
    have := h2 t (List.mem_range.2 ht)
    rw [q] at this
    simpa using this
  · rintro ⟨h1, h2⟩
    refine ⟨h1, fun t ht => ?_⟩
    cases q : (g x).testBit t
    · rfl
    · simpa using h2 t (List.mem_range.1 ht) q
/-- The last one below x. -/
def par (g : Nat → Nat) (n x : Nat) : Nat := fnd (parB g n x) n
theorem par_ex (hn : n ≤ 10) (hg : Sm n n g) {x : Nat} (hx : x < n) (h : g x ≠ 0) : ∃ y, y < n ∧ (g x).testBit y = true ∧ ∀ t, t < n → (g x).testBit t = true → sg g n t ≤ sg g n y := by
  have hb : ∀ y, y < n → sg g n y ≤ 1400 := fun y hy => by have := bl_le (g := g) y; unfold sg; omega
  have key : ∀ k, (∃ y, y < n ∧ (g x).testBit y = true ∧ 1401 ≤ sg g n y + k) → ∃ y, y < n ∧ (g x).testBit y = true ∧ ∀ t, t < n → (g x).testBit t = true → sg g n t ≤ sg g n y := by
    intro k
    induction k with
    | zero => rintro ⟨y, hy, _, h1⟩; have := hb y hy; omega
    | succ k ih =>
      rintro ⟨y, hy, h1, h2⟩
      by_cases e : ∃ t, t < n ∧ (g x).testBit t = true ∧ sg g n y < sg g n t
      · obtain ⟨t, ht, h3, h4⟩ := e
        exact ih ⟨t, ht, h3, by omega⟩
      · refine ⟨y, hy, h1, fun t ht h3 => ?_⟩
        rcases Nat.lt_or_ge (sg g n y) (sg g n t) with q | q
        · exact absurd ⟨t, ht, h3, q⟩ e
        · exact q
  obtain ⟨y, hy⟩ : ∃ y, (g x).testBit y = true := by
    refine Classical.byContradiction (fun hc => h (Nat.eq_of_testBit_eq (fun i => ?_)))
    rw [Nat.zero_testBit]
    cases q : (g x).testBit i
    · rfl
    · exact absurd ⟨i, q⟩ hc
  exact key 1401 ⟨y, bit_lt (hg x hx) hy, hy, by omega⟩
theorem par_spec (hn : n ≤ 10) (hg : Sm n n g) {x : Nat} (hx : x < n) (h : g x ≠ 0) : par g n x < n ∧ (g x).testBit (par g n x) = true ∧ ∀ t, t < n → (g x).testBit t = true → sg g n t ≤ sg g n (par g n x) := by
  obtain ⟨y, hy, h1, h2⟩ := par_ex hn hg hx h
  obtain ⟨k1, k2⟩ := fnd_is (parB g n x) n ⟨y, hy, parB_iff.2 ⟨h1, h2⟩⟩
  exact ⟨k1, (parB_iff.1 k2).1, (parB_iff.1 k2).2⟩
theorem bl_up (hn : n ≤ 10) (hg : Sm n n g) (ho : Ord n g) {x y : Nat} (hx : x < n) (hy : y < n) (h : (g x).testBit y = true) : bl g y < bl g x :=
  pc_strict (fun _ hj => ord_tr hn hg ho hy hx hj h) (Nat.lt_of_lt_of_le hy hn) (ho y hy).1 h
def levF (g : Nat → Nat) (n : Nat) : Nat → Nat → Nat
  | 0, _ => 0
  | f + 1, x => if g x = 0 then 0 else levF g n f (par g n x) + 1
def lev (g : Nat → Nat) (n x : Nat) : Nat := levF g n (bl g x) x
theorem levF_eq (hn : n ≤ 10) (hg : Sm n n g) (ho : Ord n g) : ∀ f x, x < n → bl g x ≤ f → levF g n f x = lev g n x
  | f, x, hx, hf => by
    by_cases h : g x = 0
    · have hz : ∀ k, levF g n k x = 0 := fun k => by
        cases k with
        | zero => rfl
        | succ k => simp [levF, h]
      unfold lev; rw [hz, hz]
    · obtain ⟨p1, p2, _⟩ := par_spec hn hg hx h
      have hb := bl_up hn hg ho hx p1 p2
      obtain ⟨b, hbe⟩ : ∃ b, bl g x = b + 1 := ⟨bl g x - 1, by omega⟩
      match f, hf with
      | 0, hf => omega
      | f + 1, hf =>
        have e1 : levF g n (f + 1) x = levF g n f (par g n x) + 1 := by simp [levF, h]
        have e2 : lev g n x = levF g n b (par g n x) + 1 := by unfold lev; rw [hbe]; simp [levF, h]
        rw [e1, e2, levF_eq hn hg ho f _ p1 (by omega), levF_eq hn hg ho b _ p1 (by omega)]
theorem lev_zero {x : Nat} (h : g x = 0) : lev g n x = 0 := by
  unfold lev
  cases bl g x with
  | zero => rfl
  | succ k => simp [levF, h]
theorem lev_succ (hn : n ≤ 10) (hg : Sm n n g) (ho : Ord n g) {x : Nat} (hx : x < n) (h : g x ≠ 0) : lev g n x = lev g n (par g n x) + 1 := by
  obtain ⟨p1, p2, _⟩ := par_spec hn hg hx h
  have hb := bl_up hn hg ho hx p1 p2
  obtain ⟨b, hbe⟩ : ∃ b, bl g x = b + 1 := ⟨bl g x - 1, by omega⟩
  have e2 : lev g n x = levF g n b (par g n x) + 1 := by unfold lev; rw [hbe]; simp [levF, h]
  rw [e2, levF_eq hn hg ho b _ p1 (by omega)]
theorem lev_mono (hn : n ≤ 10) (hg : Sm n n g) (ho : Ord n g) (h2 : NoTwo g n) : ∀ (b x y : Nat), bl g x ≤ b → x < n → y < n → sg g n y ≤ sg g n x → lev g n y ≤ lev g n x
  | b, x, y, hb, hx, hy, hs => by
    by_cases h : g y = 0
    · rw [lev_zero h]; exact Nat.zero_le _
    · have hle : bl g y ≤ bl g x := by rcases sg_cases hn hy hx hs with q | ⟨q, _⟩ <;> omega
      have hsub := sub_bl hn hg h2 hx hy hle
      obtain ⟨p1, p2, p3⟩ := par_spec hn hg hy h
      have h' : g x ≠ 0 := fun q => by have := hsub _ p2; rw [q, Nat.zero_testBit] at this; cases this
      obtain ⟨q1, q2, q3⟩ := par_spec hn hg hx h'
      have hbx := bl_up hn hg ho hx q1 q2
      rw [lev_succ hn hg ho hy h, lev_succ hn hg ho hx h']
      match b, hb with
      | 0, hb => omega
      | b + 1, hb =>
        have := lev_mono hn hg ho h2 b _ _ (by omega) q1 p1 (q3 _ p1 (hsub _ p2))
        omega
def ps (g : Nat → Nat) (n x : Nat) : Nat := cn (fun y => decide (sg g n y < sg g n x)) n
theorem ps_lt {x : Nat} (hx : x < n) : ps g n x < n := by
  have h1 : ps g n x < cn (fun _ => true) n := cn_strict n (fun _ _ _ => rfl) ⟨x, hx, decide_eq_false (Nat.lt_irrefl _), rfl⟩
  have h2 := cn_le (fun _ => true) n
  omega
theorem ps_up {x y : Nat} (hy : y < n) (h : sg g n y < sg g n x) : ps g n y < ps g n x :=
  cn_strict n (fun z _ q => by have q := of_decide_eq_true q; exact decide_eq_true (by omega)) ⟨y, hy, decide_eq_false (Nat.lt_irrefl _), decide_eq_true h⟩
def keyF (g : Nat → Nat) (n : Nat) : Nat → Nat → Nat
  | 0, x => (ps g n x + 1) * 11 ^ 20
  | L + 1, x => keyF g n L (par g n x) + (ps g n x + 1) * 11 ^ (19 - L)
/-- A point's key: those that it hangs on, then itself. -/
def key (g : Nat → Nat) (n x : Nat) : Nat := keyF g n (lev g n x) x
theorem lev_le_bl (hn : n ≤ 10) (hg : Sm n n g) (ho : Ord n g) : ∀ (b x : Nat), bl g x ≤ b → x < n → lev g n x ≤ bl g x
  | b, x, hb, hx => by
    by_cases h : g x = 0
    · rw [lev_zero h]; exact Nat.zero_le _
    · obtain ⟨p1, p2, _⟩ := par_spec hn hg hx h
      have hbx := bl_up hn hg ho hx p1 p2
      rw [lev_succ hn hg ho hx h]
      match b, hb with
      | 0, hb => omega
      | b + 1, hb =>
        have := lev_le_bl hn hg ho b _ (by omega) p1
        omega
theorem nz_of_lev {x L : Nat} (h : lev g n x = L + 1) : g x ≠ 0 := fun q => by rw [lev_zero q] at h; cases h
theorem key_same (hn : n ≤ 10) (hg : Sm n n g) (ho : Ord n g) (h2 : NoTwo g n) : ∀ (L x y : Nat), L ≤ 10 → x < n → y < n → lev g n x = L → lev g n y = L → sg g n y < sg g n x → keyF g n L y + 11 ^ (20 - L) ≤ keyF g n L x
  | 0, x, y, _, hx, hy, _, _, hs => by
    have := ps_up hy hs
    simp only [keyF]
    have h3 := Nat.mul_le_mul_right (11 ^ 20) (show ps g n y + 1 + 1 ≤ ps g n x + 1 by omega)
    rw [Nat.add_mul (ps g n y + 1), Nat.one_mul] at h3
    exact h3
  | L + 1, x, y, hL, hx, hy, ex, ey, hs => by
    have hzx := nz_of_lev ex
    have hzy := nz_of_lev ey
    obtain ⟨p1, p2, p3⟩ := par_spec hn hg hy hzy
    obtain ⟨q1, q2, q3⟩ := par_spec hn hg hx hzx
    rw [lev_succ hn hg ho hx hzx] at ex
    rw [lev_succ hn hg ho hy hzy] at ey
    have hle : bl g y ≤ bl g x := by rcases sg_cases hn hy hx (Nat.le_of_lt hs) with q | ⟨q, _⟩ <;> omega
    have hp := q3 _ p1 (sub_bl hn hg h2 hx hy hle _ p2)
    have hps := ps_up hy hs
    have hpx := ps_lt (g := g) hx
    have hpy := ps_lt (g := g) hy
    have e20 : 20 - (L + 1) = 19 - L := by omega
    simp only [keyF]
    rw [e20]
    obtain ⟨W, hW⟩ : ∃ W, W = 11 ^ (19 - L) := ⟨_, rfl⟩
    rw [← hW]
    rcases Nat.lt_or_ge (sg g n (par g n y)) (sg g n (par g n x)) with hlt | hge
    · have ih := key_same hn hg ho h2 L _ _ (by omega) q1 p1 (by omega) (by omega) hlt
      have e : 11 ^ (20 - L) = 11 * W := by rw [hW, show 20 - L = (19 - L) + 1 by omega, Nat.pow_succ, Nat.mul_comm]
      rw [e] at ih
      have m1 := Nat.mul_le_mul_right W (show ps g n y + 1 ≤ 10 by omega)
      have m2 := Nat.mul_le_mul_right W (show 1 ≤ ps g n x + 1 by omega)
      omega
    · have := sg_inj (g := g) hn p1 q1 (by omega)
      rw [this]
      have m1 := Nat.mul_le_mul_right W (show ps g n y + 1 + 1 ≤ ps g n x + 1 by omega)
      rw [Nat.add_mul (ps g n y + 1), Nat.one_mul] at m1
      omega
/-- Where a point stands among the keys. -/
def rk (g : Nat → Nat) (n x : Nat) : Nat := cn (fun y => decide (key g n y < key g n x)) n
theorem rk_lt {x : Nat} (hx : x < n) : rk g n x < n := by

  have h1 : rk g n x < cn (fun _ => true) n := cn_strict n (fun _ _ _ => rfl) ⟨x, hx, decide_eq_false (Nat.lt_irrefl _), rfl⟩
  have h2 := cn_le (fun _ => true) n
  omega
theorem rk_up {x y : Nat} (hy : y < n) (h : key g n y < key g n x) : rk g n y < rk g n x := by

  exact cn_strict n (fun z _ q => by have q := of_decide_eq_true q; exact decide_eq_true (by omega)) ⟨y, hy, decide_eq_false (Nat.lt_irrefl _), decide_eq_true h⟩
theorem key_par (hn : n ≤ 10) (hg : Sm n n g) (ho : Ord n g) {x : Nat} (hx : x < n) (h : g x ≠ 0) : key g n x = key g n (par g n x) + (ps g n x + 1) * 11 ^ (19 - lev g n (par g n x)) := by
  unfold key
  rw [lev_succ hn hg ho hx h]
  rfl
theorem lev_ten (hn : n ≤ 10) (hg : Sm n n g) (ho : Ord n g) {x : Nat} (hx : x < n) : lev g n x ≤ 10 :=
  Nat.le_trans (lev_le_bl hn hg ho _ x (Nat.le_refl _) hx) (bl_le x)
/-- Who is below x is on a lower level; on the next lower one it has a lower key. -/
theorem below_lev (hn : n ≤ 10) (hg : Sm n n g) (ho : Ord n g) (h2 : NoTwo g n) {x y : Nat} (hx : x < n) (hy : y < n) (h : (g x).testBit y = true) : lev g n y < lev g n x ∧ (lev g n x = lev g n y + 1 → key g n y < key g n x) := by
  have hz : g x ≠ 0 := fun q => by rw [q, Nat.zero_testBit] at h; cases h
  obtain ⟨p1, p2, p3⟩ := par_spec hn hg hx hz
  have hs := p3 y hy h
  have hl := lev_mono hn hg ho h2 _ _ _ (Nat.le_refl _) p1 hy hs
  have e := lev_succ hn hg ho hx hz
  refine ⟨by omega, fun q => ?_⟩
  have hk : key g n y ≤ key g n (par g n x) := by
    rcases Nat.lt_or_ge (sg g n y) (sg g n (par g n x)) with a | a
    · have := key_same hn hg ho h2 (lev g n y) _ _ (lev_ten hn hg ho hy) p1 hy (by omega) rfl a
      have e3 : key g n (par g n x) = keyF g n (lev g n y) (par g n x) := by unfold key; rw [show lev g n (par g n x) = lev g n y by omega]
      have e4 : key g n y = keyF g n (lev g n y) y := rfl
      rw [e3, e4]; exact Nat.le_trans (Nat.le_add_right _ _) this
    · rw [← sg_inj (g := g) hn hy p1 (by omega)]; exact Nat.le_refl _
  rw [key_par hn hg ho hx hz]
  have : 0 < (ps g n x + 1) * 11 ^ (19 - lev g n (par g n x)) := Nat.mul_pos (by omega) (Nat.pow_pos (by decide))
  omega
/-- Who knows nothing of y is one level higher at most; and then it has the lower key. -/
theorem apart_lev (hn : n ≤ 10) (hg : Sm n n g) (ho : Ord n g) (h2 : NoTwo g n) (h3 : NoThree g n) {x y : Nat} (hx : x < n) (hy : y < n) (h : (g x).testBit y = false) : lev g n x ≤ lev g n y + 1 ∧ (lev g n x = lev g n y + 1 → key g n x < key g n y) := by
  by_cases hz : g x = 0
  · rw [lev_zero hz]; exact ⟨Nat.zero_le _, fun q => by cases q⟩
  · obtain ⟨p1, p2, p3⟩ := par_spec hn hg hx hz
    have hs : sg g n (par g n x) < sg g n y := by
      rcases Nat.lt_or_ge (sg g n (par g n x)) (sg g n y) with a | a
      · exact a
      · rw [init hn hg ho h2 h3 hx p1 hy p2 a] at h; cases h
    have hl := lev_mono hn hg ho h2 _ _ _ (Nat.le_refl _) hy p1 (Nat.le_of_lt hs)
    have e := lev_succ hn hg ho hx hz
    refine ⟨by omega, fun q => ?_⟩
    have hk := key_same hn hg ho h2 (lev g n y) _ _ (lev_ten hn hg ho hy) hy p1 rfl (by omega) hs
    rw [key_par hn hg ho hx hz]
    have e2 : lev g n (par g n x) = lev g n y := by omega
    have e3 : key g n (par g n x) = keyF g n (lev g n y) (par g n x) := by unfold key; rw [e2]
    have e4 : key g n y = keyF g n (lev g n y) y := rfl
    have ht := lev_ten hn hg ho hy
    rw [e2, e3, e4]
    obtain ⟨W, hW⟩ : ∃ W, W = 11 ^ (19 - lev g n y) := ⟨_, rfl⟩
    have e5 : 11 ^ (20 - lev g n y) = 11 * W := by rw [hW, show 20 - lev g n y = (19 - lev g n y) + 1 by omega, Nat.pow_succ, Nat.mul_comm]
    have hps := ps_lt (g := g) hx
    have m1 := Nat.mul_le_mul_right W (show ps g n x + 1 ≤ 10 by omega)
    have hWp : 0 < W := by rw [hW]; exact Nat.pow_pos (by decide)
    rw [e5] at hk
    rw [← hW]
    omega
theorem feas_ex (hn : n ≤ 10) (hg : Sm n n g) (ho : Ord n g) (h2 : NoTwo g n) (h3 : NoThree g n) : Feas g n (fun x => lev g n x * n + rk g n x) := by
  constructor
  · intro x y hx hy h
    obtain ⟨a1, a2⟩ := below_lev hn hg ho h2 hx hy h
    have r1 := rk_lt (g := g) hx
    have r2 := rk_lt (g := g) hy
    by_cases e : lev g n x = lev g n y + 1
    · have := rk_up (g := g) hy (a2 e)
      rw [e, Nat.add_mul, Nat.one_mul]; omega
    · have := Nat.mul_le_mul_right n (show lev g n y + 2 ≤ lev g n x by omega)
      rw [Nat.add_mul] at this
      omega
  · intro x y hx hy h h'
    obtain ⟨a1, a2⟩ := apart_lev hn hg ho h2 h3 hy hx h'
    have r1 := rk_lt (g := g) hx
    have r2 := rk_lt (g := g) hy
    by_cases e : lev g n y = lev g n x + 1
    · have := rk_up (g := g) hy (a2 e)
      rw [e, Nat.add_mul, Nat.one_mul]; omega
    · have := Nat.mul_le_mul_right n (show lev g n y ≤ lev g n x by omega)
      omega
end
theorem units_iff {g : Nat → Nat} {n : Nat} (hn : n ≤ 10) (hg : Sm n n g) (ho : Ord n g) : (∃ P, Feas g n P) ↔ NoTwo g n ∧ NoThree g n :=
  ⟨fun ⟨_, h⟩ => ⟨says_noTwo (feas_says h), says_noThree (feas_says h)⟩, fun ⟨h2, h3⟩ => ⟨_, feas_ex hn hg ho h2 h3⟩⟩
theorem noThree_upto {g : Nat → Nat} {n : Nat} : NoThree g n ↔ Upto n (threeP g) (n * n * n * n) := by
  constructor
  · intro h k hk
    have hn : 0 < n := by
      rcases Nat.eq_zero_or_pos n with h0 | h0
      · subst h0; simp at hk
      · exact h0
    obtain ⟨h1, h2, h3, h4⟩ := dig_lt hn hk
    exact h _ _ _ _ h1 h2 h3 h4
  · intro h a b c d ha hb hc hd
    have := h _ (idx_lt ha hb hc hd)
    rwa [P4_idx _ hb hc hd] at this
theorem first_none {n : Nat} {P : Nat → Nat → Nat → Nat → Bool} {l : List Nat} {ok : Bool} (hf : First n P l ok) : Upto n P (n * n * n * n) ↔ ok = false := by
  rcases hf with ⟨rfl, k, hk, hp, _, _⟩ | ⟨rfl, _, hu⟩
  · constructor
    · intro h
      have := h k hk
      rw [hp] at this; cases this
    · intro h; cases h
  · exact ⟨fun _ => rfl, fun _ => hu⟩
theorem units_two_three {g : Nat → Nat} {n : Nat} (hn : n ≤ 10) (hg : Sm n n g) (ho : Ord n g) {l l' : List Nat} {two three : Bool} (h2 : First n (twoP g) l two) (h3 : First n (threeP g) l' three) : (∃ P, Feas g n P) ↔ two = false ∧ three = false := by
  rw [units_iff hn hg ho, noTwo_upto, noThree_upto, first_none h2, first_none h3]
end Go.Proofs.Ytkknfnjhpamfbaa
