/-
  Greene's and Kleitman's theorem, first part: chains and numbers that fit together, and that one step more is possible. Plain facts on a finite strict order: no Go text here. No condition.
-/
import Derived.Test.YtinblbkglkhjmaaDoorRzM
import Derived.Test.YtinblbkglkhjmaaDoorMake
namespace Go.Proofs.YtinblbkglkhjmaaDoor

/-! Sums of integers. -/
def smI (f : Nat → Int) : Nat → Int
  | 0 => 0
  | k + 1 => smI f k + f k
theorem smI_congr {f h : Nat → Int} : ∀ n, (∀ k, k < n → f k = h k) → smI f n = smI h n
  | 0, _ => rfl
  | n + 1, e => by rw [smI, smI, smI_congr n (fun k hk => e k (by omega)), e n (by omega)]
theorem smI_le {f h : Nat → Int} : ∀ n, (∀ k, k < n → f k ≤ h k) → smI f n ≤ smI h n
  | 0, _ => Int.le_refl _
  | n + 1, e => by
    have h1 := smI_le (f := f) (h := h) n (fun k hk => e k (by omega))
    have h2 := e n (by omega)
    rw [smI, smI]; omega
theorem smI_add (f h : Nat → Int) : ∀ n, smI (fun k => f k + h k) n = smI f n + smI h n
  | 0 => rfl
  | n + 1 => by rw [smI, smI, smI, smI_add f h n]; omega
theorem smI_const (c : Int) : ∀ n : Nat, smI (fun _ => c) n = n * c
  | 0 => by simp [smI]
  | n + 1 => by rw [smI, smI_const c n, Int.natCast_succ, Int.add_mul, Int.one_mul]
theorem smI_mulr (f : Nat → Int) (c : Int) : ∀ n, smI (fun k => f k * c) n = smI f n * c
  | 0 => by simp [smI]
  | n + 1 => by rw [smI, smI, smI_mulr f c n, Int.add_mul]
theorem smI_swap (f : Nat → Nat → Int) (m : Nat) : ∀ n, smI (fun i => smI (f i) m) n = smI (fun j => smI (fun i => f i j) n) m
  | 0 => by simp only [smI]; rw [smI_const]; omega
  | n + 1 => by
    simp only [smI]
    rw [smI_swap f m n, ← smI_add]
theorem smI_at (c : Nat → Int) (i : Nat) : ∀ n, smI (fun j => if i = j then c j else 0) n = if i < n then c i else 0
  | 0 => by simp [smI]
  | n + 1 => by
    rw [smI, smI_at c i n]
    by_cases e : i = n
    · subst e; simp
    · by_cases h : i < n
      · rw [if_pos h, if_neg e, if_pos (by omega)]; omega
      · rw [if_neg h, if_neg e, if_neg (by omega)]; omega
/-- How many are so. -/
def nm (P : Nat → Bool) (n : Nat) : Int := smI (fun i => if P i = true then 1 else 0) n
theorem nm_le {P Q : Nat → Bool} {n : Nat} (h : ∀ i, i < n → P i = true → Q i = true) : nm P n ≤ nm Q n :=
  smI_le n fun k hk => by
    by_cases e : P k = true
    · rw [if_pos e, if_pos (h k hk e)]; exact Int.le_refl _
    · rw [if_neg e]; split <;> decide
theorem nm_congr {P Q : Nat → Bool} {n : Nat} (h : ∀ i, i < n → P i = Q i) : nm P n = nm Q n :=
  smI_congr n fun k hk => by rw [h k hk]
theorem nm_nonneg (P : Nat → Bool) (n : Nat) : 0 ≤ nm P n := by
  have := smI_le (f := fun _ => 0) (h := fun i => if P i = true then (1 : Int) else 0) n fun k _ => by split <;> decide
  rw [smI_const] at this; unfold nm; omega
theorem nm_one {P : Nat → Bool} : ∀ n, (∀ i j, i < n → j < n → P i = true → P j = true → i = j) → nm P n ≤ 1
  | 0, _ => by simp [nm, smI]
  | n + 1, h => by
    unfold nm
    rw [smI]
    by_cases e : P n = true
    · rw [if_pos e]
      have : smI (fun i => if P i = true then (1 : Int) else 0) n = smI (fun _ => 0) n := smI_congr n fun k hk => if_neg fun hp => by
        have := h k n (by omega) (by omega) hp e; omega
      rw [this, smI_const]; omega
    · rw [if_neg e]
      have := nm_one (P := P) n fun i j hi hj => h i j (by omega) (by omega)
      unfold nm at this; omega
/-- Numbers that are all others, from 1 to l: no more than l. -/
theorem nm_inj {P : Nat → Bool} {v : Nat → Int} {n l : Nat} (hr : ∀ i, i < n → P i = true → 1 ≤ v i ∧ v i ≤ l) (hi : ∀ i j, i < n → j < n → P i = true → P j = true → v i = v j → i = j) : nm P n ≤ l := by
  have e : nm P n = smI (fun i => smI (fun j => if P i = true ∧ v i = (j : Nat) + 1 then 1 else 0) l) n := smI_congr n fun i hin => by
    by_cases hp : P i = true
    · obtain ⟨h1, h2⟩ := hr i hin hp
      obtain ⟨q, hq⟩ : ∃ q : Nat, v i = (q : Nat) + 1 := ⟨(v i - 1).toNat, by omega⟩
      have : smI (fun j => if P i = true ∧ v i = (j : Nat) + 1 then (1 : Int) else 0) l = smI (fun j => if q = j then 1 else 0) l := smI_congr l fun j _ => by
        by_cases e : q = j
        · subst e; rw [if_pos ⟨hp, hq⟩, if_pos rfl]
        · rw [if_neg (fun h => e (by have := h.2; omega)), if_neg e]
      rw [this, smI_at (fun _ => 1), if_pos hp, if_pos (by omega)]
    · rw [if_neg hp, smI_congr (h := fun _ => 0) l fun j _ => if_neg fun h => hp h.1, smI_const]; omega
  rw [e, smI_swap]
  have : smI (fun j => smI (fun i => if P i = true ∧ v i = (j : Nat) + 1 then (1 : Int) else 0) n) l ≤ smI (fun _ => 1) l := smI_le l fun j _ => by
    have h1 := nm_one (P := fun i => P i && decide (v i = (j : Nat) + 1)) n fun a b ha hb pa pb => by
      rw [Bool.and_eq_true, decide_eq_true_eq] at pa pb
      exact hi a b ha hb pa.1 pb.1 (pa.2.trans pb.2.symm)
    have h2 : nm (fun i => P i && decide (v i = (j : Nat) + 1)) n = smI (fun i => if P i = true ∧ v i = (j : Nat) + 1 then (1 : Int) else 0) n := smI_congr n fun i _ => by
      simp only [Bool.and_eq_true, decide_eq_true_eq]
    omega
  rw [smI_const] at this; omega

/-- Where each goes: to another one above it, to itself (alone), or nowhere (n): and no two go to the same. -/
structure Inj (n : Nat) (x : Nat → Nat) : Prop where
  le : ∀ p, p < n → x p ≤ n
  inj : ∀ p q, p < n → q < n → x p = x q → x p < n → p = q
/-- Does nobody go there? -/
def noHit (n : Nat) (x : Nat → Nat) (q : Nat) : Bool := (List.range n).all fun p => !decide (x p = q)
theorem noHit_iff {n : Nat} {x : Nat → Nat} {q : Nat} : noHit n x q = true ↔ ∀ p, p < n → x p ≠ q := by
  unfold noHit; simp
/-- A sum over all is one over those to whom somebody goes, and over the others. -/
theorem Inj.sum {n : Nat} {x : Nat → Nat} (h : Inj n x) (φ : Nat → Int) :
    smI φ n = smI (fun p => if x p < n then φ (x p) else 0) n + smI (fun q => if noHit n x q = true then φ q else 0) n := by
  have e1 : ∀ q, q < n → φ q = smI (fun p => if x p = q then φ (x p) else 0) n + (if noHit n x q = true then φ q else 0) := fun q hq => by
    by_cases hh : noHit n x q = true
    · have : smI (fun p => if x p = q then φ (x p) else 0) n = smI (fun _ => 0) n := smI_congr n fun p hp => if_neg (noHit_iff.1 hh p hp)
      rw [this, smI_const, if_pos hh]; omega
    · have : ∃ p, p < n ∧ x p = q := by
        refine Classical.byContradiction fun hno => hh (noHit_iff.2 fun p hp e => hno ⟨p, hp, e⟩)
      obtain ⟨p, hp, hpq⟩ := this
      have : smI (fun r => if x r = q then φ (x r) else 0) n = smI (fun r => if p = r then φ (x r) else 0) n := smI_congr n fun r hr => by
        by_cases e : p = r
        · subst e; rw [if_pos hpq, if_pos rfl]
        · rw [if_neg e, if_neg fun h2 => e (h.inj p r hp hr (by omega) (by omega))]
      rw [this, smI_at, if_pos hp, if_neg hh, hpq]; omega
  rw [smI_congr n e1, smI_add, smI_swap]
  congr 1
  refine smI_congr n fun p _ => ?_
  rw [smI_at (fun _ => φ (x p))]

/-- A strict order of n points. -/
structure Str (n : Nat) (lt : Nat → Nat → Bool) : Prop where
  irr : ∀ p, p < n → lt p p = false
  tr : ∀ p q r, p < n → q < n → r < n → lt p q = true → lt q r = true → lt p r = true
/-- Numbers that bound what chains can bring. -/
structure Dul (n : Nat) (lt : Nat → Nat → Bool) (a b : Nat → Int) (l : Nat) : Prop where
  d1 : ∀ q, q < n → b q ≤ l
  d2 : ∀ p, p < n → 0 ≤ a p
  d3 : ∀ p, p < n → b p ≤ a p + 1
  d4 : ∀ p q, p < n → q < n → lt p q = true → b q ≤ a p
/-- A way to go that is tight. -/
def Tgt (n : Nat) (lt : Nat → Nat → Bool) (a b : Nat → Int) (p c : Nat) : Prop := (c = n ∧ a p = 0) ∨ (c = p ∧ b p = a p + 1) ∨ (c < n ∧ lt p c = true ∧ b c = a p)
theorem Tgt.le {n : Nat} {lt : Nat → Nat → Bool} {a b : Nat → Int} {p c : Nat} (h : Tgt n lt a b p c) (hp : p < n) : c ≤ n := by
  rcases h with ⟨rfl, _⟩ | ⟨rfl, _⟩ | ⟨h, _⟩ <;> omega
/-- Chains that fit to the numbers: k of them. -/
structure Fit (n : Nat) (lt : Nat → Nat → Bool) (a b : Nat → Int) (l : Nat) (x : Nat → Nat) (k : Nat) : Prop where
  t : ∀ p, p < n → Tgt n lt a b p (x p)
  inj : ∀ p q, p < n → q < n → x p = x q → x p < n → p = q
  z : ∀ q, q < n → (∀ p, p < n → x p ≠ q) → b q = l
  k : nm (fun p => decide (x p = n)) n = k
def Stt (n : Nat) (lt : Nat → Nat → Bool) (k l : Nat) : Prop := ∃ a b x, Dul n lt a b l ∧ Fit n lt a b l x k

/-- What is come to within t rounds. -/
def Yr (n : Nat) (lt : Nat → Nat → Bool) (a b : Nat → Int) (l : Nat) (x : Nat → Nat) : Nat → Nat → Prop
  | 0, c => c < n ∧ b c = l
  | t + 1, c => Yr n lt a b l x t c ∨ ∃ p, p < n ∧ x p < n ∧ Yr n lt a b l x t (x p) ∧ Tgt n lt a b p c
section
variable {n : Nat} {lt : Nat → Nat → Bool} {a b : Nat → Int} {l : Nat} {x : Nat → Nat}
theorem Yr.mono {t c : Nat} (h : Yr n lt a b l x t c) : ∀ d, Yr n lt a b l x (t + d) c
  | 0 => h
  | d + 1 => .inl (Yr.mono h d)
theorem Yr.up {s t c : Nat} (h : Yr n lt a b l x s c) (hst : s ≤ t) : Yr n lt a b l x t c := by
  have := h.mono (t - s); rwa [show s + (t - s) = t by omega] at this
/-- Chains but for one place to which nobody goes yet. -/
structure Gap (n : Nat) (lt : Nat → Nat → Bool) (a b : Nat → Int) (l : Nat) (x : Nat → Nat) (k c : Nat) : Prop where
  t : ∀ p, p < n → Tgt n lt a b p (x p)
  inj : ∀ p q, p < n → q < n → x p = x q → x p < n → p = q
  u : ∀ p, p < n → x p ≠ c
  z : ∀ q, q < n → q ≠ c → (∀ p, p < n → x p ≠ q) → b q = l
  k : nm (fun p => decide (x p = n)) n = k
theorem nm_upd {x : Nat → Nat} {p c : Nat} (h1 : x p < n) (h2 : c < n) : nm (fun r => decide (upd x p c r = n)) n = nm (fun r => decide (x r = n)) n :=
  nm_congr fun r _ => by
    by_cases e : r = p
    · subst e; rw [upd_same]; rw [decide_eq_false (by omega), decide_eq_false (by omega)]
    · rw [upd_other _ _ _ _ e]
theorem gap_on {k : Nat} : ∀ t c x', c < n → Yr n lt a b l x t c → (∀ s p, s < t → p < n → x p < n → Yr n lt a b l x s (x p) → x' p = x p) → Gap n lt a b l x' k c → ∃ x'', Fit n lt a b l x'' k
  | 0, c, x', _, hY, _, hG => ⟨x', hG.t, hG.inj, fun q hq hn => by
      by_cases e : q = c
      · subst e; exact hY.2
      · exact hG.z q hq e hn, hG.k⟩
  | t + 1, c, x', hc, hY, hA, hG => by
    rcases Classical.em (Yr n lt a b l x t c) with hy | hy
    · exact gap_on t c x' hc hy (fun s p hs => hA s p (by omega)) hG
    · rcases hY with hY | ⟨p, hp, hxp, hYp, hT⟩
      · exact absurd hY hy
      have hx' : x' p = x p := hA t p (by omega) hp hxp hYp
      have hne : x p ≠ c := fun e => hy (e ▸ hYp)
      refine gap_on t (x p) (upd x' p c) hxp hYp (fun s r hs hr hxr hYr => ?_) ⟨fun r hr => ?_, fun r r' hr hr' he hlt => ?_, fun r hr he => ?_, fun q hq hqc hn => ?_, ?_⟩
      · have hrp : r ≠ p := fun e => by
          subst e
          exact hy (Yr.up (s := s + 1) (.inr ⟨r, hr, hxr, hYr, hT⟩) (by omega))
        rw [upd_other _ _ _ _ hrp]
        exact hA s r (by omega) hr hxr hYr
      · by_cases e : r = p
        · subst e; rw [upd_same]; exact hT
        · rw [upd_other _ _ _ _ e]; exact hG.t r hr
      · by_cases e : r = p
        · by_cases e' : r' = p
          · rw [e, e']
          · rw [e, upd_same, upd_other _ _ _ _ e'] at he; exact absurd he.symm (hG.u r' hr')
        · by_cases e' : r' = p
          · rw [e', upd_same, upd_other _ _ _ _ e] at he; exact absurd he (hG.u r hr)
          · rw [upd_other _ _ _ _ e, upd_other _ _ _ _ e'] at he
            rw [upd_other _ _ _ _ e] at hlt
            exact hG.inj r r' hr hr' he hlt
      · by_cases e : r = p
        · rw [e, upd_same] at he; exact hne he.symm
        · rw [upd_other _ _ _ _ e] at he
          exact e (hG.inj r p hr hp (he.trans hx'.symm) (by omega))
      · have hqc2 : q ≠ c := fun e => hn p hp (by rw [upd_same, e])
        refine hG.z q hq hqc2 fun r hr he => ?_
        have e : r ≠ p := fun e => hqc (by rw [← he, e, hx'])
        exact hn r hr (by rw [upd_other _ _ _ _ e]; exact he)
      · rw [nm_upd (by omega) hc]; exact hG.k
theorem fit_more {k t : Nat} (hF : Fit n lt a b l x k) (hY : Yr n lt a b l x t n) : ∃ x', Fit n lt a b l x' (k + 1) := by
  induction t with
  | zero => exact absurd hY.1 (Nat.lt_irrefl _)
  | succ t ih =>
    rcases Classical.em (Yr n lt a b l x t n) with hy | hy
    · exact ih hy
    · rcases hY with hY | ⟨p, hp, hxp, hYp, hT⟩
      · exact absurd hY hy
      have hk : nm (fun r => decide (upd x p n r = n)) n = nm (fun r => decide (x r = n)) n + 1 := by
        have h1 : nm (fun r => decide (upd x p n r = n)) n = smI (fun r => (if decide (x r = n) = true then (1 : Int) else 0) + (if p = r then 1 else 0)) n := smI_congr n fun r _ => by
          show (if decide (upd x p n r = n) = true then (1 : Int) else 0) = (if decide (x r = n) = true then (1 : Int) else 0) + (if p = r then 1 else 0)
          by_cases e : r = p
          · subst e; rw [upd_same, if_pos rfl, if_pos (decide_eq_true rfl), if_neg (by simp; omega)]; rfl
          · rw [upd_other _ _ _ _ e, if_neg (show ¬ p = r from fun h => e h.symm)]; omega
        rw [h1, smI_add, smI_at (fun _ => 1), if_pos hp]; rfl
      refine gap_on t (x p) (upd x p n) hxp hYp (fun s r hs hr hxr hYr => ?_) ⟨fun r hr => ?_, fun r r' hr hr' he hlt => ?_, fun r hr he => ?_, fun q hq hqc hn => ?_, ?_⟩
      · have hrp : r ≠ p := fun e => by
          subst e
          exact hy (Yr.up (s := s + 1) (.inr ⟨r, hr, hxr, hYr, hT⟩) (by omega))
        rw [upd_other _ _ _ _ hrp]
      · by_cases e : r = p
        · subst e; rw [upd_same]; exact hT
        · rw [upd_other _ _ _ _ e]; exact hF.t r hr
      · by_cases e : r = p
        · rw [e, upd_same] at hlt; omega
        · rw [upd_other _ _ _ _ e] at hlt
          by_cases e' : r' = p
          · rw [e', upd_same, upd_other _ _ _ _ e] at he; omega
          · rw [upd_other _ _ _ _ e, upd_other _ _ _ _ e'] at he
            exact hF.inj r r' hr hr' he hlt
      · by_cases e : r = p
        · rw [e, upd_same] at he; omega
        · rw [upd_other _ _ _ _ e] at he
          exact e (hF.inj r p hr hp he (by omega))
      · refine hF.z q hq fun r hr he => ?_
        have e : r ≠ p := fun e => hqc (by rw [← he, e])
        exact hn r hr (by rw [upd_other _ _ _ _ e]; exact he)
      · rw [hk, hF.k]; rfl
/-- A chain more, or the numbers one less. -/
theorem stt_step {k : Nat} (h : Stt n lt k (l + 1)) : Stt n lt (k + 1) (l + 1) ∨ Stt n lt k l := by
  obtain ⟨a, b, x, hD, hF⟩ := h
  rcases Classical.em (∃ t, Yr n lt a b (l + 1) x t n) with ⟨t, ht⟩ | hno
  · obtain ⟨x', hx'⟩ := fit_more hF ht
    exact .inl ⟨a, b, x', hD, hx'⟩
  · right
    have hY : ∀ c, (∃ t, Yr n lt a b (l + 1) x t c) → c ≠ n := fun c hc e => hno (e ▸ hc)
    have clo : ∀ p c, p < n → x p < n → (∃ t, Yr n lt a b (l + 1) x t (x p)) → Tgt n lt a b p c → ∃ t, Yr n lt a b (l + 1) x t c :=
      fun p c hp hx ⟨t, ht⟩ hT => ⟨t + 1, .inr ⟨p, hp, hx, ht, hT⟩⟩
    have ini : ∀ q, q < n → b q = ((l + 1 : Nat) : Int) → ∃ t, Yr n lt a b (l + 1) x t q := fun q hq hb => ⟨0, hq, hb⟩
    generalize hYY : (fun c => ∃ t, Yr n lt a b (l + 1) x t c) = Y at *
    have hY' : ∀ c, Y c → c ≠ n := fun c hc => hY c (by rw [← hYY] at hc; exact hc)
    have clo' : ∀ p c, p < n → x p < n → Y (x p) → Tgt n lt a b p c → Y c := fun p c hp hx hy hT => by
      rw [← hYY] at hy ⊢; exact clo p c hp hx hy hT
    have ini' : ∀ q, q < n → b q = ((l + 1 : Nat) : Int) → Y q := fun q hq hb => by rw [← hYY]; exact ini q hq hb
    clear hY clo ini hYY hno
    have dec : ∀ P : Prop, ∃ i : Int, (P ∧ i = 1) ∨ (¬ P ∧ i = 0) := fun P => by
      rcases Classical.em P with h | h
      · exact ⟨1, .inl ⟨h, rfl⟩⟩
      · exact ⟨0, .inr ⟨h, rfl⟩⟩
    obtain ⟨y, hy⟩ := Classical.axiomOfChoice fun q => dec (Y q)
    have zin : ∀ p, p < n → Y (x p) → x p < n := fun p hp h => by
      have h1 := hY' _ h; have h2 := (hF.t p hp).le hp; omega
    have l1 : ((l + 1 : Nat) : Int) = (l : Int) + 1 := by omega
    rw [l1] at ini'
    have D1 := hD.d1; rw [l1] at D1
    refine ⟨fun p => a p - y (x p), fun q => b q - y q, x, ⟨fun q hq => ?_, fun p hp => ?_, fun p hp => ?_, fun p q hp hq hlt => ?_⟩, ⟨fun p hp => ?_, hF.inj, fun q hq hn => ?_, hF.k⟩⟩
    · have := D1 q hq
      rcases hy q with ⟨h1, h2⟩ | ⟨h1, h2⟩
      · show b q - y q ≤ l; omega
      · have : b q ≠ (l : Int) + 1 := fun e => h1 (ini' q hq e)
        show b q - y q ≤ l; omega
    · have := hD.d2 p hp
      show 0 ≤ a p - y (x p)
      rcases hy (x p) with ⟨h1, h2⟩ | ⟨h1, h2⟩
      · have : a p ≠ 0 := fun e => hY' n (clo' p n hp (zin p hp h1) h1 (.inl ⟨rfl, e⟩)) rfl
        omega
      · omega
    · have := hD.d3 p hp
      show b p - y p ≤ a p - y (x p) + 1
      rcases hy (x p) with ⟨h1, h2⟩ | ⟨h1, h2⟩
      · rcases hy p with ⟨h3, h4⟩ | ⟨h3, h4⟩
        · omega
        · have : b p ≠ a p + 1 := fun e => h3 (clo' p p hp (zin p hp h1) h1 (.inr (.inl ⟨rfl, e⟩)))
          omega
      · rcases hy p with ⟨h3, h4⟩ | ⟨h3, h4⟩ <;> omega
    · have := hD.d4 p q hp hq hlt
      show b q - y q ≤ a p - y (x p)
      rcases hy (x p) with ⟨h1, h2⟩ | ⟨h1, h2⟩
      · rcases hy q with ⟨h3, h4⟩ | ⟨h3, h4⟩
        · omega
        · have : b q ≠ a p := fun e => h3 (clo' p q hp (zin p hp h1) h1 (.inr (.inr ⟨hq, hlt, e⟩)))
          omega
      · rcases hy q with ⟨h3, h4⟩ | ⟨h3, h4⟩ <;> omega
    · rcases hF.t p hp with ⟨h1, h2⟩ | ⟨h1, h2⟩ | ⟨h1, h2, h3⟩
      · left
        refine ⟨h1, ?_⟩
        show a p - y (x p) = 0
        rcases hy (x p) with ⟨h3, h4⟩ | ⟨h3, h4⟩
        · exact absurd h1 (hY' _ h3)
        · omega
      · right; left
        refine ⟨h1, ?_⟩
        show b p - y p = a p - y (x p) + 1
        rw [h1]; omega
      · right; right
        refine ⟨h1, h2, ?_⟩
        show b (x p) - y (x p) = a p - y (x p)
        omega
    · have h1 := hF.z q hq hn
      rw [l1] at h1
      show b q - y q = l
      rcases hy q with ⟨h3, h4⟩ | ⟨h3, h4⟩
      · omega
      · exact absurd (ini' q hq h1) h3
end
end Go.Proofs.YtinblbkglkhjmaaDoor
