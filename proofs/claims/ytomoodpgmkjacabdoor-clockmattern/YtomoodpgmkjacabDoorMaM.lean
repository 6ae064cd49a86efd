/-
  MATTERN, FIDGE: an event is below another one just if its counts are no more anywhere, and they are two. Plain facts: no Go text here. Conditions: as each theorem says.
-/
import Derived.Test.YtomoodpgmkjacabDoorCtP
namespace Go.Proofs.YtomoodpgmkjacabDoor
open Go.RowKit

theorem cnt_succ (E : Nat → Int × Int × Int) (s m u : Nat) : cntL E (pts s (m + 1)) u = cntL E (pts s m) u + (if s.testBit m = true ∧ wrk E m = u then 1 else 0) := by
  cases h : s.testBit m
  · rw [pts_no h]; simp
  · rw [pts_yes h, cntL_snoc]
    unfold upd
    by_cases e : u = wrk E m
    · subst e; simp
    · rw [if_neg e, if_neg (fun ⟨_, h2⟩ => e h2.symm)]; omega
theorem cnt_le {E : Nat → Int × Int × Int} {s t u : Nat} : ∀ m, (∀ j, j < m → t.testBit j = true → wrk E j = u → s.testBit j = true) → cntL E (pts t m) u ≤ cntL E (pts s m) u
  | 0, _ => by simp [pts]
  | m + 1, h => by
    have ih := cnt_le (E := E) (s := s) (t := t) (u := u) m (fun j hj => h j (by omega))
    rw [cnt_succ, cnt_succ]
    have h1 := h m (by omega)
    by_cases c : t.testBit m = true ∧ wrk E m = u
    · rw [if_pos c, if_pos ⟨h1 c.1 c.2, c.2⟩]; omega
    · rw [if_neg c]; omega
theorem cnt_lt {E : Nat → Int × Int × Int} {s t u i : Nat} (hs : s.testBit i = true) (hw : wrk E i = u) (ht : t.testBit i = false) : ∀ m, i < m → (∀ j, j < m → t.testBit j = true → wrk E j = u → s.testBit j = true) → cntL E (pts t m) u < cntL E (pts s m) u
  | 0, hi, _ => absurd hi (Nat.not_lt_zero _)
  | m + 1, hi, h => by
    rw [cnt_succ, cnt_succ]
    have h1 := h m (by omega)
    by_cases e : i = m
    · subst e
      have ih := cnt_le (E := E) (s := s) (t := t) (u := u) i (fun j hj => h j (by omega))
      rw [if_neg (fun ⟨h2, _⟩ => by rw [ht] at h2; cases h2), if_pos ⟨hs, hw⟩]; omega
    · have ih := cnt_lt hs hw ht m (by omega) (fun j hj => h j (by omega))
      by_cases c : t.testBit m = true ∧ wrk E m = u
      · rw [if_pos c, if_pos ⟨h1 c.1 c.2, c.2⟩]; omega
      · rw [if_neg c]; omega
/-- They are two, and up to the m-th worker the counts are no more. -/
def nb (E : Nat → Int × Int × Int) (n i k : Nat) : Nat → Bool
  | 0 => decide (¬ i = k)
  | m + 1 => nb E n i k m && decide (cts E n i m ≤ cts E n k m)
theorem nb_iff (E : Nat → Int × Int × Int) (n i k : Nat) : ∀ m, nb E n i k m = true ↔ (¬ i = k ∧ ∀ u, u < m → cts E n i u ≤ cts E n k u)
  | 0 => by simp [nb]
  | m + 1 => by
    rw [nb, Bool.and_eq_true, nb_iff E n i k m, decide_eq_true_eq]
    constructor
    · rintro ⟨⟨h1, h2⟩, h3⟩
      exact ⟨h1, upto_succ h2 h3⟩
    · rintro ⟨h1, h2⟩
      exact ⟨⟨h1, fun u hu => h2 u (by omega)⟩, h2 m (by omega)⟩
theorem same_lead {Wn : Nat} {E : Nat → Int × Int × Int} {n i j : Nat} (hev : ∀ j, j < n → EvIs (Wn : Int) E j 0) (hj : j < n) (hij : i < j) (hw : wrk E i = wrk E j) : (ahd E n j).testBit i = true := by
  have h1 := (hev i (by omega)).good.2.1
  have h2 := (hev j hj).good.2.1
  refine ahd_lead ⟨hj, hij, ?_⟩
  have : (E i).2.1 = (E j).2.1 := by unfold wrk at hw; omega
  simp [leadB, this]
theorem mattern {Wn : Nat} {E : Nat → Int × Int × Int} {n i k : Nat} (hn : n ≤ 10) (hev : ∀ j, j < n → EvIs (Wn : Int) E j 0) (hi : i < n) (hk : k < n) : nb E n i k Wn = (ahd E n k).testBit i := by
  rw [Bool.eq_iff_iff, nb_iff]
  have hub : ∀ x y, (upto (ahd E n) x).testBit y = true ↔ y = x ∨ (ahd E n x).testBit y = true := fun x y => by
    rw [upto_bit]; simp [upt]
  constructor
  · rintro ⟨hne, hle⟩
    refine Classical.byContradiction fun hno => ?_
    have hno' : (ahd E n k).testBit i = false := by simpa using hno
    have hwi : wrk E i < Wn := by have := (hev i hi).good.2.1; unfold wrk; omega
    have h1 := hle (wrk E i) hwi
    have h2 : cts E n k (wrk E i) < cts E n i (wrk E i) := by
      unfold cts
      refine cnt_lt (i := i) ((hub i i).2 (.inl rfl)) rfl ?_ 10 (by omega) fun j hj hb hw => ?_
      · cases hb : (upto (ahd E n) k).testBit i
        · rfl
        · rcases (hub k i).1 hb with e | e
          · exact absurd e hne
          · exact absurd e hno
      · have hjk : j = k ∨ (ahd E n k).testBit j = true := (hub k j).1 hb
        have hjn : j < n := by
          rcases hjk with e | e
          · omega
          · have := ahd_lt hk e; omega
        rcases Nat.lt_trichotomy j i with h | h | h
        · exact (hub i j).2 (.inr (same_lead hev hi h hw))
        · exact (hub i j).2 (.inl h)
        · have hij := same_lead hev hjn h hw.symm
          rcases hjk with e | e
          · subst e; exact absurd hij hno
          · exact absurd (ahd_trans hk hij e) hno
    omega
  · intro h
    have hlt := ahd_lt hk h
    refine ⟨by omega, fun u _ => ?_⟩
    unfold cts
    refine cnt_le 10 fun j _ hb _ => ?_
    rcases (hub i j).1 hb with e | e
    · subst e; exact (hub k j).2 (.inr h)
    · exact (hub k j).2 (.inr (ahd_trans hk e h))
end Go.Proofs.YtomoodpgmkjacabDoor
