/-
  Rows in which a point stands ahead of one or two others. Plain facts: no Go text here. Conditions: at most ten points.
-/
import Derived.Test.YtdnpegjekckmgaaRefAhead
namespace Go.Proofs.Ytdnpegjekckmgaa
open Go.RowKit

/-- What each point needs, where A must stand ahead of B and C. -/
def bth (g : Nat → Nat) (A B C : Nat) : Nat → Nat := kn g (fun k => if k = 0 then (A, B) else (A, C)) 2
theorem bth_one (g : Nat → Nat) (A B : Nat) : kn g (fun _ => (A, B)) 1 = bth g A B B := by
  funext i
  simp only [bth, kn]
  by_cases e : i = B
  · subst e
    simp [upd, Nat.or_assoc, Nat.or_self]
  · simp [upd, e]
theorem bth_sm {g : Nat → Nat} {A B C n : Nat} (hg : Sm n n g) (hA : A < n) (hB : B < n) (hC : C < n) : Sm n n (bth g A B C) :=
  kn_sm hg 2 (fun j _ => by by_cases e : j = 0 <;> simp [e, hA, hB, hC])
theorem lack_or {x A s : Nat} (hx : x < 1024) (hA : A < 10) (hs : s < 1024) : lack (x ||| pw A) s = 0 ↔ lack x s = 0 ∧ s.testBit A = true := by
  have h1 : x ||| pw A < 1024 := Nat.or_lt_two_pow (n := 10) hx (Nat.pow_lt_pow_right (by decide) hA)
  rw [lack_zero _ _ (by omega) (by omega), lack_zero _ _ (by omega) (by omega)]
  constructor
  · intro h
    refine ⟨fun i hi => h i (by rw [Nat.testBit_or, hi]; rfl), h A ?_⟩
    rw [Nat.testBit_or, pw_bit]; simp
  · rintro ⟨h, hb⟩ i hi
    rw [Nat.testBit_or, pw_bit] at hi
    by_cases e : A = i
    · rw [← e]; exact hb
    · simp [e] at hi; exact h i hi
theorem may_or {g u : Nat → Nat} {A s i : Nat} (hx : g i < 1024) (hA : A < 10) (hs : s < 1024) (e : u i = g i ||| pw A) : may u s i = (may g s i && s.testBit A) := by
  unfold may
  rw [e, Bool.and_assoc]
  congr 1
  rw [Bool.eq_iff_iff, decide_eq_true_iff, lack_or hx hA hs]
  simp
theorem may_bth {g : Nat → Nat} {A B C n : Nat} (hn : n ≤ 10) (hg : Sm n n g) (hA : A < n) (s i : Nat) (hs : s < pw n) (hi : i < n) :
    may (bth g A B C) s i = (may g s i && !((decide (i = B) || decide (i = C)) && !s.testBit A)) := by
  have hpn := pw_le n hn
  have hx : g i < 1024 := Nat.lt_of_lt_of_le (hg i hi) hpn
  have hs2 : s < 1024 := Nat.lt_of_lt_of_le hs hpn
  by_cases eB : i = B
  · have e : bth g A B C i = g i ||| pw A := by
      simp only [bth, kn]
      by_cases eC : i = C
      · simp [upd, ← eB, ← eC, Nat.or_assoc, Nat.or_self]
      · simp [upd, ← eB, eC]
    rw [may_or hx (by omega) hs2 e]
    simp [eB]
  · by_cases eC : i = C
    · have e : bth g A B C i = g i ||| pw A := by
        simp only [bth, kn]
        have eB2 : ¬ C = B := fun h => eB (eC.trans h)
        simp [upd, eC, eB2]
      rw [may_or hx (by omega) hs2 e]
      simp [eC]
    · have e : bth g A B C i = g i := by simp [bth, kn, upd, eB, eC]
      simp [may, e, eB, eC]
/-- Nobody stands ahead of himself. -/
theorem ways_bth_self {g : Nat → Nat} {A B C n : Nat} (hn : n ≤ 10) (hg : Sm n n g) (hA : A < n) (hB : B < n) (hC : C < n) (h : A = B ∨ A = C) : ways (bth g A B C) n 0 = 0 := by
  have hsm := bth_sm hg hA hB hC
  have hpn := pw_le n hn
  have hlt := hsm A hA
  have e : (bth g A B C A).testBit A = true := by
    simp only [bth, kn]
    rcases h with h | h
    · subst h
      by_cases eC : A = C
      · simp [upd, ← eC, Nat.testBit_or, pw_bit]
      · simp [upd, eC, Nat.testBit_or, pw_bit]
    · subst h
      simp [upd, Nat.testBit_or, pw_bit]
  exact ways_self hA (by omega) e hn _ 0 (Nat.le_refl _) (pw_pos n) (Nat.zero_testBit A)
end Go.Proofs.Ytdnpegjekckmgaa
