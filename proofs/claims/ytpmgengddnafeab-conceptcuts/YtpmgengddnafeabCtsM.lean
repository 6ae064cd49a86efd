/-
  The concepts of an order's points, with what is each or above it as its marks, are its cuts: plain facts. Conditions: as each theorem says.
-/
import Derived.Test.YtpmgengddnafeabConT
import Derived.Test.YtpmgengddnafeabCutsP
namespace Go.Proofs.Ytpmgengddnafeab

theorem mko_lwr (g : Nat → Nat) (n s : Nat) : ∀ k, mko (upto g) n s k = lwr g n s k
  | 0 => rfl
  | k + 1 => by simp only [mko, lwr, mko_lwr g n s k]
theorem low_bits (g : Nat → Nat) (n s i : Nat) : (low g n s).testBit i = true ↔ i < n ∧ ∀ k, k < n → s.testBit k = true → upt g i k = true := by
  have h : low g n s = mks (upto g) n n s := (mko_lwr g n s n).symm
  rw [h, mks_iff]
  constructor
  · rintro ⟨h1, h2⟩; exact ⟨h1, fun k hk hs => by rw [← upto_bit]; exact h2 k hk hs⟩
  · rintro ⟨h1, h2⟩; exact ⟨h1, fun k hk hs => by rw [upto_bit]; exact h2 k hk hs⟩
theorem upt_turn {g : Nat → Nat} {n i k : Nat} (hk : k < n) : upt (trn g n) k i = upt g i k := by
  unfold upt
  rw [trn_bit]
  by_cases e : k = i
  · subst e; simp
  · have e2 : ¬ i = k := fun h => e h.symm
    simp [e, e2, hk]
theorem ths_low {g : Nat → Nat} {n M : Nat} (h10 : n ≤ 10) (hM : M < pw n) : ths (upto (trn g n)) n M = low g n M := by
  have hh : ∀ k, k < n → upto (trn g n) k < 1024 := fun k hk => upto_lt (trn_1024 g h10 k hk) (by omega)
  apply Nat.eq_of_testBit_eq
  intro j
  rw [Bool.eq_iff_iff, ths_iff (set_1024 h10 hM) hh, low_bits]
  constructor
  · rintro ⟨h1, h2⟩
    refine ⟨h1, fun k hk hs => ?_⟩
    have := h2 k hs
    rw [upto_bit, upt_turn hk] at this
    exact this
  · rintro ⟨h1, h2⟩
    refine ⟨h1, fun i hi => ?_⟩
    have hin : i < n := bit_of_lt hM hi
    rw [upto_bit, upt_turn hin]
    exact h2 i hin hi
theorem clt_cut {g : Nat → Nat} {n s : Nat} (h10 : n ≤ 10) : clt (upto (trn g n)) n n s = cutW g n s := by
  have h : mks (upto (trn g n)) n n s = low (trn g n) n s := mko_lwr (trn g n) n s n
  show ths (upto (trn g n)) n (mks (upto (trn g n)) n n s) = low g n (low (trn g n) n s)
  rw [h]
  exact ths_low h10 (low_lt _ _ _)
theorem filQ_fil (I : Nat → Bool) : ∀ k, filQ I k = fil I k
  | 0 => rfl
  | k + 1 => by simp only [filQ, fil, filQ_fil I k]
theorem cuts_tsets {g : Nat → Nat} {n : Nat} (h10 : n ≤ 10) : cuts g n = tsets (upto (trn g n)) n n := by
  unfold cuts tsets
  rw [filQ_fil]
  refine fil_congr _ (fun s _ => ?_)
  unfold isCut isT
  rw [clt_cut h10, Bool.eq_iff_iff]
  simp
theorem upto_sum {g : Nat → Nat} {n i : Nat} (ho : (trn g n i).testBit i = false) (ht : trn g n i < 1024) (hi : i < 10) : upto (trn g n) i = trn g n i + pw i := by
  have hz : trn g n i &&& pw i = 0 := by
    apply Nat.eq_of_testBit_eq
    intro j
    rw [Nat.testBit_and, pw_bit, Nat.zero_testBit]
    by_cases e : i = j
    · subst e; rw [ho]; rfl
    · simp [e]
  have := add_or_and 10 (trn g n i) (pw i) ht (Nat.pow_lt_pow_right (by decide) hi)
  unfold upto
  omega
end Go.Proofs.Ytpmgengddnafeab
