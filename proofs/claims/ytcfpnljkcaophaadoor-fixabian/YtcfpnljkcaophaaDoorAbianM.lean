/-
  Abian and Brown: above a point that goes up there is one that goes to itself. Plain facts on numbers.
-/
import Derived.Test.YtcfpnljkcaophaaDoorInOrd
import Derived.Test.YtcfpnljkcaophaaDoorIrrM
namespace Go.Proofs.YtcfpnljkcaophaaDoor
open Go.RowKit

theorem lack_none {a b : Nat} (ha : a < 18446744073709551616) (hb : b < 18446744073709551616) (h : lack a b = 0) {k : Nat} (hk : a.testBit k = true) : b.testBit k = true := by
  have := lack_bit a b k ha hb
  rw [h, hk] at this
  cases hb' : b.testBit k
  · rw [hb'] at this; simp at this
  · rfl
theorem up_refl (g : Nat → Nat) (x : Nat) : upB g x x = true := by rw [upB_eq]; simp
theorem up_trans {n : Nat} {g : Nat → Nat} (ho : Ord n g) (hs : ∀ k, k < n → g k < 1024) {x y z : Nat} (hy : y < n) (hz : z < n) (h1 : upB g x y = true) (h2 : upB g y z = true) : upB g x z = true := by
  rw [upB_eq, Bool.or_eq_true, decide_eq_true_eq] at h1 h2
  rcases h1 with h1 | rfl
  · rcases h2 with h2 | rfl
    · rw [upB_eq, lack_none (by have := hs y hy; omega) (by have := hs z hz; omega) ((ho z hz).2 y hy h2) h1]; rfl
    · rw [upB_eq, h1]; rfl
  · rw [upB_eq, Bool.or_eq_true, decide_eq_true_eq]; exact h2
theorem up_anti {n : Nat} {g : Nat → Nat} (ho : Ord n g) (hs : ∀ k, k < n → g k < 1024) {x y : Nat} (hx : x < n) (hy : y < n) (h1 : upB g x y = true) (h2 : upB g y x = true) : x = y := by
  rw [upB_eq, Bool.or_eq_true, decide_eq_true_eq] at h1 h2
  rcases h1 with h1 | h1
  · rcases h2 with h2 | h2
    · have := lack_none (by have := hs y hy; omega) (by have := hs x hx; omega) ((ho x hx).2 y hy h2) h1
      rw [(ho x hx).1] at this
      cases this
    · exact h2
  · exact h1.symm
/-- How many are below a point, or it. -/
def dn (g : Nat → Nat) (n i : Nat) : Nat := cntB (fun x => upB g x i) n
theorem abian {n : Nat} {g f : Nat → Nat} (ho : Ord n g) (hs : ∀ k, k < n → g k < 1024) (hf : ∀ k, k < n → f k < n) (hm : MonP (upB g) (upB g) f n) :
    ∀ (c i : Nat), n - dn g n i ≤ c → i < n → upB g i (f i) = true → ∃ k, k < n ∧ f k = k ∧ upB g i k = true := by
  intro c
  induction c with
  | zero =>
    intro i hc hi h
    by_cases e : f i = i
    · exact ⟨i, hi, e, up_refl _ _⟩
    · have h1 : dn g n i < dn g n (f i) := cntB_lt n (fun x hx hp => up_trans ho hs hi (hf i hi) hp h) ⟨f i, hf i hi, by
        cases hb : upB g (f i) i
        · rfl
        · exact absurd (up_anti ho hs (hf i hi) hi hb h) e, up_refl _ _⟩
      have h2 : dn g n (f i) ≤ n := cntB_le _ _
      omega
  | succ c ih =>
    intro i hc hi h
    by_cases e : f i = i
    · exact ⟨i, hi, e, up_refl _ _⟩
    · have h1 : dn g n i < dn g n (f i) := cntB_lt n (fun x hx hp => up_trans ho hs hi (hf i hi) hp h) ⟨f i, hf i hi, by
        cases hb : upB g (f i) i
        · rfl
        · exact absurd (up_anti ho hs (hf i hi) hi hb h) e, up_refl _ _⟩
      have h2 : dn g n (f i) ≤ n := cntB_le _ _
      obtain ⟨k, hk, hfk, hik⟩ := ih (f i) (by omega) (hf i hi) (hm _ (hf i hi) _ hi h)
      exact ⟨k, hk, hfk, up_trans ho hs (hf i hi) hk h hik⟩
end Go.Proofs.YtcfpnljkcaophaaDoor
